/- Stage 12's program: List, Text. -/
import Derived.Test.YtfalohmdjnhikaaDoorSkillA
import Derived.Test.YtfalohmdjnhikaaDoorBuilder
namespace Go.Proofs.YtfalohmdjnhikaaDoor
open Go.RowKit

/-! ### List -/
/-- what is gathered, in its box -/
def IBox (w : World) (r B : Nat) (L : List Int) : Prop := ∃ v, w.heap[r]? = some (.cells #[v] 23) ∧ OwnI w B v L
theorem owni_ne {w : World} {r B : Nat} {v u : Value} {L : List Int} (hr : w.heap[r]? = some (.cells #[u] 23)) (h : OwnI w B v L) : v.ownBlock ≠ some r := by
  rcases h.2 with ⟨rfl, _⟩ | ⟨g, cap, cur, rfl, _, hh, _⟩
  · simp [Value.ownBlock]
  · intro e
    simp [Value.ownBlock] at e
    subst e
    rw [hr] at hh
    cases hh
theorem hset1 {w : World} {b : Nat} {x : Value} {t : TypeId} (h : w.heap[b]? = some (.cells #[x] t)) (x' : Value) : (w.setCell ⟨b, 0, none⟩ x').heap[b]? = some (.cells #[x'] t) := by
  unfold World.setCell
  simp only [Array.getElem?_modify, if_pos, h, Option.map_some]
  rfl

set_option maxHeartbeats 2000000 in
set_option maxRecDepth 100000 in
theorem stell_any (n : Nat) (r B : Nat) (L : List Int) (w : World) (hBw : B ≤ w.heap.size) (hBr : B ≤ r) (h : IBox w r B L) (hL : L.length ≤ 100000) :
    Calls Tryd.prog 21 #[.int .i64 (n : Int), .pointer (some ⟨r, 0, none⟩)] w fun e w' => e = .returned (.tuple #[]) ∧ IBox w' r B (L ++ [(n : Int)]) ∧ Below B w w' := by
  obtain ⟨i0, hi, hz0, hz1, hz2⟩ := info_parts info_int
  obtain ⟨v, h1, h2⟩ := h
  have H1 := Lib.hid h1
  have hr4 : (w.alloc (.cells #[.int .i64 (n : Int)] 3)).heap[r]? = some (.cells #[v] 23) := (Below.heap_alloc w _ r (lt_of_block h1)).trans h1
  have ho4 := OwnR.alloc h2 (.cells #[.int .i64 (n : Int)] 3)
  have c0 : w.cell? ⟨r, 0, none⟩ = some v := by simp [World.cell?, h1]
  have HR4 := Lib.hid hr4
  have HNE := Lib.hid (owni_ne hr4 ho4)
  have HO4 := Lib.hid ho4
  have HP := Lib.hid (oneI w (n : Int))
  have HB4 := Lib.hid ((Below.refl B w).alloc hBw (.cells #[.int .i64 (n : Int)] 3))
  clear h1 h2 hr4 ho4
  go_enter Tryd.func21, Tryd.ntmps21
  go_wp2_with (at_builtin; refine wpList_append_rows csI_len (by decide) csI_one rfl _ _ 23 rfl B 3 i0 (.int .i64 0) 8 Tryd.underlying23 hi hz0 hz1 hz2 rfl _ _ rfl HO4.out _ [(n : Int)] rfl HP.out (by unfold maxLen; simp; omega) (by simp; omega) (by have := HB4.out.size; omega) ?_)
  intro v' w5 o5 g5
  have hr5 := (g5.block r (lt_of_block HR4.out) (fun e => HNE.out e.symm)).trans HR4.out
  have hB5 : Below B w w5 := OwnR.below HO4.out HB4.out (by have := HB4.out.size; omega) g5
  have c5 : w5.cell? ⟨r, 0, none⟩ = some v := by simp [World.cell?, hr5]
  have z5 : w5.frozen? ⟨r, 0, none⟩ = false := by simp [World.frozen?, hr5]
  have hfin : IBox (w5.setCell ⟨r, 0, none⟩ v') r B (L ++ [(n : Int)]) := ⟨v', hset1 hr5 v', OwnR.away o5 ⟨r, 0, none⟩ v' (owni_ne hr5 o5)⟩
  have HF := Lib.hid hfin
  have HB6 := Lib.hid (hB5.setCell (p := ⟨r, 0, none⟩) hBr v')
  obtain ⟨a, c, hv⟩ := IntsAt.form (OwnI.ints o5)
  rw [List.length_append, List.length_singleton] at hv
  subst hv
  clear o5 g5 hr5 hB5 hfin
  go_wp2
  go_end0
  exact ⟨rfl, HF.out, HB6.out⟩

set_option maxHeartbeats 2000000 in
set_option maxRecDepth 100000 in
theorem sList_any (w : Nat) (W : World) (hw : w < 2 ^ 64) (hT : Tabs W) : Calls Tryd.prog 9 #[.int .u64 (w : Int)] W fun e w' => ∃ v, e = .returned v ∧ OwnI w' W.heap.size v (ints (lsS w 64)) ∧ Below W.heap.size W w' := by
  have hlen : ∀ d n, d ++ [n] <+: lsS w 64 → d.length ≤ 100 := fun d n h => by
    have h1 := h.length_le
    have := lsS_len w 64
    simp at h1
    omega
  have hE := each_List w (.pointer (some ⟨W.heap.size, 0, none⟩)) (fun d w1 => IBox w1 W.heap.size W.heap.size (ints d) ∧ Below W.heap.size W w1) hw
    (fun d w1 h => hT.below h.2)
    (fun d n w1 _ hp h => (stell_any n W.heap.size W.heap.size (ints d) w1 h.2.size (Nat.le_refl _) h.1 (by rw [ints_len]; have := hlen d n hp; omega)).mono fun e w2 ⟨he, h1, h2⟩ =>
      ⟨he, by rw [ints_append]; exact h1, h.2.trans h2⟩)
    (W.alloc (.cells #[.slice none 0 0] 23)) ⟨⟨_, heap_alloc_new W _, OwnR.nil _ _ _ _ _⟩, (Below.refl _ W).alloc (Nat.le_refl _) _⟩
  have HE := Lib.hid hE
  have hil := ints_len (lsS w 64)
  generalize ints (lsS w 64) = X at *
  have HIL := Lib.hid hil
  clear hE hil
  go_enter Tryd.func9, Tryd.ntmps9
  go_wp2_with (go_at_call 20; (with_reducible refine HE.out.mono ?_))
  rintro e w1 ⟨rfl, ⟨v, h1, h2⟩, h3⟩
  have c0 : w1.cell? ⟨W.heap.size, 0, none⟩ = some v := by simp [World.cell?, h1]
  have HO := Lib.hid h2
  have HB := Lib.hid h3
  clear h1 h2 h3
  go_wp2
  go_ret
  exact ⟨_, rfl, HO.out, HB.out⟩

/-! ### Text -/
theorem txt_cells (L : List UInt8) (c : UInt8) : Lib.byteCells (L ++ [c]) = Lib.byteCells L ++ [.int .u8 (c.toNat : Int)] := by simp [Lib.byteCells]
set_option maxHeartbeats 2000000 in
set_option maxRecDepth 100000 in
theorem swrite_any (n : Nat) (b B : Nat) (L : List UInt8) (w : World) (hn : n < 64) (hT : Tabs w) (hBw : B ≤ w.heap.size) (h : Lib.IsBuilder 45 5 B b (Lib.byteCells L) w) (hL : L.length ≤ 100000) :
    Calls Tryd.prog 25 #[.int .i64 (n : Int), .pointer (some ⟨b, 0, none⟩)] w fun e w' => e = .returned (.tuple #[]) ∧ Lib.IsBuilder 45 5 B b (Lib.byteCells (L ++ [sg n])) w' ∧ Below B w w' := by
  have c0 := hT.sgn n hn
  have n0 : (0 : Int) ≤ (n : Int) := by omega
  have n1 : (n : Int) < 64 := by omega
  have hb := bbyte_any B b (Lib.byteCells L) ((sg n).toNat : Int) w h (by simp [Lib.byteCells]; omega) hBw
  rw [← txt_cells] at hb
  have HB := Lib.hid hb
  generalize ((sg n).toNat : Int) = C at *
  clear hb
  go_enter Tryd.func25, Tryd.ntmps25
  go_wp2_with (go_at_call 26; (with_reducible refine HB.out.mono ?_); rintro e w1 ⟨rfl, h1, h2⟩; have H1 := Lib.hid h1; clear h1)
  go_end0
  exact ⟨rfl, .inr H1.out, h2⟩

set_option maxHeartbeats 2000000 in
set_option maxRecDepth 100000 in
theorem sText_any (w : Nat) (W : World) (hw : w < 2 ^ 64) (hT : Tabs W) : Calls Tryd.prog 17 #[.int .u64 (w : Int)] W fun e w' => e = .returned (.string (bs12 (txtS w))) ∧ Below W.heap.size W w' := by
  by_cases h0 : w = 0
  · subst h0
    have e : bs12 (txtS 0) = ⟨#[45]⟩ := by
      have : txtS 0 = [45] := by decide +kernel
      rw [this]; rfl
    rw [e]
    go_enter Tryd.func17, Tryd.ntmps17
    go_wp2
    go_ret
    exact ⟨rfl, Below.refl _ _⟩
  · have hlen : ∀ d n, d ++ [n] <+: lsS w 64 → d.length ≤ 100 := fun d n h => by
      have h1 := h.length_le
      have := lsS_len w 64
      simp at h1
      omega
    have hE := each_Text w (.pointer (some ⟨W.heap.size, 0, none⟩)) (fun d w1 => Lib.IsBuilder 45 5 W.heap.size W.heap.size (Lib.byteCells (d.map sg)) w1 ∧ Below W.heap.size W w1) hw
      (fun d w1 h => hT.below h.2)
      (fun d n w1 hn hp h => (swrite_any n W.heap.size W.heap.size (d.map sg) w1 hn (hT.below h.2) h.2.size h.1 (by rw [List.length_map]; have := hlen d n hp; omega)).mono fun e w2 ⟨he, h1, h2⟩ =>
        ⟨he, by rw [List.map_append]; exact h1, h.2.trans h2⟩)
      (W.alloc (.cells #[.pointer none, .slice none 0 0] 45)) ⟨Lib.fresh_isBuilder 45 5 W, (Below.refl _ W).alloc (Nat.le_refl _) _⟩
    have htx := txtS_nz w hw h0
    rw [← htx] at hE
    have HE := Lib.hid hE
    have HS := Lib.hid fun w1 h hz => Tryd.Builder_String_any W.heap.size W.heap.size (txtS w) w1 h hz
    have e0 : ((w : Int) == 0) = false := by simp; omega
    rw [show bs12 (txtS w) = ⟨(txtS w).toArray⟩ from rfl]
    generalize txtS w = X at *
    clear hE htx
    go_enter Tryd.func17, Tryd.ntmps17
    go_wp2_with (first
      | (go_at_call 20; (with_reducible refine HE.out.mono ?_); rintro e w1 ⟨rfl, h1, h2⟩; have H1 := Lib.hid h1; have H2 := Lib.hid h2; clear h1 h2)
      | (go_at_call 27; (with_reducible refine (HS.out _ H1.out H2.out.size).mono ?_); rintro e w2 ⟨rfl, h3⟩))
    go_ret
    exact ⟨rfl, H2.out.trans h3⟩
end Go.Proofs.YtfalohmdjnhikaaDoor
