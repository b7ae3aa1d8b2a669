/- The walks of package walk: a walk's text. -/
import Derived.Test.YtibeljppjaenbaaWalkA
import Derived.Test.YtibeljppjaenbaaWalkRefT
import Derived.Test.YtibeljppjaenbaaNumB
import Derived.Test.YtibeljppjaenbaaBuilder
namespace Go.Proofs.Ytibeljppjaenbaa
open Go.RowKit

theorem mtx_is (k n : Int) : mtx (k, n) = if k < 1 ∨ 4 < k ∨ ct n = 0 then [] else ltr k :: (if ct n = 1 then [] else pl (ct n)) := by
  unfold mtx
  by_cases h : k < 1 ∨ 4 < k
  · rw [if_pos (show cnt (k, n) = 0 by unfold cnt; rw [if_pos h]), if_pos (by omega)]
  · rw [cnt_ct k n (by omega) (by omega)]
    by_cases h0 : ct n = 0
    · rw [if_pos h0, if_pos (by omega)]
    · rw [if_neg h0, if_neg (show ¬ (k < 1 ∨ 4 < k ∨ ct n = 0) by omega)]

set_option maxHeartbeats 2000000 in
theorem wtext_any (k n : Int) (w : World) : Calls Try.prog 30 #[.agg #[.int .i64 k, .int .i64 n]] w fun e w' => e = .returned (.string (bz (mtx (k, n)))) ∧ Below w.heap.size w w' := by
  have hm := mtx_is k n
  obtain ⟨R, hR⟩ : ∃ R, bz (mtx (k, n)) = R := ⟨_, rfl⟩
  rw [hR]
  have hnil : ByteArray.empty = bz [] := rfl
  obtain ⟨c0, c1⟩ := ct_bd n
  have hc := fun w => wcount_any n w
  have hp := fun w => print_any (ct n) w (by omega) (by omega)
  generalize ct n = c at *
  have C0 := Cell2.new w (.int .i64 k) (.int .i64 n) 48
  have u0 := C0.c0
  have u1 := C0.c1
  have hB : Below w.heap.size w (w.alloc (.cells #[.int .i64 k, .int .i64 n] 48)) := (Below.refl _ _).alloc (Nat.le_refl _) _
  have HC := Lib.hid hc
  clear hc C0
  by_cases h1 : k < 1
  · rw [if_pos (.inl h1)] at hm
    rw [hm] at hR
    subst hR
    clear hp hm
    go_enter Try.func30, Try.ntmps30
    go_wp2_with (go_at_call 57; refine (HC.out _).mono ?_; rintro e w1 ⟨rfl, rfl⟩)
    go_ret
    exact ⟨rfl, hB⟩
  by_cases h4 : 4 < k
  · rw [if_pos (.inr (.inl h4))] at hm
    rw [hm] at hR
    subst hR
    clear hp hm
    go_enter Try.func30, Try.ntmps30
    go_wp2_with (go_at_call 57; refine (HC.out _).mono ?_; rintro e w1 ⟨rfl, rfl⟩)
    go_ret
    exact ⟨rfl, hB⟩
  by_cases h0 : c = 0
  · subst h0
    rw [if_pos (.inr (.inr rfl))] at hm
    rw [hm] at hR
    subst hR
    clear hp hm
    go_enter Try.func30, Try.ntmps30
    go_wp2_with (go_at_call 57; refine (HC.out _).mono ?_; rintro e w1 ⟨rfl, rfl⟩)
    go_ret
    exact ⟨rfl, hB⟩
  rw [if_neg (by omega)] at hm
  rw [hm] at hR
  have g0 : ((⟨#[70, 66, 76, 82]⟩ : ByteArray)[0]'(by decide)).toNat = 70 := rfl
  have g1 : ((⟨#[70, 66, 76, 82]⟩ : ByteArray)[1]'(by decide)).toNat = 66 := rfl
  have g2 : ((⟨#[70, 66, 76, 82]⟩ : ByteArray)[2]'(by decide)).toNat = 76 := rfl
  have g3 : ((⟨#[70, 66, 76, 82]⟩ : ByteArray)[3]'(by decide)).toNat = 82 := rfl
  have v0 : Utf8.encode 70 = bz [70] := by decide +kernel
  have v1 : Utf8.encode 66 = bz [66] := by decide +kernel
  have v2 : Utf8.encode 76 = bz [76] := by decide +kernel
  have v3 : Utf8.encode 82 = bz [82] := by decide +kernel
  have z1 : (bz [70]).size = 1 := rfl
  have z2 : (bz [66]).size = 1 := rfl
  have z3 : (bz [76]).size = 1 := rfl
  have z4 : (bz [82]).size = 1 := rfl
  have hk : k = 1 ∨ k = 2 ∨ k = 3 ∨ k = 4 := by omega
  by_cases hc1 : c = 1
  · subst hc1
    clear hp hm
    rw [if_pos rfl] at hR
    rcases hk with rfl | rfl | rfl | rfl
    all_goals
      subst hR
      go_enter Try.func30, Try.ntmps30
      go_wp2_with (go_at_call 57; refine (HC.out _).mono ?_; rintro e w1 ⟨rfl, rfl⟩)
      go_ret
      exact ⟨rfl, hB⟩
  · rw [if_neg hc1] at hR
    clear hm
    have hpz : (bz (pl c)).size ≤ 21 := by rw [bz_size]; exact pl_le c
    change ∀ w, Calls _ _ _ w fun e w' => e = .returned (.string (bz (pl c))) ∧ Below w.heap.size w w' at hp
    have HP := Lib.hid hp
    clear hp
    have ha : ∀ x, bz [x] ++ bz (pl c) = bz (x :: pl c) := fun x => bz_app [x] (pl c)
    generalize hq : bz (pl c) = q at *
    clear hq
    rcases hk with rfl | rfl | rfl | rfl
    · have hov : ¬ 9223372036854775807 < (bz [70]).size + q.size := by omega
      go_enter Try.func30, Try.ntmps30
      go_wp2_with (first
        | (go_at_call 57; refine (HC.out _).mono ?_; rintro e w1 ⟨rfl, rfl⟩)
        | (go_at_call 58; refine (HP.out _).mono ?_; rintro e w1 ⟨rfl, hb⟩; replace hB := hB.trans (hb.mono (by simp)); clear hb u0 u1))
      go_ret
      exact ⟨by rw [← hR]; rfl, hB⟩
    · have hov : ¬ 9223372036854775807 < (bz [66]).size + q.size := by omega
      go_enter Try.func30, Try.ntmps30
      go_wp2_with (first
        | (go_at_call 57; refine (HC.out _).mono ?_; rintro e w1 ⟨rfl, rfl⟩)
        | (go_at_call 58; refine (HP.out _).mono ?_; rintro e w1 ⟨rfl, hb⟩; replace hB := hB.trans (hb.mono (by simp)); clear hb u0 u1))
      go_ret
      exact ⟨by rw [← hR]; rfl, hB⟩
    · have hov : ¬ 9223372036854775807 < (bz [76]).size + q.size := by omega
      go_enter Try.func30, Try.ntmps30
      go_wp2_with (first
        | (go_at_call 57; refine (HC.out _).mono ?_; rintro e w1 ⟨rfl, rfl⟩)
        | (go_at_call 58; refine (HP.out _).mono ?_; rintro e w1 ⟨rfl, hb⟩; replace hB := hB.trans (hb.mono (by simp)); clear hb u0 u1))
      go_ret
      exact ⟨by rw [← hR]; rfl, hB⟩
    · have hov : ¬ 9223372036854775807 < (bz [82]).size + q.size := by omega
      go_enter Try.func30, Try.ntmps30
      go_wp2_with (first
        | (go_at_call 57; refine (HC.out _).mono ?_; rintro e w1 ⟨rfl, rfl⟩)
        | (go_at_call 58; refine (HP.out _).mono ?_; rintro e w1 ⟨rfl, hb⟩; replace hB := hB.trans (hb.mono (by simp)); clear hb u0 u1))
      go_ret
      exact ⟨by rw [← hR]; rfl, hB⟩

theorem row_kept {w w1 : World} {B size n : Nat} {e : TypeId} {v : Value} {xs : List Value} (h : w.ownsRow B e size v n xs) (hb : Below w.heap.size w w1) : w1.ownsRow B e size v n xs := by
  refine ⟨h.1, ?_⟩
  rcases h.2 with h0 | ⟨g, cap, cur, rfl, hg, hh, rest⟩
  · exact .inl h0
  · exact .inr ⟨g, cap, cur, rfl, hg, (hb.block g (lt_of_block hh)).trans hh, rest⟩
theorem builderAt_kept {T e : TypeId} {B b : Nat} {p : Value} {bs : List Value} {w w1 : World} (h : Lib.BuilderAt T e B b p bs w) (hb : Below w.heap.size w w1) : Lib.BuilderAt T e B b p bs w1 := by
  obtain ⟨hB, v, hbk, hown, hne⟩ := h
  exact ⟨hB, v, (hb.block b (lt_of_block hbk)).trans hbk, row_kept hown hb, hne⟩
theorem builder_kept {T e : TypeId} {B b : Nat} {bs : List Value} {w w1 : World} (h : Lib.IsBuilder T e B b bs w) (hb : Below w.heap.size w w1) : Lib.IsBuilder T e B b bs w1 :=
  h.imp (fun h => builderAt_kept h hb) (fun h => builderAt_kept h hb)
theorem builder_new (w : World) : Lib.IsBuilder 54 5 w.heap.size w.heap.size (Lib.byteCells []) (w.alloc (.cells #[.pointer none, .slice none 0 0] 54)) :=
  .inl ⟨Nat.le_refl _, .slice none 0 0, heap_alloc_new w _, World.ownsRow_nil _ _ _ _, by simp [Value.ownBlock]⟩

set_option maxHeartbeats 2000000 in
theorem wText_any (va : Value) (l : List (Int × Int)) (w : World) (ha : PairsAt w va l) (hl : l.length ≤ 1000000) :
    Calls Try.prog 11 #[va] w fun e w' => e = .returned (.string (bz (wtx l))) ∧ Below w.heap.size w w' := by
  obtain ⟨a, ca, rfl, hca, ha⟩ := ha
  have hB0 : Below w.heap.size w (w.alloc (.cells #[.pointer none, .slice none 0 0] 54)) := (Below.refl _ _).alloc (Nat.le_refl _) _
  have b0 := builder_new w
  obtain ⟨B, hBB⟩ : ∃ B, w.heap.size = B := ⟨_, rfl⟩
  have hBz : ∀ {w' : World}, Below B w w' → B ≤ w'.heap.size := fun h => hBB ▸ h.size
  go_enter Try.func11, Try.ntmps11
  go_wp2
  rw [hBB] at b0 hB0
  go_loopw [5, 8] (fun _ i wr => ∃ k : Nat, k ≤ l.length ∧ i = .int .i64 k ∧ Lib.IsBuilder 54 5 B B (Lib.byteCells (wtx (l.take k))) wr ∧ Below B w wr) (fun _ i _ => l.length - (intOf i).toNat)
  case atStart => exact ⟨0, Nat.zero_le _, rfl, b0, hB0⟩
  case round =>
    clear b0 hB0
    obtain ⟨k, hk, rfl, hb, hB⟩ := hrel
    by_cases hlt : k < l.length
    · have hsucc := wtx_succ l k hlt
      have hle := wtx_le l k
      obtain ⟨ga, oa, rfl, hga, hxa⟩ := ha (by omega)
      obtain ⟨⟨x1, x2⟩, hx⟩ : ∃ x, l[k]'hlt = x := ⟨_, rfl⟩
      have hx0 := hxa k _ (List.getElem?_eq_getElem hlt)
      rw [hx] at hx0 hsucc
      have p1 : wr.cell? ⟨ga, oa + k * 2, none⟩ = some (.int .i64 x1) := (hB.cell (p := ⟨ga, oa + k * 2, none⟩) (show ga < B by omega)).trans hx0.1
      have p2 : wr.cell? ⟨ga, oa + k * 2 + 1, none⟩ = some (.int .i64 x2) := (hB.cell (p := ⟨ga, oa + k * 2 + 1, none⟩) (show ga < B by omega)).trans hx0.2
      have hm := mtx_le (x1, x2)
      have hlen : (Lib.byteCells (wtx (l.take k))).length = (wtx (l.take k)).length := Lib.byteCells_length _
      have hz : (bz (mtx (x1, x2))).size = (mtx (x1, x2)).length := bz_size _
      have hcells : Lib.byteCells (wtx (l.take k)) ++ Lib.strCells (bz (mtx (x1, x2))) = Lib.byteCells (wtx (l.take (k + 1))) := by rw [hsucc, Lib.byteCells_append]; rfl
      have htx := fun w => wtext_any x1 x2 w
      generalize mtx (x1, x2) = m at *
      generalize hcur : Lib.byteCells (wtx (l.take k)) = cur at *
      generalize hnxt : Lib.byteCells (wtx (l.take (k + 1))) = nxt at *
      have HT := Lib.hid htx
      have HC := Lib.hid hcells
      have HN := Lib.hid hnxt
      clear hx0 hxa ha hx hsucc htx hcells hcur hnxt
      have hsz := hB.size
      have hB2 := hB.alloc (by omega) (.cells #[.int .i64 x1, .int .i64 x2] 48)
      have hb2 := builder_kept hb ((Below.refl _ wr).alloc (Nat.le_refl _) (.cells #[.int .i64 x1, .int .i64 x2] 48))
      go_wp2_with (first
        | (go_at_call 30; refine (HT.out _).mono ?_; rintro e w1 ⟨rfl, h1⟩; replace hb2 := builder_kept hb2 h1; replace hB2 := hB2.trans (h1.mono (hBz hB2)); clear h1)
        | (go_at_call 29; refine (bwrite_any B B cur (bz m) _ hb2 (by omega) (hBz hB2)).mono ?_; rintro e w2 ⟨rfl, h1, h2⟩; replace hB2 := hB2.trans h2; rw [HC.out] at h1; clear h2))
      go_roundw
      case rel => exact ⟨k + 1, by omega, by go_num, by rw [HN.out]; exact .inr h1, hB2⟩
      case measure => simp [intOf]; omega
    · have e : l.take k = l := List.take_of_length_le (by omega)
      rw [e] at hb
      have hst := Try.Builder_String_any B B (wtx l) wr hb (hBz hB)
      generalize hm : wtx l = m at *
      clear ha
      go_wp2_with (go_at_call 31; refine hst.mono ?_; rintro e w1 ⟨rfl, h1⟩; replace hB := hB.trans h1; clear h1)
      go_ret
      exact ⟨by rw [hm]; rfl, by rw [hBB]; exact hB⟩
end Go.Proofs.Ytibeljppjaenbaa
