/- Rows that are brought into new memory (slices.Grow, slices.Concat of bytes). -/
import Derived.Test.YtgfcgabaacdjlaaBss
import Derived.Lib.AppendZerosOnto
namespace Go.Proofs.Ytgfcgabaacdjlaa
open Go.RowKit

set_option maxHeartbeats 2000000 in
set_option maxRecDepth 100000 in
/-- room for so many -/
theorem grow_any (n : Nat) (w : World) (hn : n ≤ 1000000000) :
    Calls Try.prog 22 #[.slice none 0 0, .int .i64 (n : Int)] w fun e w' => ∃ v, e = .returned v ∧ OwnB w' w.heap.size v [] ∧ Below w.heap.size w w' := by
  obtain ⟨i0, hi, hz0, hz1, hz2⟩ := info_parts info_byte
  by_cases h0 : n = 0
  · subst h0
    go_enter Try.func22, Try.ntmps22
    go_wp2
    go_ret
    exact ⟨_, rfl, OwnR.nil _ _ _ _ _, Below.refl _ _⟩
  · have h1 : ¬ ((n : Int) < 0) := by omega
    have h2 : (0 : Int) < (n : Int) := by omega
    have h3 : (n : Int) ≤ 1000000000 := by omega
    have hold : (Builtin.firstCells i0.size 0 (.slice none 0 0)).run Try.prog w.drew = .ok ([] : List Value).toArray w.drew := run_firstCells_none w.drew i0.size 0 0 0
    have hrz : ∀ ty, (Builtin.append_ #[27, 3] ty #[.slice none 0 0, .int .i64 (n : Int)]).run Try.prog w =
        .ok (.slice (some ⟨w.heap.size, 0, none⟩) n (grownCap w n 0 5)) (w.drew.alloc (.cells (Builtin.zeroCells (Value.int .u8 0).cells n ++ Builtin.zeroCells (Value.int .u8 0).cells (grownCap w n 0 5 - n)) 5)) := fun ty => by
      have h := Lib.run_append_grow_zeros w 27 3 ty 5 i0 (.int .u8 0) .i64 .i64 Try.underlying27 Try.underlying3 hi hz0 none 0 0 [] hold n (by omega) (by rw [hz1]; decide) (by omega) (by omega)
        (by rw [hz2]; omega) (by rw [hz2, Nat.zero_add, nextslicecap_zero (show 0 < n by omega)]; omega)
      rw [Nat.zero_add] at h
      simpa using h
    have hG : n ≤ grownCap w n 0 5 := grownCap_ge w _ _ _
    have hG2 := grownCap_le_maxLen w n 0 5 (by unfold maxLen; omega)
    obtain ⟨G, hg⟩ : ∃ G, G = grownCap w n 0 5 := ⟨_, rfl⟩
    rw [← hg] at hrz hG hG2
    have g1 : (n : Int) ≤ (G : Int) := by omega
    have g2 : (G : Int) ≤ 9223372036854775807 := by unfold maxLen at hG2; omega
    obtain ⟨X, hX⟩ : ∃ X, X = Builtin.zeroCells (Value.int .u8 0).cells n ++ Builtin.zeroCells (Value.int .u8 0).cells (G - n) := ⟨_, rfl⟩
    rw [← hX] at hrz
    have hXs : X.size = G * 1 := by rw [hX]; simp only [Array.size_append, size_zeroCells]; simp [Value.cells]; omega
    have HO := Lib.hid (World.ownsRow_made (e := 5) (size := 1) (base := w.heap.size) w.drew X G (by simp) hG2 hXs)
    have HB := Lib.hid ((Below.refl w.heap.size w).drew.alloc (by simp) (.cells X 5))
    clear hg hX hXs hold hG2
    go_enter Try.func22, Try.ntmps22
    go_wp2_with (at_builtin; refine Lib.wpList_append_run _ rfl _ _ _ _ rfl _ _ rfl rfl _ _ (hrz _) ?_)
    all_goals (go_ret; exact ⟨_, rfl, HO.out, HB.out⟩)

/-- all of them, one behind the other -/
def cat (L : List (List UInt8)) : List UInt8 := L.flatten
theorem cat_next (L : List (List UInt8)) (k : Nat) (h : k < L.length) : cat (L.take (k + 1)) = cat (L.take k) ++ L[k] := by
  unfold cat
  rw [List.take_succ_eq_append_getElem h, List.flatten_append]
  simp
theorem cat_le (L : List (List UInt8)) (k : Nat) : (cat (L.take k)).length ≤ (cat L).length := by
  have : cat L = cat (L.take k) ++ cat (L.drop k) := by
    unfold cat
    rw [← List.flatten_append, List.take_append_drop]
  rw [this, List.length_append]
  omega

set_option maxHeartbeats 4000000 in
set_option maxRecDepth 100000 in
theorem concat_any (va : Value) (L : List (List UInt8)) (w : World) (ha : BssAt w va L) (hl : L.length ≤ 1000000) (hc : (cat L).length ≤ 1000000000) :
    Calls Try.prog 18 #[va] w fun e w' => ∃ v, e = .returned v ∧ OwnB w' w.heap.size v (cat L) ∧ Below w.heap.size w w' := by
  obtain ⟨i0, hi, hz0, hz1, hz2⟩ := info_parts info_byte
  have HA := Lib.hid ha
  have HN := fun k h => Lib.hid (cat_next L k h)
  have HL := fun k => Lib.hid (cat_le L k)
  obtain ⟨a, c, rfl⟩ := BssAt.form ha
  have hg := fun n (h : n ≤ 1000000000) => Lib.hid (grow_any n w h)
  clear ha
  go_enter Try.func18, Try.ntmps18
  go_wp2
  go_loopw [3, 11] (fun s i wr => ∃ k : Nat, k ≤ L.length ∧ s = .int .i64 ((cat (L.take k)).length : Int) ∧ i = .int .i64 k ∧ w = wr) (fun _ i _ => L.length - (intOf i).toNat)
  case atStart => exact ⟨0, Nat.zero_le _, by simp [cat], rfl, rfl⟩
  case round =>
    obtain ⟨k, hk, rfl, rfl, rfl⟩ := hrel
    by_cases hlt : k < L.length
    · obtain ⟨g, o, cc, x, n, e, _, p0, hx⟩ := BssAt.at HA.out k hlt
      cases e
      have hn := congrArg List.length (HN k hlt).out
      rw [List.length_append] at hn
      have h1 := (HL (k + 1)).out
      have k0 : (0 : Int) ≤ (k : Int) := by omega
      have k1 : (k : Int) < (L.length : Int) := by omega
      generalize (cat (L.take k)).length = s at *
      generalize L[k].length = m at *
      have s1 : (s : Int) + (m : Int) ≤ 1000000000 := by omega
      have s0 : (0 : Int) ≤ (s : Int) := by omega
      have m0 : (0 : Int) ≤ (m : Int) := by omega
      have HNN := Lib.hid hn
      clear hn h1 hx
      go_wp2
      go_roundw
      case rel => exact ⟨k + 1, by omega, by rw [HNN.out]; go_num, by go_num, by trivial⟩
      case measure => simp [intOf] <;> omega
    · have hke : k = L.length := by omega
      subst hke
      rw [List.take_length]
      have hcc := (hg _ hc).out
      generalize (cat L).length = N at *
      have N0 : (N : Int) ≤ 1000000000 := by omega
      have HC := Lib.hid hcc
      clear hcc hlt hk hg
      go_wp2_with (go_at_call 22; (with_reducible refine HC.out.mono ?_); rintro e w1 ⟨v, rfl, hp, hb⟩; have HP := Lib.hid hp; clear hp)
      go_loopw [6, 27] (fun v i wr => ∃ k : Nat, k ≤ L.length ∧ OwnB wr w.heap.size v (cat (L.take k)) ∧ i = .int .i64 k ∧ Below w.heap.size w wr) (fun _ i _ => L.length - (intOf i).toNat)
      case atStart => exact ⟨0, Nat.zero_le _, HP.out, rfl, hb⟩
      case round =>
        clear HP hb
        obtain ⟨k, hk, hown, rfl, hB⟩ := hrel
        have hsz : w.heap.size ≤ wr.heap.size := hB.size
        by_cases hlt : k < L.length
        · obtain ⟨g, o, cc, x, n, e, _, p0, hx⟩ := BssAt.at (HA.out.kept hB) k hlt
          cases e
          have hn := congrArg List.length (HN k hlt).out
          rw [List.length_append] at hn
          have h1 := (HL (k + 1)).out
          have k0 : (0 : Int) ≤ (k : Int) := by omega
          have k1 : (k : Int) < (L.length : Int) := by omega
          have hlen : (cat (L.take k)).length + L[k].length ≤ 1000000000 := by omega
          have HNK := HN k hlt
          clear hn h1
          go_wp2_with (at_builtin; refine wpList_append_rows csB_len (by decide) csB_one rfl _ _ 27 rfl w.heap.size 5 i0 (.int .u8 0) 1 Try.underlying27 hi hz0 hz1 hz2 rfl _ _ rfl hown _ _ rfl hx (by unfold maxLen; omega) (by omega) hsz ?_)
          intro v' w5 h1 h2
          have hB5 := OwnR.below hown hB hsz h2
          replace h1 : OwnB w5 w.heap.size v' (cat (L.take k) ++ L[k]) := h1
          rw [← HNK.out] at h1
          have HO5 := Lib.hid h1
          clear h1 h2 hB hown p0 hx
          go_wp2
          go_roundw
          case rel => exact ⟨k + 1, by omega, HO5.out, by go_num, hB5⟩
          case measure => simp [intOf] <;> omega
        · have hke : k = L.length := by omega
          subst hke
          rw [List.take_length] at hown
          have HOW := Lib.hid hown
          clear hown
          go_wp2
          go_ret
          exact ⟨_, rfl, HOW.out, hB⟩

/-! ### A row of lists in a block -/
theorem bss_heap {w : World} {ts : List Sl} {L : List (List UInt8)} {g : Nat} {T : TypeId} (h : EachB w none ts L) (hh : w.heap[g]? = some (.cells (ts.map sl).toArray T)) : BssAt w (.slice (some ⟨g, 0, none⟩) ts.length ts.length) L := by
  refine ⟨ts, ⟨_, _, rfl, Nat.le_refl _, fun _ => ⟨g, 0, rfl, (Array.getElem?_eq_some_iff.1 hh).1, fun j x hj i u hu => ?_⟩⟩, h⟩
  rcases i with _ | i
  · simp [csS] at hu
    subst hu
    unfold World.cell?
    simp only [hh]
    simp [hj]
  · simp [csS] at hu
theorem bss_two_at {w : World} {va vb : Value} {l r : List UInt8} {g : Nat} {T : TypeId} (ha : BytesAt w va l) (hb : BytesAt w vb r) (hh : w.heap[g]? = some (.cells #[va, vb] T)) : BssAt w (.slice (some ⟨g, 0, none⟩) 2 2) [l, r] := by
  obtain ⟨a1, c1, rfl⟩ := RowsAt.form ha
  obtain ⟨a2, c2, rfl⟩ := RowsAt.form hb
  have hN : EachB w none [] [] := ⟨rfl, fun j t l h => by simp at h⟩
  have hn : ∀ (l : List UInt8) (a : Option Addr), 0 < l.length → ∀ b, a = some b → some b.block ≠ none := fun _ _ _ _ _ e => by cases e
  exact bss_heap (ts := [(a1, l.length, c1), (a2, r.length, c2)]) ((hN.snoc (t := (a1, l.length, c1)) ha (hn _ _)).snoc (t := (a2, r.length, c2)) hb (hn _ _)) hh
theorem bss_two {w : World} {va vb : Value} {l r : List UInt8} (ha : BytesAt w va l) (hb : BytesAt w vb r) (T : TypeId) : BssAt (w.alloc (.cells #[va, vb] T)) (.slice (some ⟨w.heap.size, 0, none⟩) 2 2) [l, r] := by
  have hB := (Below.refl w.heap.size w).alloc (Nat.le_refl _) (.cells #[va, vb] T)
  have ha := ha.kept hB
  have hb := hb.kept hB
  obtain ⟨a, c, rfl⟩ := RowsAt.form ha
  obtain ⟨a', c', rfl⟩ := RowsAt.form hb
  refine ⟨[(a, l.length, c), (a', r.length, c')], ⟨_, 2, rfl, by simp, fun _ => ⟨_, _, rfl, by simp, fun j x hj i u hu => ?_⟩⟩, rfl, fun j t m h1 h2 => ?_⟩
  · rcases j with _ | _ | j
    · simp at hj; subst hj
      rcases i with _ | i
      · simp [csS, sl] at hu; subst hu; simp [World.cell?_alloc_at]
      · simp [csS] at hu
    · simp at hj; subst hj
      rcases i with _ | i
      · simp [csS, sl] at hu; subst hu; simp [World.cell?_alloc_at]
      · simp [csS] at hu
    · simp at hj
  · rcases j with _ | _ | j
    · simp at h1 h2; subst h1; subst h2; exact ⟨ha, fun _ _ _ e => by cases e⟩
    · simp at h1 h2; subst h1; subst h2; exact ⟨hb, fun _ _ _ e => by cases e⟩
    · simp at h1
end Go.Proofs.Ytgfcgabaacdjlaa
