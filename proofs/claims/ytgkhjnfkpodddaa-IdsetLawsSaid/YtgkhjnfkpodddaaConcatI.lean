/- Lists of lists of numbers; rows of numbers that are brought into new memory (slices.Grow, slices.Concat at []int). FOR ALL LATER STAGES. -/
import Derived.Test.YtgkhjnfkpodddaaBss
import Derived.Test.YtgkhjnfkpodddaaOneI
import Derived.Lib.AppendZerosOnto
namespace Go.Proofs.Ytgkhjnfkpodddaa
open Go.RowKit

/-- a list of lists of numbers -/
def IssAt (w : World) (v : Value) (L : List (List Int)) : Prop := ∃ ts : List Sl, RowsAt w 1 csS v ts ∧ ts.length = L.length ∧ ∀ (j : Nat) (t : Sl) (l : List Int), ts[j]? = some t → L[j]? = some l → RowsAt w 1 csI (sl t) l
theorem IssAt.kept {w w' : World} {v : Value} {L : List (List Int)} (h : IssAt w v L) (hb : Below w.heap.size w w') : IssAt w' v L := by
  obtain ⟨ts, h1, h2, h3⟩ := h
  exact ⟨ts, h1.kept hb, h2, fun j t l e1 e2 => (h3 j t l e1 e2).kept hb⟩
theorem IssAt.form {w : World} {v : Value} {L : List (List Int)} (h : IssAt w v L) : ∃ a c, v = .slice a L.length c := by
  obtain ⟨ts, h1, h2, _⟩ := h
  obtain ⟨a, c, e⟩ := h1.form
  rw [h2] at e
  exact ⟨a, c, e⟩
theorem IssAt.at {w : World} {v : Value} {L : List (List Int)} (h : IssAt w v L) (k : Nat) (hk : k < L.length) :
    ∃ g o c a n, v = .slice (some ⟨g, o, none⟩) L.length c ∧ g < w.heap.size ∧ w.cell? ⟨g, o + k, none⟩ = some (.slice a L[k].length n) ∧ RowsAt w 1 csI (.slice a L[k].length n) L[k] := by
  obtain ⟨ts, h1, h2, h3⟩ := h
  obtain ⟨a, c, e, hc, hx⟩ := h1
  have hkt : k < ts.length := by rw [h2]; exact hk
  obtain ⟨g, o, e', hg, hcell⟩ := hx (by omega)
  subst e'
  have hb := h3 k ts[k] L[k] (List.getElem?_eq_getElem hkt) (List.getElem?_eq_getElem hk)
  obtain ⟨a', n, e2⟩ := RowsAt.form hb
  have hcl := hcell k ts[k] (List.getElem?_eq_getElem hkt) 0 (sl ts[k]) rfl
  rw [e2] at hb hcl
  rw [h2] at e
  rw [Nat.mul_one, Nat.add_zero] at hcl
  exact ⟨g, o, c, a', n, e, hg, hcl, hb⟩
/-- two lists that a call gathers -/
theorem iss_two {w : World} {va vb : Value} {l r : List Int} (ha : RowsAt w 1 csI va l) (hb : RowsAt w 1 csI vb r) (T : TypeId) : IssAt (w.alloc (.cells #[va, vb] T)) (.slice (some ⟨w.heap.size, 0, none⟩) 2 2) [l, r] := by
  have hB := (Below.refl w.heap.size w).alloc (Nat.le_refl _) (.cells #[va, vb] T)
  have ha := ha.kept hB
  have hb := hb.kept hB
  obtain ⟨a, c, rfl⟩ := RowsAt.form ha
  obtain ⟨a', c', rfl⟩ := RowsAt.form hb
  refine ⟨[(a, l.length, c), (a', r.length, c')], ⟨_, 2, rfl, by simp, fun _ => ⟨_, _, rfl, by simp, fun j x hj i u hu => ?_⟩⟩, rfl, fun j t m h1 h2 => ?_⟩
  · rcases j with _ | _ | j
    · simp at hj; subst hj
      rcases i with _ | i
      · simp [csS, sl] at hu; subst hu; simp [World.cell?_alloc_at]
      · simp [csS] at hu
    · simp at hj; subst hj
      rcases i with _ | i
      · simp [csS, sl] at hu; subst hu; simp [World.cell?_alloc_at]
      · simp [csS] at hu
    · simp at hj
  · rcases j with _ | _ | j
    · simp at h1 h2; subst h1; subst h2; exact ha
    · simp at h1 h2; subst h1; subst h2; exact hb
    · simp at h1

set_option maxHeartbeats 2000000 in
set_option maxRecDepth 100000 in
/-- room for so many -/
theorem growI_any (n : Nat) (w : World) (hn : n ≤ 1000000000) :
    Calls Try.prog 39 #[.slice none 0 0, .int .i64 (n : Int)] w fun e w' => ∃ v, e = .returned v ∧ OwnI w' w.heap.size v [] ∧ Below w.heap.size w w' := by
  obtain ⟨i0, hi, hz0, hz1, hz2⟩ := info_parts info_int
  by_cases h0 : n = 0
  · subst h0
    go_enter Try.func39, Try.ntmps39
    go_wp2
    go_ret
    exact ⟨_, rfl, OwnR.nil _ _ _ _ _, Below.refl _ _⟩
  · have h1 : ¬ ((n : Int) < 0) := by omega
    have h2 : (0 : Int) < (n : Int) := by omega
    have h3 : (n : Int) ≤ 1000000000 := by omega
    have hold : (Builtin.firstCells i0.size 0 (.slice none 0 0)).run Try.prog w.drew = .ok ([] : List Value).toArray w.drew := run_firstCells_none w.drew i0.size 0 0 0
    have hrz : ∀ ty, (Builtin.append_ #[22, 3] ty #[.slice none 0 0, .int .i64 (n : Int)]).run Try.prog w =
        .ok (.slice (some ⟨w.heap.size, 0, none⟩) n (grownCap w n 0 3)) (w.drew.alloc (.cells (Builtin.zeroCells (Value.int .i64 0).cells n ++ Builtin.zeroCells (Value.int .i64 0).cells (grownCap w n 0 3 - n)) 3)) := fun ty => by
      have h := Lib.run_append_grow_zeros w 22 3 ty 3 i0 (.int .i64 0) .i64 .i64 Try.underlying22 Try.underlying3 hi hz0 none 0 0 [] hold n (by omega) (by rw [hz1]; decide) (by omega) (by omega)
        (by rw [hz2]; omega) (by rw [hz2, Nat.zero_add, nextslicecap_zero (show 0 < n by omega)]; omega)
      rw [Nat.zero_add] at h
      simpa using h
    have hG : n ≤ grownCap w n 0 3 := grownCap_ge w _ _ _
    have hG2 := grownCap_le_maxLen w n 0 3 (by unfold maxLen; omega)
    obtain ⟨G, hg⟩ : ∃ G, G = grownCap w n 0 3 := ⟨_, rfl⟩
    rw [← hg] at hrz hG hG2
    have g1 : (n : Int) ≤ (G : Int) := by omega
    have g2 : (G : Int) ≤ 9223372036854775807 := by unfold maxLen at hG2; omega
    obtain ⟨X, hX⟩ : ∃ X, X = Builtin.zeroCells (Value.int .i64 0).cells n ++ Builtin.zeroCells (Value.int .i64 0).cells (G - n) := ⟨_, rfl⟩
    rw [← hX] at hrz
    have hXs : X.size = G * 1 := by rw [hX]; simp only [Array.size_append, size_zeroCells]; simp [Value.cells]; omega
    have HO := Lib.hid (World.ownsRow_made (e := 3) (size := 1) (base := w.heap.size) w.drew X G (by simp) hG2 hXs)
    have HB := Lib.hid ((Below.refl w.heap.size w).drew.alloc (by simp) (.cells X 3))
    clear hg hX hXs hold hG2
    go_enter Try.func39, Try.ntmps39
    go_wp2_with (at_builtin; refine Lib.wpList_append_run _ rfl _ _ _ _ rfl _ _ rfl rfl _ _ (hrz _) ?_)
    all_goals (go_ret; exact ⟨_, rfl, HO.out, HB.out⟩)

/-- all of them, one behind the other -/
def catI (L : List (List Int)) : List Int := L.flatten
theorem catI_next (L : List (List Int)) (k : Nat) (h : k < L.length) : catI (L.take (k + 1)) = catI (L.take k) ++ L[k] := by
  unfold catI
  rw [List.take_succ_eq_append_getElem h, List.flatten_append]
  simp
theorem catI_le (L : List (List Int)) (k : Nat) : (catI (L.take k)).length ≤ (catI L).length := by
  have : catI L = catI (L.take k) ++ catI (L.drop k) := by
    unfold catI
    rw [← List.flatten_append, List.take_append_drop]
  rw [this, List.length_append]
  omega

set_option maxHeartbeats 4000000 in
set_option maxRecDepth 100000 in
theorem concatI_any (va : Value) (L : List (List Int)) (w : World) (ha : IssAt w va L) (hl : L.length ≤ 1000000) (hc : (catI L).length ≤ 1000000000) :
    Calls Try.prog 31 #[va] w fun e w' => ∃ v, e = .returned v ∧ OwnI w' w.heap.size v (catI L) ∧ Below w.heap.size w w' := by
  obtain ⟨i0, hi, hz0, hz1, hz2⟩ := info_parts info_int
  have HA := Lib.hid ha
  have HN := fun k h => Lib.hid (catI_next L k h)
  have HL := fun k => Lib.hid (catI_le L k)
  obtain ⟨a, c, rfl⟩ := IssAt.form ha
  have hg := fun n (h : n ≤ 1000000000) => Lib.hid (growI_any n w h)
  clear ha
  go_enter Try.func31, Try.ntmps31
  go_wp2
  go_loopw [3, 11] (fun s i wr => ∃ k : Nat, k ≤ L.length ∧ s = .int .i64 ((catI (L.take k)).length : Int) ∧ i = .int .i64 k ∧ w = wr) (fun _ i _ => L.length - (intOf i).toNat)
  case atStart => exact ⟨0, Nat.zero_le _, by simp [catI], rfl, rfl⟩
  case round =>
    obtain ⟨k, hk, rfl, rfl, rfl⟩ := hrel
    by_cases hlt : k < L.length
    · obtain ⟨g, o, cc, x, n, e, _, p0, hx⟩ := IssAt.at HA.out k hlt
      cases e
      have hn := congrArg List.length (HN k hlt).out
      rw [List.length_append] at hn
      have h1 := (HL (k + 1)).out
      have k0 : (0 : Int) ≤ (k : Int) := by omega
      have k1 : (k : Int) < (L.length : Int) := by omega
      generalize (catI (L.take k)).length = s at *
      generalize L[k].length = m at *
      have s1 : (s : Int) + (m : Int) ≤ 1000000000 := by omega
      have s0 : (0 : Int) ≤ (s : Int) := by omega
      have m0 : (0 : Int) ≤ (m : Int) := by omega
      have HNN := Lib.hid hn
      clear hn h1 hx
      go_wp2
      go_roundw
      case rel => exact ⟨k + 1, by omega, by rw [HNN.out]; go_num, by go_num, by trivial⟩
      case measure => simp [intOf] <;> omega
    · have hke : k = L.length := by omega
      subst hke
      rw [List.take_length]
      have hcc := (hg _ hc).out
      generalize (catI L).length = N at *
      have N0 : (N : Int) ≤ 1000000000 := by omega
      have HC := Lib.hid hcc
      clear hcc hlt hk hg
      go_wp2_with (go_at_call 39; (with_reducible refine HC.out.mono ?_); rintro e w1 ⟨v, rfl, hp, hb⟩; have HP := Lib.hid hp; clear hp)
      go_loopw [6, 27] (fun v i wr => ∃ k : Nat, k ≤ L.length ∧ OwnI wr w.heap.size v (catI (L.take k)) ∧ i = .int .i64 k ∧ Below w.heap.size w wr) (fun _ i _ => L.length - (intOf i).toNat)
      case atStart => exact ⟨0, Nat.zero_le _, HP.out, rfl, hb⟩
      case round =>
        clear HP hb
        obtain ⟨k, hk, hown, rfl, hB⟩ := hrel
        have hsz : w.heap.size ≤ wr.heap.size := hB.size
        by_cases hlt : k < L.length
        · obtain ⟨g, o, cc, x, n, e, _, p0, hx⟩ := IssAt.at (HA.out.kept hB) k hlt
          cases e
          have hn := congrArg List.length (HN k hlt).out
          rw [List.length_append] at hn
          have h1 := (HL (k + 1)).out
          have k0 : (0 : Int) ≤ (k : Int) := by omega
          have k1 : (k : Int) < (L.length : Int) := by omega
          have hlen : (catI (L.take k)).length + L[k].length ≤ 1000000000 := by omega
          have HNK := HN k hlt
          clear hn h1
          go_wp2_with (at_builtin; refine wpList_append_rows csI_len (by decide) csI_one13 rfl _ _ 22 rfl w.heap.size 3 i0 (.int .i64 0) 8 Try.underlying22 hi hz0 hz1 hz2 rfl _ _ rfl hown _ _ rfl hx (by unfold maxLen; omega) (by omega) hsz ?_)
          intro v' w5 h1 h2
          have hB5 := OwnR.below hown hB hsz h2
          replace h1 : OwnI w5 w.heap.size v' (catI (L.take k) ++ L[k]) := h1
          rw [← HNK.out] at h1
          have HO5 := Lib.hid h1
          clear h1 h2 hB hown p0 hx
          go_wp2
          go_roundw
          case rel => exact ⟨k + 1, by omega, HO5.out, by go_num, hB5⟩
          case measure => simp [intOf] <;> omega
        · have hke : k = L.length := by omega
          subst hke
          rw [List.take_length] at hown
          have HOW := Lib.hid hown
          clear hown
          go_wp2
          go_ret
          exact ⟨_, rfl, HOW.out, hB⟩

end Go.Proofs.Ytgkhjnfkpodddaa
