/- Stage 8's program: a number in so many bytes, behind others. -/
import Derived.Test.YtmmaodcihpgdfaaPackA
import Derived.Lib.MinMax
namespace Go.Proofs.Ytmmaodcihpgdfaa
open Go.RowKit

theorem bss_two {w : World} {va vb : Value} {l r : List UInt8} (ha : BytesAt w va l) (hb : BytesAt w vb r) (T : TypeId) : BssAt (w.alloc (.cells #[va, vb] T)) (.slice (some ⟨w.heap.size, 0, none⟩) 2 2) [l, r] := by
  have hB := (Below.refl w.heap.size w).alloc (Nat.le_refl _) (.cells #[va, vb] T)
  have ha := ha.kept hB
  have hb := hb.kept hB
  obtain ⟨a, c, rfl⟩ := RowsAt.form ha
  obtain ⟨a', c', rfl⟩ := RowsAt.form hb
  refine ⟨[(a, l.length, c), (a', r.length, c')], ⟨_, 2, rfl, by simp, fun _ => ⟨_, _, rfl, by simp, fun j x hj i u hu => ?_⟩⟩, rfl, fun j t m h1 h2 => ?_⟩
  · rcases j with _ | _ | j
    · simp at hj; subst hj
      rcases i with _ | i
      · simp [csS, sl] at hu; subst hu; simp [World.cell?_alloc_at]
      · simp [csS] at hu
    · simp at hj; subst hj
      rcases i with _ | i
      · simp [csS, sl] at hu; subst hu; simp [World.cell?_alloc_at]
      · simp [csS] at hu
    · simp at hj
  · rcases j with _ | _ | j
    · simp at h1 h2; subst h1; subst h2; exact ⟨ha, fun _ _ _ e => by cases e⟩
    · simp at h1 h2; subst h1; subst h2; exact ⟨hb, fun _ _ _ e => by cases e⟩
    · simp at h1

set_option maxHeartbeats 2000000 in
set_option maxRecDepth 100000 in
theorem behind_any (va vb : Value) (l r : List UInt8) (w : World) (ha : BytesAt w va l) (hb : BytesAt w vb r) (hl : l.length + r.length ≤ 1000000000) :
    Calls Try.prog 26 #[va, vb] w fun e w' => ∃ v, e = .returned v ∧ OwnB w' w.heap.size v (l ++ r) ∧ Below w.heap.size w w' := by
  have H := fun T => Lib.hid (concat_any _ [l, r] _ (bss_two ha hb T) (by simp) (by simp [cat]; omega))
  have HB := fun T => Lib.hid ((Below.refl w.heap.size w).alloc (Nat.le_refl _) (.cells #[va, vb] T))
  obtain ⟨a, c, rfl⟩ := RowsAt.form ha
  obtain ⟨a', c', rfl⟩ := RowsAt.form hb
  clear ha hb
  go_enter Try.func26, Try.ntmps26
  go_wp2_with (go_at_call 21; (with_reducible refine (H _).out.mono ?_); rintro e w1 ⟨v, rfl, hp, hb⟩; have HP := Lib.hid hp; clear hp)
  go_ret
  refine ⟨_, rfl, ?_, (HB _).out.trans (hb.mono (by simp))⟩
  have h := HP.out.base (B' := w.heap.size) (by simp)
  have e : cat [l, r] = l ++ r := by simp [cat]
  rw [e] at h
  exact h

/-- from the place k on of the room -/
theorem slice_room8 (B k : Nat) (l : Int) (hl : l = k) (hk : k ≤ 8) (w : World) : ∃ o, (Instr.sliceAt 50 (.pointer (some ⟨B, 0, none⟩)) (some (.int .i64 l)) none none).run Try.prog w = .ok (.slice (some ⟨B, o, none⟩) (8 - k) (8 - k)) w ∧ (k < 8 → o = k) := by
  have hal : Try.prog.arrayLen 50 = 8 := by kernel_rfl
  have hsz : (sizeOf (Try.prog.elem 50)).run Try.prog w = .ok 1 w := by kernel_rfl
  subst hl
  rw [run_sliceAt_array_l w 50 _ (by kernel_rfl) .i64 k (by omega) (by rw [hal]; omega), hsz, hal]
  simp only [Result.andThen, slicedAt, Int.toNat_natCast, Nat.mul_one]
  by_cases h : k = 8
  · subst h
    exact ⟨0, rfl, fun h => by omega⟩
  · rw [if_neg (by omega)]
    exact ⟨k, by rcases k with _ | k <;> simp [Addr.add], fun _ => rfl⟩
theorem bigs_drop (x : Nat) : ∀ m k, k ≤ m → (bigs m x).drop (m - k) = bigs k x := by
  intro m
  induction m with
  | zero => intro k h; obtain rfl : k = 0 := by omega
            rfl
  | succ m ih =>
    intro k h
    by_cases e : k = m + 1
    · subst e; simp
    · rw [show m + 1 - k = (m - k) + 1 by omega]
      show (bigs m x).drop (m - k) = _
      exact ih k (by omega)

def cB (l : List Nat) : List Value := l.map fun b : Nat => Value.int .u8 (b : Int)
theorem room_next {x j : Nat} {M : List Value} (hj : j < 8) (hL : M.length = 8) (hD : M.drop (8 - j) = cB (bigs j x)) :
    (M.set (7 - j) (.int .u8 ((x / 256 ^ j % 256 : Nat) : Int))).drop (8 - (j + 1)) = cB (bigs (j + 1) x) := by
  rw [show 8 - (j + 1) = 7 - j by omega]
  show _ = _ :: cB (bigs j x)
  rw [← hD, List.drop_set]
  simp
  rw [List.drop_eq_getElem_cons (by omega), List.set_cons_zero, show 7 - j + 1 = 8 - j by omega]
theorem room_bytes {w : World} {x k o : Nat} {M : List Value} (T : TypeId) (hL : M.length = 8) (hk : k ≤ 8) (hD : M = cB (bigs 8 x)) (ho : 8 - k < 8 → o = 8 - k) :
    BytesAt (w.alloc (.cells M.toArray T)) (.slice (some ⟨w.heap.size, o, none⟩) k k) (bn (bigs k x)) := by
  have hlen : (bn (bigs k x)).length = k := by rw [bn_len, bigs_length]
  refine ⟨_, k, by rw [hlen], by omega, fun h0 => ⟨_, _, rfl, by simp, fun j u hj i y hy => ?_⟩⟩
  rw [hlen] at h0
  have hjk : j < k := by rw [← hlen]; exact (List.getElem?_eq_some_iff.1 hj).1
  rcases i with _ | i
  · simp [csB] at hy
    subst hy
    rw [ho (by omega), World.cell?_alloc_at _ _ _ _ rfl]
    have e1 : (bigs k x)[j]? = (bigs 8 x)[8 - k + j]? := by rw [← bigs_drop x 8 k hk, List.getElem?_drop]
    have e2 : ∃ b, (bigs k x)[j]? = some b ∧ u = UInt8.ofNat b := by
      unfold bn at hj
      rw [List.getElem?_map] at hj
      cases h : (bigs k x)[j]? with
      | none => rw [h] at hj; cases hj
      | some b => rw [h] at hj; exact ⟨b, rfl, by simpa using hj.symm⟩
    obtain ⟨b, e3, rfl⟩ := e2
    have hb := bigs_byte k x b (List.mem_of_getElem? e3)
    rw [byte_to b hb]
    rw [e3] at e1
    subst hD
    unfold cB
    simp only [Nat.mul_one, Nat.add_zero, List.getElem?_toArray, List.getElem?_map, ← e1]
    rfl
  · simp [csB] at hy

set_option maxHeartbeats 2000000 in
set_option maxRecDepth 100000 in
theorem kPutO_any (va : Value) (l : List UInt8) (x : Nat) (k : Int) (w : World) (ha : BytesAt w va l) (hl : l.length ≤ 1000000) (_ : x < 18446744073709551616) :
    Calls Try.prog 19 #[va, .int .u64 (x : Int), .int .i64 k] w fun e w' => ∃ v, e = .returned v ∧ OwnB w' w.heap.size v (l ++ bn (bigs (kk k) x)) ∧ Below w.heap.size w w' := by
  obtain ⟨a, c, rfl⟩ := RowsAt.form ha
  have HA := Lib.hid ha
  have hmx := kk_is k
  have hK8 := kk_le k
  obtain ⟨K, hK⟩ : ∃ K, kk k = K := ⟨_, rfl⟩
  rw [hK] at hmx hK8 ⊢
  have HK := Lib.hid (show min (max k 0) 8 = (K : Int) by omega)
  have hpow : ∀ j : Nat, (x : Int) / 2 ^ (8 * j) % 256 = ((x / 256 ^ j % 256 : Nat) : Int) := fun j => by
    rw [show (256 : Nat) = 2 ^ 8 by rfl, ← Nat.pow_mul]
    simp
  have HP := Lib.hid hpow
  clear ha hK hmx hpow
  go_enter Try.func19, Try.ntmps19
  go_wp2
  go_loopw [9] (fun i wr => ∃ (j : Nat) (M : List Value), j ≤ 8 ∧ i = .int .i64 j ∧ M.length = 8 ∧ (M.drop (8 - j) = cB (bigs j x)) ∧ wr = w.alloc (.cells M.toArray 50)) (fun i _ => 8 - (intOf i).toNat)
  case atStart => exact ⟨0, _, Nat.zero_le _, rfl, rfl, rfl, rfl⟩
  case round =>
    obtain ⟨j, M, hj, rfl, hL, hD, rfl⟩ := hrel
    by_cases hlt : j < 8
    · have hcell : ∃ u, M[7 - j]? = some u := ⟨_, List.getElem?_eq_getElem (by omega)⟩
      obtain ⟨u, hu⟩ := hcell
      have HR := Lib.hid (room_next hlt hL hD)
      have j1 : (j : Int) < 8 := by omega
      clear hD
      go_wp2
      go_roundw
      case rel => exact ⟨j + 1, _, by omega, by go_num, by simpa using hL, HR.out, by rw [HP.out]⟩
      case measure => simp [intOf] <;> omega
    · have hje : j = 8 := by omega
      subst hje
      have hD' : M = cB (bigs 8 x) := by simpa using hD
      have hmm := HK.out
      obtain ⟨o, hs, ho⟩ := slice_room8 w.heap.size (8 - K) (8 - (K : Int)) (by omega) (by omega) (w.alloc (.cells M.toArray 50))
      rw [show 8 - (8 - K) = K by omega] at hs
      have hR := room_bytes (w := w) (k := K) (o := o) 50 hL hK8 hD' (fun h => ho h)
      have HB := Lib.hid ((Below.refl w.heap.size w).alloc (Nat.le_refl _) (.cells M.toArray 50))
      have HC := Lib.hid (behind_any _ _ l _ _ (HA.out.kept HB.out) hR (by rw [bn_len, bigs_length]; omega))
      obtain ⟨mm, hmm2⟩ : ∃ m, max k 0 = m := ⟨_, rfl⟩
      rw [hmm2] at hmm
      clear hD hD' hL hlt hj hR ho
      go_wp2_with (go_at_call 26; (with_reducible refine HC.out.mono ?_); rintro e w1 ⟨v, rfl, hp, hb⟩; have HV := Lib.hid hp; clear hp)
      go_ret
      exact ⟨_, rfl, HV.out.base (by simp), HB.out.trans (hb.mono (by simp))⟩
end Go.Proofs.Ytmmaodcihpgdfaa
