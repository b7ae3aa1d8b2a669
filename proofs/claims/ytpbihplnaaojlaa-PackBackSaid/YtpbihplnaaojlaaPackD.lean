/- Stage 8's program: short forms. -/
import Derived.Test.YtpbihplnaaojlaaPackC
import Derived.Test.YtpbihplnaaojlaaLabels
namespace Go.Proofs.Ytpbihplnaaojlaa
open Go.RowKit

theorem slice_head10 (B k : Nat) (l : Int) (hl : l = k) (hk : k ≤ 10) (w : World) : (Instr.sliceAt 43 (.pointer (some ⟨B, 0, none⟩)) none (some (.int .i64 l)) none).run Try.prog w = .ok (.slice (some ⟨B, 0, none⟩) k 10) w := by
  have hal : Try.prog.arrayLen 43 = 10 := by kernel_rfl
  have hsz : (sizeOf (Try.prog.elem 43)).run Try.prog w = .ok 1 w := by kernel_rfl
  subst hl
  rw [run_sliceAt_array_h w 43 _ (by kernel_rfl) .i64 k (by omega) (by rw [hal]; omega), hsz, hal]
  simp only [Result.andThen, slicedAt, Int.toNat_natCast, Nat.mul_one]
  rfl
theorem front_next {M : List Value} {pre : List Nat} {j b : Nat} (hj : j < M.length) (h : M.take j = cB pre) : (M.set j (.int .u8 (b : Int))).take (j + 1) = cB (pre ++ [b]) := by
  unfold cB at *
  rw [List.map_append, ← h, List.take_succ_eq_append_getElem (by simpa using hj)]
  congr 1
  · rw [List.take_set_of_le (Nat.le_refl _)]
  · simp
theorem front_bytes {w : World} {pre : List Nat} {n : Nat} {M : List Value} (T : TypeId) (hM : M.length = 10) (hn : n ≤ 10) (hD : M.take n = cB pre) (hb : ∀ b ∈ pre, b < 256) :
    BytesAt (w.alloc (.cells M.toArray T)) (.slice (some ⟨w.heap.size, 0, none⟩) n 10) (bn pre) := by
  have hlen : pre.length = n := by have := congrArg List.length hD; simp [cB] at this; omega
  have hl2 : (bn pre).length = n := by rw [bn_len, hlen]
  refine ⟨_, 10, by rw [hl2], by omega, fun h0 => ⟨_, _, rfl, by simp, fun j u hj i y hy => ?_⟩⟩
  have hjn : j < n := by rw [← hl2]; exact (List.getElem?_eq_some_iff.1 hj).1
  rcases i with _ | i
  · simp [csB] at hy
    subst hy
    unfold bn at hj
    rw [List.getElem?_map] at hj
    cases h : pre[j]? with
    | none => rw [h] at hj; cases hj
    | some b =>
      rw [h] at hj
      have : u = UInt8.ofNat b := by simpa using hj.symm
      subst this
      rw [byte_to b (hb b (List.mem_of_getElem? h)), World.cell?_alloc_at _ _ _ _ rfl]
      have e : M[j]? = (M.take n)[j]? := by rw [List.getElem?_take_of_lt hjn]
      simp only [Nat.mul_one, Nat.add_zero, Nat.zero_add, List.getElem?_toArray, e, hD, cB, List.getElem?_map, h]
      rfl
  · simp [csB] at hy

set_option maxHeartbeats 4000000 in
set_option maxRecDepth 100000 in
theorem kVarO_any (va : Value) (l : List UInt8) (x : Nat) (w : World) (ha : BytesAt w va l) (hl : l.length ≤ 1000000) (hx : x < 18446744073709551616) :
    Calls Try.prog 15 #[va, .int .u64 (x : Int)] w fun e w' => ∃ v, e = .returned v ∧ OwnB w' w.heap.size v (l ++ bn (varL x)) ∧ Below w.heap.size w w' := by
  obtain ⟨a, c, rfl⟩ := RowsAt.form ha
  have HA := Lib.hid ha
  have HT := Lib.hid (varL_ten hx)
  have HBY := Lib.hid (varL_byte x)
  clear ha
  go_enter Try.func15, Try.ntmps15
  go_wp2
  refine wp_scope_goto 0 (fun n a' w' => ∃ (y : Nat) (jj : Int) (pre : List Nat) (M : List Value), n = y ∧ jj = pre.length ∧ y ≤ x ∧ pre ++ varL y = varL x ∧ M.length = 10 ∧ M.take pre.length = cB pre ∧ w' = w.alloc (.cells M.toArray 43) ∧ ∃ u2 u3 u7 u8 u9 u10 u11 u12 u13 u14 u15 u16 u17 u18 u19 u20 u21 u22 u23 u24 u25 u26 u27, a' = { tmps := #[.slice a l.length c, .int .u64 (y : Int), u2, u3, .slice none 0 0, .pointer (some ⟨w.heap.size, 0, none⟩), .int .i64 jj, u7, u8, u9, u10, u11, u12, u13, u14, u15, u16, u17, u18, u19, u20, u21, u22, u23, u24, u25, u26, u27], defers := [] }) rfl rfl ?_ ?_
  · rintro n a' w' ⟨y, jj, pre, M, rfl, hjj, hy, hpre, hM, hD, rfl, u2, u3, u7, u8, u9, u10, u11, u12, u13, u14, u15, u16, u17, u18, u19, u20, u21, u22, u23, u24, u25, u26, u27, rfl⟩ K hK
    have hplen : pre.length + (varL n).length ≤ 10 := by rw [← List.length_append, hpre]; exact HT.out
    obtain ⟨j, hj⟩ : ∃ j, pre.length = j := ⟨_, rfl⟩
    rw [hj] at hjj hplen hD
    subst hjj
    have hv0 : 0 < (varL n).length := by rw [varL]; split <;> simp
    have hj9 : j < 10 := by omega
    have j0 : (0 : Int) ≤ (j : Int) := by omega
    have j1 : (j : Int) < 10 := by omega
    obtain ⟨u, hu⟩ : ∃ u, M[j]? = some u := ⟨_, List.getElem?_eq_getElem (by omega)⟩
    by_cases h128 : 128 ≤ n
    · have hv := varL_hi (show ¬ n < 128 by omega)
      rw [hv] at hpre
      have hF := front_next (b := n % 128 + 128) (by omega) hD
      have hy2 : (0 : Int) < (n : Int) / 128 := by omega
      have HPRE := Lib.hid hpre
      have HF := Lib.hid hF
      clear hv hpre hplen hv0 hF hD
      go_wp2
      go_step3
      refine ⟨rfl, hK (n / 128) _ _ (by omega) ⟨n / 128, _, pre ++ [n % 128 + 128], _, rfl, ?_, by omega, by rw [List.append_assoc]; exact HPRE.out, ?_, ?_, rfl, _, _, _, _, _, _, _, _, _, _, _, _, _, _, _, _, _, _, _, _, _, _, _,  rfl⟩⟩
      · simp [hj]
      · simpa using hM
      · rw [List.length_append, hj]; exact HF.out
    · have hv := varL_lo (show n < 128 by omega)
      rw [hv] at hpre
      have hF := front_next (b := n % 128) (by omega) hD
      have hy2 : (n : Int) / 128 = 0 := by omega
      have hsl := slice_head10 w.heap.size (j + 1) ((j : Int) + 1) (by omega) (by omega) (w.alloc (.cells (M.set j (.int .u8 ((n : Int) % 128))).toArray 43))
      have hFB := front_bytes (w := w) (n := j + 1) 43 (by simpa using hM) (by omega) hF (by rw [Nat.mod_eq_of_lt (show n < 128 by omega), hpre]; exact HBY.out)
      have HB := Lib.hid ((Below.refl w.heap.size w).alloc (Nat.le_refl _) (.cells (M.set j (.int .u8 ((n : Int) % 128))).toArray 43))
      have HC := Lib.hid (behind_any _ _ l _ _ (HA.out.kept HB.out) hFB (by rw [bn_len, List.length_append]; simp; omega))
      rw [Nat.mod_eq_of_lt (show n < 128 by omega), hpre] at HC
      clear hv hpre hplen hv0 hF hD hFB
      go_wp2_with (go_at_call 22; (with_reducible refine HC.out.mono ?_); rintro e w1 ⟨v, rfl, hp, hb⟩; have HV := Lib.hid hp; clear hp)
      simp only [Exit.jump]
      go_ret
      exact ⟨_, rfl, HV.out.base (by simp), HB.out.trans (hb.mono (by simp))⟩
  · intro K hpass
    go_wp2
    go_step3
    rename_i hback
    refine hback _ _ (hpass x _ _ ⟨x, _, [], _, rfl, rfl, Nat.le_refl _, rfl, ?_, ?_, rfl, _, _, _, _, _, _, _, _, _, _, _, _, _, _, _, _, _, _, _, _, _, _, _,  rfl⟩) <;> simp [cB]
theorem kVar_any (va : Value) (l : List UInt8) (x : Nat) (w : World) (ha : BytesAt w va l) (hl : l.length ≤ 1000000) (hx : x < 18446744073709551616) :
    Calls Try.prog 15 #[va, .int .u64 (x : Int)] w fun e w' => ∃ v, e = .returned v ∧ BytesAt w' v (l ++ bn (varL x)) ∧ Below w.heap.size w w' := by
  refine (kVarO_any va l x w ha hl hx).mono ?_
  rintro e w' ⟨v, h1, h2, h3⟩
  exact ⟨v, h1, h2.bytes, h3⟩
end Go.Proofs.Ytpbihplnaaojlaa
