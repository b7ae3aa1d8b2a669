/- The walk of num.digits: it tells the digits of a word in a base from 2 to 16. -/
import Derived.Test.YtibeljppjaenbaaRows
import Derived.Test.YtibeljppjaenbaaLabels
import Derived.Test.YtibeljppjaenbaaDigs
import Derived.WalkKit
import Derived.WalkSpells
import Derived.WalkLawsBesides
import Derived.Lib.Hide
namespace Go.Proofs.Ytibeljppjaenbaa
open Go.RowKit

theorem slice_room (B k : Nat) (l : Int) (hl : l = k) (hk : k < 20) (w : World) : (Instr.sliceAt 112 (.pointer (some ⟨B, 0, none⟩)) (some (.int .i64 l)) none none).run Try.prog w = .ok (.slice (some ⟨B, k, none⟩) (20 - k) (20 - k)) w := by
  have hal : Try.prog.arrayLen 112 = 20 := by kernel_rfl
  have hsz : (sizeOf (Try.prog.elem 112)).run Try.prog w = .ok 1 w := by kernel_rfl
  subst hl
  rw [run_sliceAt_array_l w 112 _ (by kernel_rfl) .i64 k (by omega) (by rw [hal]; omega), hsz, hal]
  simp only [Result.andThen, slicedAt, Int.toNat_natCast, Nat.mul_one]
  rw [if_neg (by omega)]
  rcases k with _ | k <;> simp [Addr.add]

/-- A round that ends with a number left. -/
theorem digits_more {b m j m' q r : Nat} {L : List Value} {ds : List Nat} (hb : 2 ≤ b) (hj0 : 0 < j) (hL : L.length = 20) (hj : j ≤ 20) (hmj : m' < b ^ j) (hd : dgs b 20 m = dgs b j m' ++ ds) (hD : L.drop j = ds.map fun d => Value.int .u8 ((sgn d).toNat : Int))
    (hq : q = m' / b) (hr : r = m' % b) (h0 : 0 < q) :
    0 < j - 1 ∧ q < b ^ (j - 1) ∧ dgs b 20 m = dgs b (j - 1) q ++ r :: ds ∧ (L.set (j - 1) (.int .u8 ((sgn r).toNat : Int))).drop (j - 1) = (r :: ds).map fun d => Value.int .u8 ((sgn d).toNat : Int) := by
  obtain ⟨i, rfl⟩ : ∃ i, j = i + 1 := ⟨j - 1, by omega⟩
  have hqi : q < b ^ i := by rw [hq, Nat.div_lt_iff_lt_mul (by omega)]; rw [Nat.pow_succ] at hmj; exact hmj
  refine ⟨?_, hqi, ?_, ?_⟩
  · rcases Nat.eq_zero_or_pos i with h | h
    · subst h; simp at hqi; omega
    · exact h
  · rw [hd, dgs, if_neg (by omega), ← hq, ← hr]; simp
  · simp only [Nat.add_sub_cancel, List.map_cons]
    rw [List.drop_set]
    simp
    rw [List.drop_eq_getElem_cons (by omega), List.set_cons_zero, hD]

theorem digits_done {b m j m' q r : Nat} {L : List Value} {ds : List Nat} (hj0 : 0 < j) (hL : L.length = 20) (hj : j ≤ 20) (hd : dgs b 20 m = dgs b j m' ++ ds) (hD : L.drop j = ds.map fun d => Value.int .u8 ((sgn d).toNat : Int))
    (hq : q = m' / b) (hr : r = m' % b) (h0 : q = 0) :
    dgs b 20 m = r :: ds ∧ (L.set (j - 1) (.int .u8 ((sgn r).toNat : Int))).drop (j - 1) = (dgs b 20 m).map fun d => Value.int .u8 ((sgn d).toNat : Int) := by
  obtain ⟨i, rfl⟩ : ∃ i, j = i + 1 := ⟨j - 1, by omega⟩
  have e : dgs b 20 m = r :: ds := by rw [hd, dgs, if_pos (by omega), ← hr]; simp
  refine ⟨e, ?_⟩
  rw [e]
  simp only [Nat.add_sub_cancel, List.map_cons]
  rw [List.drop_set]
  simp
  rw [List.drop_eq_getElem_cons (by omega), List.set_cons_zero, hD]

theorem ret_string {a b : ByteArray} (h : a = b) : Ending.returned (.string a) = .returned (.string b) := by rw [h]

/-- The cells of a row's rest, read as a text. -/
theorem convert_room (w : World) (j : Nat) (M : List Value) (ds : List Nat) (hM : M.length = 20) (_hj : j < 20) (hD : M.drop j = ds.map fun d => Value.int .u8 ((sgn d).toNat : Int)) :
    (convert 52 9 (.slice (some ⟨w.heap.size, j, none⟩) (20 - j) (20 - j))).run Try.prog (w.alloc (.cells M.toArray 112)) = .ok (.string ⟨(ds.map sgn).toArray⟩) (w.alloc (.cells M.toArray 112)) := by
  have hl : 20 - j = (ds.map sgn).length := by
    have := congrArg List.length hD
    simp [hM] at this
    simp; omega
  rw [hl]
  refine run_convert_bytes_back _ _ _ 5 _ _ (ds.map sgn) (by kernel_rfl) (by kernel_rfl) (by kernel_rfl) ?_
  intro i hi
  have hi' : i < ds.length := by simpa using hi
  have hx : M[j + i]? = some (.int .u8 ((sgn ds[i]).toNat : Int)) := by
    rw [← List.getElem?_drop, hD]; simp [List.getElem?_eq_getElem hi']
  have ha : (⟨w.heap.size, j, none⟩ : Addr).add i = ⟨w.heap.size, j + i, none⟩ := by
    rcases i with _ | i <;> simp [Addr.add]
  rw [ha, List.getElem_map, World.cell?_alloc_at _ _ _ _ rfl]
  simpa using hx

set_option maxHeartbeats 400000 in
theorem digits_any (m b : Nat) (w : World) (hm : m < 18446744073709551616) (hmb : m < b ^ 20) (hb : 2 ≤ b) (hb' : b ≤ 16) :
    Calls Try.prog 70 #[.int .u64 m, .int .u64 b] w fun e w' => e = .returned (.string (txt b m)) ∧ Below w.heap.size w w' := by
  go_enter Try.func70, Try.ntmps70
  go_wp2
  refine wp_scope_goto 0 (fun n a' w' => ∃ (j m' : Nat) (c : Int) (L : List Value) (ds : List Nat), n = j ∧ c = j ∧ j ≤ 20 ∧ m' < b ^ j ∧ m' < 18446744073709551616 ∧ 0 < j ∧ L.length = 20 ∧ dgs b 20 m = dgs b j m' ++ ds ∧ (L.drop j = ds.map fun d => Value.int .u8 ((sgn d).toNat : Int)) ∧ w' = w.alloc (.cells L.toArray 112) ∧ ∃ u2 u3 u7 u8 u9 u10 u11 u12 u13 u14 u15 u16 u17 u18 u19 u20 u21 u22, a' = { tmps := #[.int .u64 m', .int .u64 b, u2, u3, .string ⟨#[]⟩, .pointer (some ⟨w.heap.size, 0, none⟩), .int .i64 c, u7, u8, u9, u10, u11, u12, u13, u14, u15, u16, u17, u18, u19, u20, u21, u22], defers := [] }) rfl rfl ?_ ?_
  · rintro n a' w' ⟨j, m', _, L, ds, rfl, rfl, hj, hmj, hm64, hj0, hL, hd, hD, rfl, u2, u3, u7, u8, u9, u10, u11, u12, u13, u14, u15, u16, u17, u18, u19, u20, u21, u22, rfl⟩ K hK
    obtain ⟨q, hq⟩ : ∃ q : Nat, q = m' / b := ⟨_, rfl⟩
    obtain ⟨r, hr⟩ : ∃ r : Nat, r = m' % b := ⟨_, rfl⟩
    have hqi : (m' : Int) / (b : Int) = (q : Int) := by rw [hq]; rfl
    have hri : (m' : Int) % (b : Int) = (r : Int) := by rw [hr]; rfl
    have hrn : m' % b = r := hr.symm
    have hqm : q ≤ m' := by rw [hq]; exact Nat.div_le_self _ _
    have hrb : r < b := by rw [hr]; exact Nat.mod_lt _ (by omega)
    obtain ⟨x0, hx0⟩ : ∃ x, L[n - 1]? = some x := ⟨_, List.getElem?_eq_getElem (by omega)⟩
    have hsg := fun h => sgn_sigs r h
    by_cases h0 : 0 < q
    · have HM := Lib.hid (digits_more hb hj0 hL hj hmj hd hD hq hr h0)
      clear hD hd hq hr
      go_wp2
      go_step3
      refine ⟨rfl, hK (n - 1) _ _ (by omega) ⟨n - 1, q, _, _, r :: ds, rfl, by omega, by omega, HM.out.2.1, by omega, HM.out.1, by simpa using hL, HM.out.2.2.1, HM.out.2.2.2, rfl, _, _, _, _, _, _, _, _, _, _, _, _, _, _, _, _, _, _,  rfl⟩⟩
    · have HM := Lib.hid (digits_done hj0 hL hj hd hD hq hr (by omega))
      clear hD hd hq hr
      have hsl := slice_room w.heap.size (n - 1) (n - 1) (by omega) (by omega)
      have hcv := convert_room w (n - 1) (L.set (n - 1) (.int .u8 ((sgn r).toNat : Int))) (dgs b 20 m) (by simpa using hL) (by omega) HM.out.2
      go_wp2
      simp only [Exit.jump]
      go_ret
      exact ⟨rfl, (Below.refl _ _).alloc (Nat.le_refl _) _⟩
  · intro K hpass
    go_wp2
    go_step3
    rename_i hback
    refine hback _ _ (hpass 20 _ _ ⟨20, m, _, _, [], rfl, ?_, by omega, hmb, hm, by omega, ?_, ?_, ?_, rfl, _, _, _, _, _, _, _, _, _, _, _, _, _, _, _, _, _, _,  rfl⟩) <;> simp
end Go.Proofs.Ytibeljppjaenbaa
