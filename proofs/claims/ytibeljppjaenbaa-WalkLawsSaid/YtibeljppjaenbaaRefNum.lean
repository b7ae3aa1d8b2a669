/- The walks of the document's Print and Hex. -/
import Derived.Test.YtibeljppjaenbaaNumB
namespace Go.Proofs.Ytibeljppjaenbaa
open Go.RowKit

theorem cut_sigs16 : ∀ r, r < 16 → (⟨#[48, 49, 50, 51, 52, 53, 54, 55, 56, 57, 97, 98, 99, 100, 101, 102]⟩ : ByteArray).extract r (r + 1) = ⟨#[sgn r]⟩ := by
  intro r h
  rw [Lib.extract_eq]
  match r, h with
  | 0, _ => rfl
  | 1, _ => rfl
  | 2, _ => rfl
  | 3, _ => rfl
  | 4, _ => rfl
  | 5, _ => rfl
  | 6, _ => rfl
  | 7, _ => rfl
  | 8, _ => rfl
  | 9, _ => rfl
  | 10, _ => rfl
  | 11, _ => rfl
  | 12, _ => rfl
  | 13, _ => rfl
  | 14, _ => rfl
  | 15, _ => rfl
  | n + 16, h => exact absurd h (by omega)
theorem cut_sigs10 : ∀ r, r < 10 → (⟨#[48, 49, 50, 51, 52, 53, 54, 55, 56, 57]⟩ : ByteArray).extract r (r + 1) = ⟨#[sgn r]⟩ := by
  intro r h
  rw [Lib.extract_eq]
  match r, h with
  | 0, _ => rfl
  | 1, _ => rfl
  | 2, _ => rfl
  | 3, _ => rfl
  | 4, _ => rfl
  | 5, _ => rfl
  | 6, _ => rfl
  | 7, _ => rfl
  | 8, _ => rfl
  | 9, _ => rfl
  | n + 10, h => exact absurd h (by omega)

theorem ba_app (a b : List UInt8) : (⟨a.toArray⟩ : ByteArray) ++ ⟨b.toArray⟩ = ⟨(a ++ b).toArray⟩ := by
  apply ByteArray.ext
  simp

/-- A number's text by so many digits at most. -/
def bt (b k m : Nat) : ByteArray := ⟨((dgs b k m).map sgn).toArray⟩

theorem bt_len (b k m : Nat) : (bt b k m).size ≤ k := by
  rw [Lib.size_eq]
  simpa [bt] using dgs_length b k m

theorem bt_more (b k m : Nat) (h : m / b ≠ 0) : bt b k (m / b) ++ ⟨#[sgn (m % b)]⟩ = bt b (k + 1) m := by
  unfold bt
  rw [dgs, if_neg h, List.map_append]
  exact ba_app _ [sgn (m % b)]
theorem bt_one (b k m : Nat) (h : m < b) : bt b (k + 1) m = ⟨#[sgn m]⟩ := by
  unfold bt
  rw [dgs, if_pos (Nat.div_eq_of_lt h), Nat.mod_eq_of_lt h]
  rfl
theorem bt_ltxt (b : Nat) (hb : 2 ≤ b) (k m : Nat) (hm : m < b ^ k) (hk : 0 < k) (hk' : k ≤ 20) : bt b k m = ⟨(ltxt b m).toArray⟩ := by
  have h := dgs_fuel b hb k m hm hk (20 - k)
  rw [show k + (20 - k) = 20 by omega] at h
  unfold bt ltxt
  rw [h]

set_option maxHeartbeats 400000 in
theorem refPrint_one (k m : Nat) (w : World) (h10 : m < 10) :
    Calls Try.prog 33 #[.int .i64 m] w fun e w' => e = .returned (.string (bt 10 (k + 1) m)) ∧ w = w' := by
  have H1 := Lib.hid (bt_one 10 k m h10)
  have hc := cut_sigs10 m h10
  go_enter Try.func33, Try.ntmps33
  go_wp2_with fail
  go_ret
  exact ⟨ret_string H1.out.symm, rfl⟩

set_option maxHeartbeats 400000 in
theorem refPrint_fuel (k : Nat) : ∀ (m : Nat) (w : World), m < 10 ^ (k + 1) → k + 1 ≤ 20 → m < 9223372036854775808 →
    Calls Try.prog 33 #[.int .i64 m] w fun e w' => e = .returned (.string (bt 10 (k + 1) m)) ∧ w = w' := by
  induction k with
  | zero =>
    intro m w hm _ _
    exact refPrint_one 0 m w (by simpa using hm)
  | succ k ih =>
    intro m w hm hk hm64
    by_cases h10 : m < 10
    · exact refPrint_one (k + 1) m w h10
    · have H1 := Lib.hid (bt_more 10 (k + 1) m (by omega))
      have hq : m / 10 < 10 ^ (k + 1) := by rw [Nat.div_lt_iff_lt_mul (by omega)]; rw [Nat.pow_succ] at hm; exact hm
      have hr : m % 10 < 10 := Nat.mod_lt _ (by omega)
      have hr' : m % 10 < 10 ^ (k + 1) := Nat.lt_of_lt_of_le hr (by rw [Nat.pow_succ]; exact Nat.le_mul_of_pos_left _ (Nat.pow_pos (by omega)))
      have hqb : m / 10 < 9223372036854775808 := by omega
      have HO := Lib.hid (bt_one 10 k (m % 10) hr)
      have hqi : (m : Int) / 10 = ((m / 10 : Nat) : Int) := rfl
      have hri : (m : Int) % 10 = ((m % 10 : Nat) : Int) := rfl
      obtain ⟨q, eq⟩ : ∃ q, m / 10 = q := ⟨_, rfl⟩
      obtain ⟨r, er⟩ : ∃ r, m % 10 = r := ⟨_, rfl⟩
      rw [eq] at hq hqi hqb
      rw [er] at hr hr' hri
      have EQ := Lib.hid eq
      have ER := Lib.hid er
      have HQ := Lib.hid hq
      have HR := Lib.hid hr'
      clear hm hq hr' eq er
      have hl := bt_len 10 (k + 1) q
      have hl1 := bt_len 10 (k + 1) r
      go_enter Try.func33, Try.ntmps33
      go_wp2_with (go_at_call 33; refine (ih _ _ (by first | exact HQ.out | exact HR.out) (by omega) (by omega)).mono ?_; rintro e w' ⟨rfl, rfl⟩)
      go_ret
      refine ⟨ret_string ?_, rfl⟩
      have h1 := H1.out
      rw [ER.out, EQ.out] at h1
      have h2 := HO.out
      rw [ER.out] at h2
      rw [← h1, h2]

set_option maxHeartbeats 400000 in
theorem refPrint_neg_one (k m : Nat) (w : World) (h10 : m < 10) (h0 : 0 < m) :
    Calls Try.prog 33 #[.int .i64 (-(m : Int))] w fun e w' => e = .returned (.string (⟨#[45]⟩ ++ bt 10 (k + 1) m)) ∧ w = w' := by
  have hl1 : (bt 10 (k + 1) m).size = 1 := by rw [bt_one 10 k m h10]; rfl
  have hl : ¬ 9223372036854775807 < 1 + (bt 10 (k + 1) m).size := by omega
  clear hl1
  go_enter Try.func33, Try.ntmps33
  go_wp2_with (go_at_call 33; refine (refPrint_one k m _ h10).mono ?_; rintro e w' ⟨rfl, rfl⟩)
  go_ret
  exact ⟨rfl, rfl⟩

set_option maxHeartbeats 400000 in
theorem refPrint_neg_fuel (k : Nat) : ∀ (m : Nat) (w : World), m < 10 ^ (k + 1) → k + 1 ≤ 20 → 0 < m → m ≤ 9223372036854775808 →
    Calls Try.prog 33 #[.int .i64 (-(m : Int))] w fun e w' => e = .returned (.string (⟨#[45]⟩ ++ bt 10 (k + 1) m)) ∧ w = w' := by
  induction k with
  | zero =>
    intro m w hm _ h0 _
    exact refPrint_neg_one 0 m w (by simpa using hm) h0
  | succ k ih =>
    intro m w hm hk h0 hm64
    by_cases h10 : m < 10
    · exact refPrint_neg_one (k + 1) m w h10 h0
    · have H1 := Lib.hid (bt_more 10 (k + 1) m (by omega))
      have hq : m / 10 < 10 ^ (k + 1) := by rw [Nat.div_lt_iff_lt_mul (by omega)]; rw [Nat.pow_succ] at hm; exact hm
      have hr : m % 10 < 10 := Nat.mod_lt _ (by omega)
      have hqb : m / 10 < 9223372036854775808 := by omega
      have hq0 : 0 < m / 10 := by omega
      have HO := Lib.hid (bt_one 10 0 (m % 10) hr)
      have htd : (-(m : Int)).tdiv 10 = -((m / 10 : Nat) : Int) := by rw [Int.neg_tdiv]; rfl
      have htm : (-(m : Int)).tmod 10 = -((m % 10 : Nat) : Int) := by rw [Int.neg_tmod]; rfl
      obtain ⟨q, eq⟩ : ∃ q, m / 10 = q := ⟨_, rfl⟩
      obtain ⟨r, er⟩ : ∃ r, m % 10 = r := ⟨_, rfl⟩
      rw [eq] at hq htd hqb hq0
      rw [er] at hr htm
      have EQ := Lib.hid eq
      have ER := Lib.hid er
      have HQ := Lib.hid hq
      clear hm hq eq er
      have hl := bt_len 10 (k + 1) q
      have hl1 := bt_len 10 (0 + 1) r
      have hl2 : (⟨#[45]⟩ ++ bt 10 (k + 1) q : ByteArray).size ≤ 30 := by
        rw [ByteArray.size_append]
        have : (⟨#[45]⟩ : ByteArray).size = 1 := rfl
        omega
      have hl3 : ¬ 9223372036854775807 < 1 + (bt 10 (k + 1) q).size + (bt 10 1 r).size := by
        have : (bt 10 1 r).size ≤ 1 := hl1
        omega
      go_enter Try.func33, Try.ntmps33
      go_wp2_with (first | (go_at_call 33; ((with_reducible refine (ih _ _ HQ.out (by omega) hq0 (by omega)).mono ?_); rintro e w' ⟨rfl, rfl⟩)) | (go_at_call 33; ((with_reducible refine (refPrint_one 0 r _ hr).mono ?_); rintro e w' ⟨rfl, rfl⟩)))
      go_ret
      refine ⟨ret_string ?_, rfl⟩
      have h1 := H1.out
      rw [ER.out, EQ.out] at h1
      have h2 := HO.out
      rw [ER.out] at h2
      rw [← h1, ← h2, ByteArray.append_assoc]

theorem refPrint_any (n : Int) (w : World) (hn : -9223372036854775808 ≤ n) (hn' : n ≤ 9223372036854775807) :
    Calls Try.prog 33 #[.int .i64 n] w fun e w' => e = .returned (.string ⟨(pl n).toArray⟩) ∧ w = w' := by
  rcases pl_cases n with ⟨m, h0, rfl, e⟩ | ⟨m, rfl, e⟩
  · have hp := pow_lt_10 m (by omega)
    refine (refPrint_neg_fuel 19 m w hp (by omega) h0 (by omega)).mono ?_
    rintro e' w' ⟨rfl, rfl⟩
    refine ⟨ret_string ?_, rfl⟩
    rw [e, bt_ltxt 10 (by omega) 20 m hp (by omega) (by omega)]
    exact ba_app [45] _
  · have hp := pow_lt_10 m (by omega)
    refine (refPrint_fuel 19 m w hp (by omega) (by omega)).mono ?_
    rintro e' w' ⟨rfl, rfl⟩
    refine ⟨ret_string ?_, rfl⟩
    rw [e, bt_ltxt 10 (by omega) 20 m hp (by omega) (by omega)]
end Go.Proofs.Ytibeljppjaenbaa
