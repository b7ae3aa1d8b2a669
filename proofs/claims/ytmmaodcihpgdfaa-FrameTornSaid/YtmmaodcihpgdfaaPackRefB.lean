/- The walks of the document's answers for layer 8: a number in so many bytes. -/
import Derived.Test.YtmmaodcihpgdfaaPackRefA
import Derived.LoopNIn
namespace Go.Proofs.Ytmmaodcihpgdfaa
open Go.RowKit

/-- numbers as bytes, bytes as numbers -/
def bn (l : List Nat) : List UInt8 := l.map UInt8.ofNat
def nb (l : List UInt8) : List Nat := l.map UInt8.toNat
theorem bn_append (a b : List Nat) : bn (a ++ b) = bn a ++ bn b := List.map_append
theorem bn_len (l : List Nat) : (bn l).length = l.length := List.length_map _
theorem nb_len (l : List UInt8) : (nb l).length = l.length := List.length_map _
theorem bn_nb (l : List UInt8) : bn (nb l) = l := by
  unfold bn nb
  rw [List.map_map]
  conv => rhs; rw [← List.map_id l]
  refine List.map_congr_left fun a _ => ?_
  simp
theorem nb_bn {l : List Nat} (h : ∀ b ∈ l, b < 256) : nb (bn l) = l := by
  unfold bn nb
  rw [List.map_map]
  conv => rhs; rw [← List.map_id l]
  refine List.map_congr_left fun a ha => ?_
  have := h a ha
  show (UInt8.ofNat a).toNat = a
  rw [UInt8.toNat_ofNat']
  omega
theorem nb_byte (l : List UInt8) : ∀ b ∈ nb l, b < 256 := by
  intro b hb
  unfold nb at hb
  obtain ⟨u, _, rfl⟩ := List.mem_map.1 hb
  exact u.toNat_lt
theorem byte_to (n : Nat) (h : n < 256) : ((UInt8.ofNat n).toNat : Int) = (n : Int) := by rw [UInt8.toNat_ofNat']; omega
theorem bigs_at (x : Nat) : ∀ K j, j < K → (bigs K x).take (j + 1) = (bigs K x).take j ++ [x / 256 ^ (K - 1 - j) % 256] := by
  intro K
  induction K with
  | zero => intro j h; omega
  | succ K ih =>
    intro j h
    cases j with
    | zero => simp [bigs]
    | succ j =>
      have := ih j (by omega)
      show (x / 256 ^ K % 256 :: bigs K x).take (j + 1 + 1) = (x / 256 ^ K % 256 :: bigs K x).take (j + 1) ++ _
      rw [List.take_succ_cons, List.take_succ_cons, this]
      rw [show K + 1 - 1 - (j + 1) = K - 1 - j by omega]
      rfl

theorem refClip8_any (k : Int) (w : World) : Calls Try.prog 30 #[.int .i64 k, .int .i64 0, .int .i64 8] w fun e w' => e = .returned (.int .i64 (max 0 (min k 8))) ∧ w = w' := by
  by_cases h : k < 0
  · go_enter Try.func30, Try.ntmps30
    go_wp2
    go_ret
    exact ⟨ret_i (by omega), rfl⟩
  · by_cases h2 : 8 < k
    · go_enter Try.func30, Try.ntmps30
      go_wp2
      go_ret
      exact ⟨ret_i (by omega), rfl⟩
    · go_enter Try.func30, Try.ntmps30
      go_wp2
      go_ret
      exact ⟨ret_i (by omega), rfl⟩
/-- in how many bytes -/
def kk (k : Int) : Nat := (max 0 (min k 8)).toNat
theorem kk_is (k : Int) : max 0 (min k 8) = (kk k : Int) := by unfold kk; omega
theorem kk_le (k : Int) : kk k ≤ 8 := by unfold kk; omega

/-- a row of one byte, new -/
theorem RowsAt.one1 (w : World) (n : Int) (b : UInt8) (h : n = (b.toNat : Int)) : BytesAt (w.alloc (.cells #[.int .u8 n] 5)) (.slice (some ⟨w.heap.size, 0, none⟩) 1 1) [b] := by
  refine ⟨_, 1, rfl, Nat.le_refl _, fun _ => ⟨w.heap.size, 0, rfl, by simp, fun j x hj i u hu => ?_⟩⟩
  have h0 : j = 0 ∧ x = b := by
    cases j with
    | zero => simp at hj; exact ⟨rfl, hj.symm⟩
    | succ j => simp at hj
  obtain ⟨rfl, rfl⟩ := h0
  have h1 : i = 0 ∧ u = .int .u8 (x.toNat : Int) := by
    cases i with
    | zero => simp [csB] at hu; exact ⟨rfl, hu.symm⟩
    | succ i => simp [csB] at hu
  obtain ⟨rfl, rfl⟩ := h1
  subst h
  rw [World.cell?_alloc_at _ _ _ _ rfl]
  rfl

set_option maxHeartbeats 2000000 in
set_option maxRecDepth 100000 in
theorem refPutO_any (va : Value) (l : List UInt8) (x : Nat) (k : Int) (w : World) (ha : BytesAt w va l) (hl : l.length ≤ 1000000) (hx : x < 18446744073709551616) :
    Calls Try.prog 22 #[va, .int .u64 (x : Int), .int .i64 k] w fun e w' => ∃ v, e = .returned v ∧ OwnB w' w.heap.size v (l ++ bn (bigs (kk k) x)) ∧ Below w.heap.size w w' := by
  obtain ⟨i0, hi, hz0, hz1, hz2⟩ := info_parts info_byte
  have hc := fun w => refClip8_any k w
  rw [kk_is] at hc
  have hk8 := kk_le k
  generalize kk k = K at *
  have HC := Lib.hid hc
  have ho := ownb_empty w
  have hB := (Below.refl w.heap.size w).alloc (Nat.le_refl _) (.cells #[] 5)
  have hA1 := ha.kept hB
  obtain ⟨a, c, rfl⟩ := RowsAt.form ha
  have HBG := fun j hj => Lib.hid (bigs_at x K j hj)
  clear ha hc
  go_enter Try.func22, Try.ntmps22
  go_wp2_with (at_builtin; refine wpList_append_rows csB_len (by decide) csB_one rfl _ _ 22 rfl w.heap.size 5 i0 (.int .u8 0) 1 Try.underlying22 hi hz0 hz1 hz2 rfl _ _ rfl ho _ _ rfl hA1 (by unfold maxLen; simp; omega) (by simp; omega) (by simp) ?_)
  intro v0 w1 o1 g1
  have hB1 := OwnR.below ho hB (by simp) g1
  have hz1 : w.heap.size ≤ w1.heap.size := hB1.size
  replace o1 : OwnB w1 w.heap.size v0 l := o1
  have HO1 := Lib.hid o1
  clear ho hB g1 o1 hA1
  go_wp2_with (go_at_call 30; (with_reducible refine (HC.out _).mono ?_); rintro e w2 ⟨rfl, rfl⟩)
  go_loopw [7, 8, 9, 10] (fun v i _ _ wr => ∃ j : Nat, j ≤ K ∧ i = .int .i64 ((K : Int) - 1 - j) ∧ OwnB wr w.heap.size v (l ++ bn ((bigs K x).take j)) ∧ Below w.heap.size w wr) (fun _ i _ _ _ => (intOf i + 1).toNat)
  case atStart => exact ⟨0, Nat.zero_le _, by go_num, by rw [show l ++ bn ((bigs K x).take 0) = l by simp [bn]]; exact HO1.out, hB1⟩
  case round =>
    clear hB1 HO1 hz1
    obtain ⟨j, hj, rfl, hown, hB⟩ := hrel
    have HO := Lib.hid hown
    clear hown
    by_cases hlt : j < K
    · have h0 : (0 : Int) ≤ (K : Int) - 1 - j := by omega
      obtain ⟨m, hm⟩ : ∃ m : Nat, K - 1 - j = m := ⟨_, rfl⟩
      have hmi : (K : Int) - 1 - j = (m : Int) := by omega
      have hbg := (HBG j hlt).out
      rw [hm] at hbg
      rw [hmi] at h0 ⊢
      have HBJ := Lib.hid hbg
      have HMI := Lib.hid hmi
      clear hbg hmi
      go_wp2
      go_loopw [9, 10] (fun xv nv wx => ∃ q : Nat, q ≤ m ∧ xv = .int .u64 ((x / 256 ^ q : Nat) : Int) ∧ nv = .int .i64 q ∧ wx = wr) (fun _ nv _ => m - (intOf nv).toNat)
      case atStart => exact ⟨0, Nat.zero_le _, by simp, rfl, rfl⟩
      case round =>
        obtain ⟨q, hq, rfl, rfl, rfl⟩ := hrel
        by_cases hqm : q < m
        · have hs : x / 256 ^ q / 256 = x / 256 ^ (q + 1) := by rw [Nat.div_div_eq_div_mul, Nat.pow_succ]
          have hyx : x / 256 ^ q ≤ x := Nat.div_le_self _ _
          generalize x / 256 ^ q = y at *
          have HS := Lib.hid hs
          have hy1 : (y : Int) ≤ 18446744073709551615 := by omega
          have hq1 : (q : Int) < (m : Int) := by omega
          clear hs hyx
          go_wp2
          go_roundw
          case rel => exact ⟨q + 1, by omega, by rw [← HS.out]; go_num, by go_num, by trivial⟩
          case measure => simp [intOf]; omega
        · have hqe : q = m := by omega
          rw [hqe]
          clear hqe hqm hq
          have hsz : w.heap.size ≤ wr.heap.size := hB.size
          have hy : x / 256 ^ m % 256 < 256 := Nat.mod_lt _ (by decide)
          have hu := byte_to _ hy
          have hyx : x / 256 ^ m ≤ x := Nat.div_le_self _ _
          generalize x / 256 ^ m = y at *
          have hy1 : (y : Int) ≤ 18446744073709551615 := by omega
          clear hyx
          have ho2 := HO.out.alloc (.cells #[.int .u8 ((y : Int) % 256)] 5)
          have hB2 := hB.alloc hsz (.cells #[.int .u8 ((y : Int) % 256)] 5)
          have hP := RowsAt.one1 wr ((y : Int) % 256) (UInt8.ofNat (y % 256)) (by rw [hu]; omega)
          have hlen : (l ++ bn ((bigs K x).take j)).length ≤ 1000008 := by rw [List.length_append, bn_len, List.length_take]; omega
          go_wp2_with (at_builtin; refine (fun (_ : True) => ?_) trivial; revert ho2)
          intro ho2
          refine wpList_append_rows csB_len (by decide) csB_one rfl _ _ 22 rfl w.heap.size 5 i0 (.int .u8 0) 1 Try.underlying22 hi hz0 hz1 hz2 rfl _ _ rfl ho2 _ _ rfl hP (by show _ + 1 ≤ maxLen; unfold maxLen; omega) (by show (_ + 1) * 1 ≤ _; omega) hB2.size ?_
          intro v' w5 h1 h2
          have hB5 := OwnR.below ho2 hB2 hB2.size h2
          have o5 : OwnB w5 w.heap.size v' (l ++ bn ((bigs K x).take (j + 1))) := by
            rw [HBJ.out, bn_append, ← List.append_assoc]
            exact h1
          have HO5 := Lib.hid o5
          have HMJ := Lib.hid (show (m : Int) - 1 = (K : Int) - 1 - (j + 1) by have := HMI.out; omega)
          clear h1 h2 ho2 hB2 hP hB o5
          go_wp2
          go_roundw
          case rel => exact ⟨j + 1, by omega, by rw [show ((j + 1 : Nat) : Int) = (j : Int) + 1 by omega, ← HMJ.out], HO5.out, hB5⟩
          case measure => simp [intOf] <;> omega
    · have hje : j = K := by omega
      have hfull : (bigs K x).take K = bigs K x := List.take_of_length_le (by rw [bigs_length]; exact Nat.le_refl _)
      rw [hje] at HO ⊢
      rw [hfull] at HO
      clear hje hlt hj hfull
      go_wp2
      go_ret
      exact ⟨_, rfl, HO.out, hB⟩
theorem refPut_any (va : Value) (l : List UInt8) (x : Nat) (k : Int) (w : World) (ha : BytesAt w va l) (hl : l.length ≤ 1000000) (hx : x < 18446744073709551616) :
    Calls Try.prog 22 #[va, .int .u64 (x : Int), .int .i64 k] w fun e w' => ∃ v, e = .returned v ∧ BytesAt w' v (l ++ bn (bigs (kk k) x)) ∧ Below w.heap.size w w' := by
  refine (refPutO_any va l x k w ha hl hx).mono ?_
  rintro e w' ⟨v, h1, h2, h3⟩
  exact ⟨v, h1, h2.bytes, h3⟩
end Go.Proofs.Ytmmaodcihpgdfaa
