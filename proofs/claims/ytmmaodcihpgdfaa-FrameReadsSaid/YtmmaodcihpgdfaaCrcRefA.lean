/- The walks of the document's answers for layer 9: sums. -/
import Derived.Test.YtmmaodcihpgdfaaBytes
import Derived.Test.YtmmaodcihpgdfaaCrcMath
import Derived.Lib.Hide
namespace Go.Proofs.Ytmmaodcihpgdfaa
open Go.RowKit

def nb9 (l : List UInt8) : List Nat := l.map UInt8.toNat
theorem nb9_len (l : List UInt8) : (nb9 l).length = l.length := List.length_map _
theorem nb9_byte (l : List UInt8) : ∀ b ∈ nb9 l, b < 256 := by
  intro b hb
  unfold nb9 at hb
  obtain ⟨u, _, rfl⟩ := List.mem_map.1 hb
  exact u.toNat_lt
theorem beq_no9 {a b : Int} (h : a ≠ b) : (a == b) = false := by simpa using h

theorem refTurn9_any (x : Nat) (w : World) (hx : x < 4294967296) : Calls Try.prog 33 #[.int .u32 (x : Int)] w fun e w' => e = .returned (.int .u32 ((tn9 x : Nat) : Int)) ∧ w = w' := by
  have e : ((tn9 x : Nat) : Int) = 4294967295 - (x : Int) := by unfold tn9; omega
  rw [e]
  clear e
  have h1 : (x : Int) < 4294967296 := by omega
  have h0 : (0 : Int) ≤ (x : Int) := by omega
  go_enter Try.func33, Try.ntmps33
  go_wp2
  go_ret
  exact ⟨rfl, rfl⟩

theorem xor_pow (a b : Nat) : ∀ i, (a ^^^ b) / 2 ^ i = a / 2 ^ i ^^^ b / 2 ^ i := by
  intro i
  induction i with
  | zero => simp
  | succ i ih => rw [Nat.pow_succ, ← Nat.div_div_eq_div_mul, ih, xor_half, Nat.div_div_eq_div_mul, Nat.div_div_eq_div_mul]
theorem xor_step (a b i : Nat) : (a ^^^ b) % 2 ^ (i + 1) = (a ^^^ b) % 2 ^ i + (if a / 2 ^ i % 2 = b / 2 ^ i % 2 then 0 else 2 ^ i) := by
  rw [Nat.mod_pow_succ, xor_pow, xor_odd]
  have h1 := Nat.mod_lt (a / 2 ^ i) (show 0 < 2 by decide)
  have h2 := Nat.mod_lt (b / 2 ^ i) (show 0 < 2 by decide)
  generalize a / 2 ^ i % 2 = u at *
  generalize b / 2 ^ i % 2 = v at *
  have : (u = 0 ∨ u = 1) ∧ (v = 0 ∨ v = 1) := by omega
  rcases this with ⟨rfl | rfl, rfl | rfl⟩ <;> simp

set_option maxHeartbeats 2000000 in
theorem refEither_any (a b : Nat) (w : World) (ha : a < 4294967296) (hb : b < 4294967296) : Calls Try.prog 34 #[.int .u32 (a : Int), .int .u32 (b : Int)] w fun e w' => e = .returned (.int .u32 ((a ^^^ b : Nat) : Int)) ∧ w = w' := by
  have hx : a ^^^ b < 2 ^ 32 := Nat.xor_lt_two_pow (by simpa using ha) (by simpa using hb)
  have HX := Lib.hid (Nat.mod_eq_of_lt hx)
  have HS := fun i => Lib.hid (xor_step a b i)
  clear hx
  go_enter Try.func34, Try.ntmps34
  go_wp2
  go_loopw [0, 1, 5, 6, 7] (fun x y o q i wr => ∃ k : Nat, k ≤ 32 ∧ x = .int .u32 ((a / 2 ^ k : Nat) : Int) ∧ y = .int .u32 ((b / 2 ^ k : Nat) : Int) ∧ o = .int .u32 (((a ^^^ b) % 2 ^ k : Nat) : Int) ∧ q = .int .u32 ((2 ^ k % 4294967296 : Nat) : Int) ∧ i = .int .i64 k ∧ w = wr) (fun _ _ _ _ i _ => 32 - (intOf i).toNat)
  case atStart => exact ⟨0, Nat.zero_le _, by simp, by simp, by simp [Nat.mod_one], rfl, rfl, rfl⟩
  case round =>
    obtain ⟨k, hk, rfl, rfl, rfl, rfl, rfl, rfl⟩ := hrel
    by_cases hlt : k < 32
    · have hs := (HS k).out
      have ha2 : a / 2 ^ (k + 1) = a / 2 ^ k / 2 := by rw [Nat.pow_succ, Nat.div_div_eq_div_mul]
      have hb2 : b / 2 ^ (k + 1) = b / 2 ^ k / 2 := by rw [Nat.pow_succ, Nat.div_div_eq_div_mul]
      have hp2 : 2 ^ (k + 1) % 4294967296 = 2 ^ k * 2 % 4294967296 := by rw [Nat.pow_succ]
      have hpk : 2 ^ k ≤ 2 ^ 31 := Nat.pow_le_pow_right (by decide) (by omega)
      have hml : (a ^^^ b) % 2 ^ k < 2 ^ k := Nat.mod_lt _ (Nat.pow_pos (by decide))
      have hpm : 2 ^ k % 4294967296 = 2 ^ k := Nat.mod_eq_of_lt (by omega)
      have hda : a / 2 ^ k ≤ a := Nat.div_le_self _ _
      have hdb : b / 2 ^ k ≤ b := Nat.div_le_self _ _
      rw [hpm]
      obtain ⟨z, hz⟩ : ∃ z, (a ^^^ b) % 2 ^ (k + 1) = z := ⟨_, rfl⟩
      rw [hz] at hs
      generalize (a ^^^ b) % 2 ^ k = o at *
      generalize a / 2 ^ k = x at *
      generalize b / 2 ^ k = y at *
      generalize 2 ^ k = q at *
      have HA2 := Lib.hid ha2
      have HB2 := Lib.hid hb2
      have HP2 := Lib.hid hp2
      have HZ := Lib.hid hz
      have k0 : (k : Int) < 32 := by omega
      have x1 : (x : Int) < 4294967296 := by omega
      have y1 : (y : Int) < 4294967296 := by omega
      have q1 : (q : Int) ≤ 2147483648 := by omega
      have q0 : (0 : Int) ≤ (q : Int) := by omega
      have o1 : (o : Int) < (q : Int) := by omega
      have o0 : (0 : Int) ≤ (o : Int) := by omega
      clear ha2 hb2 hp2 hz hpk hml hpm hda hdb
      have hcase : (((x : Int) % 2 != (y : Int) % 2) = false ∧ z = o) ∨ (((x : Int) % 2 != (y : Int) % 2) = true ∧ z = o + q) := by
        by_cases e : x % 2 = y % 2
        · left
          rw [if_pos e] at hs
          exact ⟨by rw [bne_eq_false_iff_eq]; omega, by omega⟩
        · right
          rw [if_neg e] at hs
          exact ⟨by rw [bne_iff_ne]; omega, by omega⟩
      clear hs
      rcases hcase with ⟨e1, e2⟩ | ⟨e1, e2⟩
      all_goals
        have E2 := Lib.hid e2
        clear e2
        go_wp2
        go_roundw
        case rel => exact ⟨k + 1, by omega, by rw [HA2.out] <;> go_num, by rw [HB2.out] <;> go_num, by rw [HZ.out, E2.out] <;> go_num, by rw [HP2.out] <;> go_num, by go_num, by trivial⟩
        case measure => simp [intOf] <;> omega
    · have hke : k = 32 := by omega
      subst hke
      rw [HX.out]
      clear hlt hk
      go_wp2
      go_ret
      exact ⟨rfl, rfl⟩

theorem reg_next (s : Nat) (l : List UInt8) (j : Nat) (h : j < l.length) : reg s (nb9 (l.take (j + 1))) = sti 8 (reg s (nb9 (l.take j)) ^^^ l[j].toNat) := by
  unfold nb9 reg
  rw [List.take_succ_eq_append_getElem h, List.map_append, List.foldl_append]
  rfl

set_option maxHeartbeats 2000000 in
set_option maxRecDepth 100000 in
theorem refMore9_any (s : Nat) (va : Value) (l : List UInt8) (w : World) (ha : BytesAt w va l) (hl : l.length ≤ 1000000) (hs : s < 4294967296) :
    Calls Try.prog 31 #[.int .u32 (s : Int), va] w fun e w' => e = .returned (.int .u32 ((mor s (nb9 l) : Nat) : Int)) ∧ w = w' := by
  have HA := Lib.hid ha
  obtain ⟨a, c, rfl⟩ := RowsAt.form ha
  clear ha
  have h1 := fun w => refTurn9_any s w hs
  have ht := tn9_lt s
  have hr : ∀ j, reg (tn9 s) (nb9 (l.take j)) < 4294967296 := fun j => reg_lt (nb9 (l.take j)) (tn9 s) (tn9_lt s) (nb9_byte _)
  have h2 := fun w => refTurn9_any (reg (tn9 s) (nb9 l)) w (by have := hr l.length; rwa [List.take_length] at this)
  have hm : tn9 (reg (tn9 s) (nb9 l)) = mor s (nb9 l) := rfl
  rw [hm] at h2
  have HN := fun j hj => Lib.hid (reg_next (tn9 s) l j hj)
  have H0 : tn9 s = reg (tn9 s) (nb9 (l.take 0)) := rfl
  have H1 := Lib.hid h1
  have H2 := Lib.hid h2
  have HR := fun j => Lib.hid (hr j)
  have HH0 := Lib.hid H0
  clear h1 h2 hm hr ht H0
  go_enter Try.func31, Try.ntmps31
  go_wp2_with (go_at_call 33; (with_reducible refine (H1.out _).mono ?_); rintro e w1 ⟨rfl, rfl⟩)
  go_loopw [5, 6, 7, 8] (fun x i _ _ wr => ∃ j : Nat, j ≤ l.length ∧ x = .int .u32 ((reg (tn9 s) (nb9 (l.take j)) : Nat) : Int) ∧ i = .int .i64 j ∧ w = wr) (fun _ i _ _ _ => l.length - (intOf i).toNat)
  case atStart => exact ⟨0, Nat.zero_le _, by rw [← HH0.out], rfl, rfl⟩
  case round =>
    obtain ⟨j, hj, rfl, rfl, rfl⟩ := hrel
    by_cases hlt : j < l.length
    · obtain ⟨g, o, c', ev, hc, hg, p0⟩ := HA.out.at j hlt
      cases ev
      have hn := (HN j hlt).out
      have hrj := (HR j).out
      have hu := l[j].toNat_lt
      generalize reg (tn9 s) (nb9 (l.take j)) = y at *
      generalize l[j].toNat = u at *
      have he := fun w => refEither_any y u w hrj (by omega)
      have hxl : y ^^^ u < 4294967296 := Nat.xor_lt_two_pow (n := 32) (by simpa using hrj) (by omega)
      generalize y ^^^ u = v at *
      have HE := Lib.hid he
      have HNN := Lib.hid hn
      have j0 : (0 : Int) ≤ (j : Int) := by omega
      have j1 : (j : Int) < (l.length : Int) := by omega
      have u1 : (u : Int) < 256 := by omega
      have u0 : (0 : Int) ≤ (u : Int) := by omega
      have HXL := Lib.hid hxl
      clear hn hrj hu he hxl
      go_wp2_with (go_at_call 34; (with_reducible refine (HE.out _).mono ?_); rintro e w1 ⟨rfl, rfl⟩)
      go_loopw [5, 7, 8] (fun x i _ wx => ∃ q : Nat, q ≤ 8 ∧ x = .int .u32 ((sti q v : Nat) : Int) ∧ i = .int .i64 q ∧ w = wx) (fun _ i _ _ => 8 - (intOf i).toNat)
      case atStart => exact ⟨0, Nat.zero_le _, rfl, rfl, rfl⟩
      case round =>
        obtain ⟨q, hq, rfl, rfl, rfl⟩ := hrel
        by_cases hq8 : q < 8
        · have hsq : sti (q + 1) v = st (sti q v) := sti_add q 1 v
          have hsl : sti q v < 4294967296 := sti_lt q v HXL.out
          generalize sti q v = z at *
          have hst : st z = if z % 2 = 1 then z / 2 ^^^ 3988292384 else z / 2 := rfl
          have hz2 : z / 2 < 4294967296 := by omega
          have he2 := fun w => refEither_any (z / 2) 3988292384 w hz2 (by decide)
          have z1 : (z : Int) < 4294967296 := by omega
          have q1 : (q : Int) < 8 := by omega
          have HSQ := Lib.hid hsq
          have HE2 := Lib.hid he2
          by_cases hodd : z % 2 = 1
          · rw [if_pos hodd] at hst
            have hb : (z : Int) % 2 = 1 := by omega
            have HST := Lib.hid hst
            clear hst hsq he2 hodd hz2 hsl
            go_wp2_with (go_at_call 34; (refine (HE2.out _).mono ?_); rintro e w1 ⟨rfl, rfl⟩)
            go_roundw
            case rel => exact ⟨q + 1, by omega, by rw [HSQ.out, HST.out] <;> go_num, by go_num, by trivial⟩
            case measure => simp [intOf] <;> omega
          · rw [if_neg hodd] at hst
            have hb : ((z : Int) % 2 == 1) = false := beq_no9 (by omega)
            have HST := Lib.hid hst
            clear hst hsq he2 hodd hz2 hsl
            go_wp2
            go_roundw
            case rel => exact ⟨q + 1, by omega, by rw [HSQ.out, HST.out] <;> go_num, by go_num, by trivial⟩
            case measure => simp [intOf] <;> omega
        · have hqe : q = 8 := by omega
          subst hqe
          clear hq8 hq
          go_wp2
          go_roundw
          case rel => exact ⟨j + 1, by omega, by rw [HNN.out], by go_num, by trivial⟩
          case measure => simp [intOf] <;> omega
    · have hje : j = l.length := by omega
      rw [hje, List.take_length]
      clear hje hlt hj
      go_wp2_with (go_at_call 33; (with_reducible refine (H2.out _).mono ?_); rintro e w1 ⟨rfl, rfl⟩)
      go_ret
      exact ⟨rfl, rfl⟩
theorem refSum9_any (va : Value) (l : List UInt8) (w : World) (ha : BytesAt w va l) (hl : l.length ≤ 1000000) :
    Calls Try.prog 23 #[va] w fun e w' => e = .returned (.int .u32 ((sm (nb9 l) : Nat) : Int)) ∧ w = w' := by
  have h : ∀ w, BytesAt w va l → Calls Try.prog 31 #[.int .u32 0, va] w fun e w' => e = .returned (.int .u32 ((sm (nb9 l) : Nat) : Int)) ∧ w = w' := fun w ha => refMore9_any 0 va l w ha hl (by decide)
  have H := Lib.hid (h w ha)
  clear ha h
  go_enter Try.func23, Try.ntmps23
  go_wp2_with (go_at_call 31; (with_reducible refine H.out.mono ?_); rintro e w1 ⟨rfl, rfl⟩)
  go_ret
  exact ⟨rfl, rfl⟩
end Go.Proofs.Ytmmaodcihpgdfaa
