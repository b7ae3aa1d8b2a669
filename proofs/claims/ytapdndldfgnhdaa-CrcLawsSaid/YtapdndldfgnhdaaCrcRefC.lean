/- The walks of the document's answers for layer 9: bits turned. -/
import Derived.Test.YtapdndldfgnhdaaCrcRefB
namespace Go.Proofs.Ytapdndldfgnhdaa
open Go.RowKit

theorem OwnB.some {w : World} {B : Nat} {v : Value} {l : List UInt8} (h : OwnB w B v l) (h0 : 0 < l.length) : ∃ g cap, v = .slice (some ⟨g, 0, none⟩) l.length cap ∧ B ≤ g ∧ l.length ≤ cap ∧ ∀ j, w.frozen? ⟨g, j, none⟩ = false := by
  rcases h.2 with ⟨rfl, he⟩ | ⟨g, cap, cur, rfl, hg, hh, hnc, hcp, hcs, htake⟩
  · omega
  · exact ⟨g, cap, rfl, hg, hnc, fun j => by simp [World.frozen?, hh]⟩

theorem flx_next2 (l : List Nat) (P n : Nat) (hP : P < 2 ^ n) (hn : n / 8 < l.length) : flx (P + 2 ^ n) l = (flx P l).set (n / 8) ((flx P l).getD (n / 8) 0 ^^^ 2 ^ (n % 8)) := by
  rw [flx_next l P n hP hn, List.getD_eq_getElem?_getD, List.getElem?_eq_getElem (by rw [flx_length]; exact hn)]
  rfl

set_option maxHeartbeats 4000000 in
set_option maxRecDepth 100000 in
theorem refFlip9_any (va : Value) (l : List UInt8) (at_ : Int) (b : Nat) (w : World) (ha : BytesAt w va l) (hl : l.length ≤ 1000000) (hb : b < 4294967296) (hat : -9223372036854775808 ≤ at_ ∧ at_ ≤ 9223372036854775807) :
    Calls Try.prog 14 #[va, .int .i64 at_, .int .u32 (b : Int)] w fun e w' => ∃ v, e = .returned v ∧ BytesAt w' v (flips at_ b l) ∧ Below w.heap.size w w' := by
  obtain ⟨i0, hi, hz0, hz1, hz2⟩ := info_parts info_byte
  have ho := ownb_empty w
  have hB := (Below.refl w.heap.size w).alloc (Nat.le_refl _) (.cells #[] 5)
  have hA1 := ha.kept hB
  obtain ⟨a, c, rfl⟩ := RowsAt.form ha
  have hout := fun n h => flq_out (at_ := at_) (b := b) (n := n) (by simpa using hb) h
  have hin := fun n d h => flq_in (at_ := at_) (b := b) (n := n) (d := d) h
  have hfl : flips at_ b l = bn9 (flx (flq at_ b) (nb9 l)) := rfl
  have hnl := nb9_len l
  have hnb := nb9_byte l
  rw [hfl]
  have hself := bn9_nb9 l
  generalize nb9 l = N at *
  generalize flq at_ b = Q at *
  have HOUT := Lib.hid hout
  have HIN := Lib.hid hin
  have HNB := Lib.hid hnb
  have HSELF := Lib.hid hself
  have HNL := Lib.hid hnl
  clear ha hout hin hfl hnb hself hnl
  go_enter Try.func14, Try.ntmps14
  go_wp2_with (at_builtin; refine wpList_append_rows csB_len (by decide) csB_one rfl _ _ 22 rfl w.heap.size 5 i0 (.int .u8 0) 1 Try.underlying22 hi hz0 hz1 hz2 rfl _ _ rfl ho _ _ rfl hA1 (by unfold maxLen; simp; omega) (by simp; omega) (by simp) ?_)
  intro v0 w1 o1 g1
  have hB1 := OwnR.below ho hB (by simp) g1
  replace o1 : OwnB w1 w.heap.size v0 l := o1
  have HO1 := Lib.hid o1
  obtain ⟨a0, c0, rfl⟩ := RowsAt.form o1.bytes
  clear ho hB g1 o1 hA1
  go_wp2
  go_loopw [8, 9, 10, 11, 12] (fun i _ _ _ _ wr => ∃ n : Nat, n ≤ 8 * l.length ∧ i = .int .i64 n ∧ OwnB wr w.heap.size (.slice a0 l.length c0) (bn9 (flx (Q % 2 ^ n) N)) ∧ Below w.heap.size w wr) (fun i _ _ _ _ _ => 8 * l.length - (intOf i).toNat)
  case atStart => exact ⟨0, Nat.zero_le _, rfl, by rw [show flx (Q % 2 ^ 0) N = N from flx_zero N _ (by simp [Nat.mod_one]), HSELF.out]; exact HO1.out, hB1⟩
  case round =>
    clear hB1 HO1
    obtain ⟨n, hn, rfl, hown, hB⟩ := hrel
    by_cases hlt : n < 8 * l.length
    · have n1 : (n : Int) < 8 * (l.length : Int) := by omega
      have hmn := mod_next Q n
      by_cases hskip : (n : Int) < at_ ∨ at_ < (n : Int) - 31
      · have hq0 := HOUT.out n hskip
        rw [hq0, Nat.mul_zero, Nat.add_zero] at hmn
        have HO := Lib.hid hown
        have HMN := Lib.hid hmn
        clear hown hmn hq0
        have hway : ((n : Int) < at_) ∨ (¬ (n : Int) < at_ ∧ at_ < (n : Int) - 31) := by omega
        rcases hway with h1 | ⟨h1, h2⟩
        all_goals
          go_wp2
          go_roundw
          case rel => exact ⟨n + 1, by omega, by go_num, by rw [HMN.out]; exact HO.out, hB⟩
          case measure => simp [intOf] <;> omega
      · obtain ⟨d, hd⟩ : ∃ d : Nat, (n : Int) - at_ = d := ⟨((n : Int) - at_).toNat, by omega⟩
        have hd31 : d ≤ 31 := by omega
        have hq := HIN.out n d hd
        rw [hq] at hmn
        have h1 : ¬ (n : Int) < at_ := by omega
        have h2 : ¬ at_ < (n : Int) - 31 := by omega
        have HO := Lib.hid hown
        have HMN := Lib.hid hmn
        clear hown hmn hq hskip
        go_wp2
        go_loopw [9, 10] (fun x i wx => ∃ q : Nat, q ≤ d ∧ x = .int .u32 ((b / 2 ^ q : Nat) : Int) ∧ i = .int .i64 q ∧ wx = wr) (fun _ i _ => d - (intOf i).toNat)
        case atStart => exact ⟨0, Nat.zero_le _, by simp, rfl, rfl⟩
        case round =>
          obtain ⟨q, hq, rfl, rfl, rfl⟩ := hrel
          by_cases hqd : q < d
          · have hs : b / 2 ^ (q + 1) = b / 2 ^ q / 2 := by rw [Nat.pow_succ, Nat.div_div_eq_div_mul]
            have hyb : b / 2 ^ q ≤ b := Nat.div_le_self _ _
            generalize b / 2 ^ q = y at *
            have HS := Lib.hid hs
            have y1 : (y : Int) < 4294967296 := by omega
            have q1 : (q : Int) < (d : Int) := by omega
            clear hs hyb
            go_wp2
            go_roundw
            case rel => exact ⟨q + 1, by omega, by rw [HS.out] <;> go_num, by go_num, by trivial⟩
            case measure => simp [intOf] <;> omega
          · have hqe : q = d := by omega
            rw [hqe]
            have hyb : b / 2 ^ d ≤ b := Nat.div_le_self _ _
            generalize b / 2 ^ d = y at *
            have y1 : (y : Int) < 4294967296 := by omega
            clear hqe hqd hq hyb
            by_cases hev : y % 2 = 0
            · have hmn := HMN.out
              rw [hev, Nat.mul_zero, Nat.add_zero] at hmn
              have HMN2 := Lib.hid hmn
              have y2 : (y : Int) % 2 = 0 := by omega
              clear hmn hev
              go_wp2
              go_roundw
              case rel => exact ⟨n + 1, by omega, by go_num, by rw [HMN2.out]; exact HO.out, hB⟩
              case measure => simp [intOf] <;> omega
            · have y2 : ((y : Int) % 2 == 0) = false := beq_no9 (by omega)
              have hmn := HMN.out
              rw [show y % 2 = 1 by omega, Nat.mul_one] at hmn
              have HMN2 := Lib.hid hmn
              clear hmn hev HMN
              obtain ⟨r, hr⟩ : ∃ r, n % 8 = r := ⟨_, rfl⟩
              have hr8 : r < 8 := by omega
              have hri : (n : Int) % 8 = (r : Int) := by omega
              go_wp2
              go_loopw [11, 12] (fun x i wx => ∃ q : Nat, q ≤ r ∧ x = .int .u8 ((2 ^ q : Nat) : Int) ∧ i = .int .i64 q ∧ wx = wr) (fun _ i _ => r - (intOf i).toNat)
              case atStart => exact ⟨0, Nat.zero_le _, rfl, rfl, rfl⟩
              case round =>
                obtain ⟨q, hq, rfl, rfl, rfl⟩ := hrel
                by_cases hqr : q < r
                · have hs : (2 : Nat) ^ (q + 1) = 2 ^ q * 2 := Nat.pow_succ _ _
                  have hp := pw8 (q + 1) (by omega)
                  rw [hs] at hp
                  generalize (2 : Nat) ^ q = z at *
                  have HS := Lib.hid hs
                  have z1 : (z : Int) ≤ 64 := by omega
                  have q1 : (q : Int) < (r : Int) := by omega
                  clear hs hp
                  go_wp2
                  go_roundw
                  case rel => exact ⟨q + 1, by omega, by rw [HS.out] <;> go_num, by go_num, by trivial⟩
                  case measure => simp [intOf] <;> omega
                · have hqe : q = r := by omega
                  rw [hqe]
                  clear hqe hqr hq
                  have hJ : n / 8 < l.length := by omega
                  have hnl := HNL.out
                  have hPl : Q % 2 ^ n < 2 ^ n := Nat.mod_lt _ (Nat.pow_pos (by decide))
                  have hnext := flx_next2 N (Q % 2 ^ n) n hPl (by omega)
                  rw [← HMN2.out, hr] at hnext
                  have hbyte := flx_byte N (Q % 2 ^ n) HNB.out
                  have hLlen := flx_length N (Q % 2 ^ n)
                  have hown := HO.out
                  generalize flx (Q % 2 ^ n) N = L at *
                  have hJL : n / 8 < L.length := by omega
                  have hgd : L.getD (n / 8) 0 = L[n / 8] := by rw [List.getD_eq_getElem?_getD, List.getElem?_eq_getElem hJL]; rfl
                  have hc256 : L.getD (n / 8) 0 < 256 := by rw [hgd]; exact hbyte _ (List.getElem_mem hJL)
                  have htog := tog8 (L.getD (n / 8) 0) hc256 r hr8
                  have hblen : (bn9 L).length = l.length := by unfold bn9; rw [List.length_map]; omega
                  obtain ⟨g, cap, e, hBg, hcap, hfr⟩ := hown.some (by omega)
                  rw [hblen] at e
                  cases e
                  obtain ⟨g', o', c', e, _, _, p0⟩ := hown.bytes.at (n / 8) (by omega)
                  rw [hblen] at e
                  cases e
                  have hval : ((bn9 L)[n / 8]'(by omega)).toNat = L.getD (n / 8) 0 := by
                    simp only [bn9, List.getElem_map]
                    rw [UInt8.toNat_ofNat', hgd]
                    rw [hgd] at hc256
                    omega
                  rw [hval, Nat.zero_add] at p0
                  have z0 := hfr (n / 8)
                  have hset : ∀ x, (bn9 L).set (n / 8) (UInt8.ofNat x) = bn9 (L.set (n / 8) x) := fun x => by unfold bn9; rw [List.map_set]
                  have hput := fun x => OwnB.put hown (n / 8) (by omega) (UInt8.ofNat x)
                  simp only [hset] at hput
                  have h128 := pw8 r hr8
                  have hq0 : 0 < 2 ^ r := Nat.pow_pos (by decide)
                  have hB2 := fun x => hB.setCell (p := ⟨g, n / 8, none⟩) hBg x
                  clear hgd hval
                  generalize L.getD (n / 8) 0 = cc at *
                  generalize 2 ^ r = q at *
                  generalize hJe : n / 8 = J at *
                  have hJi : (n : Int) / 8 = (J : Int) := by omega
                  obtain ⟨m, hm⟩ : ∃ m, cc / q = m := ⟨_, rfl⟩
                  have hmi : (cc : Int) / (q : Int) = (m : Int) := by rw [← hm]; rfl
                  have hmt : Int.tdiv (cc : Int) (q : Int) = (m : Int) := by rw [← hm]; rfl
                  have hml : m ≤ cc := by rw [← hm]; exact Nat.div_le_self _ _
                  rw [hm] at htog
                  have qn0 : (q : Int) ≠ 0 := by omega
                  have qn1 : ((q : Int) == 0) = false := beq_no9 (by omega)
                  have c1 : (cc : Int) < 256 := by omega
                  have c00 : (0 : Int) ≤ (cc : Int) := by omega
                  have m0 : (0 : Int) ≤ (m : Int) := by omega
                  have m1 : (m : Int) < 256 := by omega
                  have q1 : (q : Int) ≤ 128 := by omega
                  have q00 : (0 : Int) < (q : Int) := by omega
                  have J0 : (0 : Int) ≤ (J : Int) := by omega
                  have J1 : (J : Int) < (l.length : Int) := by omega
                  have HNEXT := Lib.hid hnext
                  have HPUT := Lib.hid hput
                  have HB2 := Lib.hid hB2
                  by_cases hbit : m % 2 = 1
                  · rw [if_pos hbit] at htog
                    have b1 : (m : Int) % 2 = 1 := by omega
                    have hqc : q ≤ cc := by
                      rcases Nat.lt_or_ge cc q with h | h
                      · rw [Nat.div_eq_of_lt h] at hm; omega
                      · exact h
                    have hqci : (q : Int) ≤ (cc : Int) := by omega
                    have HTOG := Lib.hid htog
                    have hbv : (((UInt8.ofNat (cc - q)).toNat : Nat) : Int) = (cc : Int) - (q : Int) := by rw [UInt8.toNat_ofNat']; omega
                    have HBV := Lib.hid hbv
                    clear hnext hput hB2 htog hset hbyte hown hJe hm hbv hLlen hnl hPl hblen hJ hJL hr hbit HO hmi hd hd31 h1 h2 y1 y2
                    go_wp2
                    go_roundw
                    case rel =>
                      refine ⟨n + 1, by omega, by go_num, ?_, HB2.out _⟩
                      have h5 := HPUT.out (cc - q)
                      rw [HBV.out, ← HTOG.out, ← HNEXT.out] at h5
                      exact h5
                    case measure => simp [intOf] <;> omega
                  · rw [if_neg hbit] at htog
                    have b1 : ((m : Int) % 2 == 1) = false := beq_no9 (by omega)
                    have hcq : cc + q < 256 := by
                      have hx : cc ^^^ q < 256 := by
                        have hq8 : q < 2 ^ 8 := by omega
                        exact Nat.xor_lt_two_pow (n := 8) (by omega) hq8
                      omega
                    have hcqi : (cc : Int) + (q : Int) < 256 := by omega
                    have HTOG := Lib.hid htog
                    have hbv : (((UInt8.ofNat (cc + q)).toNat : Nat) : Int) = (cc : Int) + (q : Int) := by rw [UInt8.toNat_ofNat']; omega
                    have HBV := Lib.hid hbv
                    clear hnext hput hB2 htog hset hbyte hown hJe hm hbv hLlen hnl hPl hblen hJ hJL hr hbit HO hmi hd hd31 h1 h2 y1 y2
                    go_wp2
                    go_roundw
                    case rel =>
                      refine ⟨n + 1, by omega, by go_num, ?_, HB2.out _⟩
                      have h5 := HPUT.out (cc + q)
                      rw [HBV.out, ← HTOG.out, ← HNEXT.out] at h5
                      exact h5
                    case measure => simp [intOf] <;> omega
    · have hne : n = 8 * l.length := by omega
      have hQ : flx (Q % 2 ^ (8 * l.length)) N = flx Q N := by
        have e : (2 : Nat) ^ (8 * l.length) = 256 ^ N.length := by rw [HNL.out, Nat.pow_mul]
        apply List.ext_getElem?
        intro j
        by_cases hj : j < N.length
        · rw [flx_at _ _ j hj, flx_at _ _ j hj, e]
          congr 2
          obtain ⟨k, hk⟩ : ∃ k, N.length = j + 1 + k := ⟨N.length - (j + 1), by omega⟩
          rw [hk, Nat.add_assoc, Nat.pow_add, Nat.mod_mul_right_div_self, Nat.pow_add, Nat.pow_one, Nat.mod_mul_right_mod]
        · rw [List.getElem?_eq_none (by rw [flx_length]; omega), List.getElem?_eq_none (by rw [flx_length]; omega)]
      rw [hne, hQ] at hown
      rw [hne]
      have HO := Lib.hid hown
      clear hne hQ hown hlt hn
      go_wp2
      go_ret
      exact ⟨_, rfl, HO.out.bytes, hB⟩
end Go.Proofs.Ytapdndldfgnhdaa
