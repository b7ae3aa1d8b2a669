/- Stage 12: the document's Text and Parse. -/
import Derived.Test.YtfalohmdjnhikaaDoorSkillRefB
namespace Go.Proofs.YtfalohmdjnhikaaDoor
open Go.RowKit

def bs12 (l : List UInt8) : ByteArray := ⟨l.toArray⟩
theorem bs12_app (a b : List UInt8) : bs12 a ++ bs12 b = bs12 (a ++ b) := by
  apply ByteArray.ext
  simp [bs12]
theorem bs12_size (l : List UInt8) : (bs12 l).size = l.length := by simp [bs12, ByteArray.size]
theorem bs12_inj {a b : List UInt8} (h : bs12 a = bs12 b) : a = b := by
  have := congrArg ByteArray.data h
  simpa [bs12] using this
theorem bs12_eq (a b : List UInt8) : decide (bs12 a = bs12 b) = decide (a = b) := decide_eq_decide.2 ⟨bs12_inj, fun h => by rw [h]⟩
theorem ret_s12 {a b : ByteArray} (h : a = b) : Ending.returned (.string a) = .returned (.string b) := by rw [h]
def sgB : ByteArray := bs12 sgL
theorem sg_cut : ∀ k, k < 64 → sgB.extract k (k + 1) = bs12 [sg k] := by decide +kernel
theorem sg_at (k : Nat) (hk : k < 64) : sgL[k]? = some (sg k) := by
  have h : k < sgL.length := hk
  unfold sg
  rw [List.getD_eq_getElem?_getD, List.getElem?_eq_getElem h]
  rfl

set_option maxHeartbeats 4000000 in
set_option maxRecDepth 100000 in
theorem refText_any (w : Nat) (W : World) (hw : w < 2 ^ 64) :
    Calls Tryd.prog 18 #[.int .u64 (w : Int)] W fun e w' => e = .returned (.string (bs12 (txtS w))) ∧ W = w' := by
  go_enter Tryd.func18, Tryd.ntmps18
  go_wp2
  go_loopw [3, 4] (fun ov iv wr => ∃ (k : Nat) (S : ByteArray), k ≤ 64 ∧ iv = .int .i64 k ∧ ov = .string S ∧ S = bs12 (txtK w k) ∧ W = wr) (fun _ iv _ => 64 - (intOf iv).toNat)
  case atStart => exact ⟨0, _, by omega, rfl, rfl, rfl, rfl⟩
  case round =>
    obtain ⟨k, S, hk, rfl, rfl, hS, rfl⟩ := hrel
    by_cases hlt : k < 64
    · have G := Lib.hid fun W' => refIs_any w k W' hw hlt
      have hsu := txtK_succ w k
      have hle := txtK_len w k
      have k0 : (k : Int) < 64 := by omega
      have k1 : (0 : Int) ≤ (k : Int) := by omega
      have hsz : S.size ≤ 64 := by rw [hS, bs12_size]; omega
      cases hb : w.testBit k with
      | false =>
        rw [hb, if_neg (by simp), List.append_nil] at hsu
        have HS := Lib.hid (show S = bs12 (txtK w (k + 1)) by rw [hsu]; exact hS)
        rw [hb] at G
        clear hsu hb hS
        go_wp2_with (go_at_call 19; (with_reducible refine (G.out _).mono ?_); rintro e w1 ⟨rfl, rfl⟩)
        go_roundw
        case rel => exact ⟨k + 1, _, by omega, by go_num, rfl, HS.out, by trivial⟩
        case measure => simp [intOf] <;> omega
      | true =>
        rw [hb, if_pos rfl] at hsu
        have hcut := sg_cut k hlt
        have hT : S ++ bs12 [sg k] = bs12 (txtK w (k + 1)) := by rw [hS, hsu, bs12_app]
        have hz : (bs12 [sg k]).size = 1 := rfl
        generalize bs12 [sg k] = X at *
        have HT := Lib.hid hT
        rw [hb] at G
        have hov : ¬ 9223372036854775807 < S.size + X.size := by omega
        have hsg : sgB = ⟨#[97, 98, 99, 100, 101, 102, 103, 104, 105, 106, 107, 108, 109, 110, 111, 112, 113, 114, 115, 116, 117, 118, 119, 120, 121, 122, 65, 66, 67, 68, 69, 70, 71, 72, 73, 74, 75, 76, 77, 78, 79, 80, 81, 82, 83, 84, 85, 86, 87, 88, 89, 90, 48, 49, 50, 51, 52, 53, 54, 55, 56, 57, 43, 47]⟩ := rfl
        rw [hsg] at hcut
        clear hsu hb hS hT hsg
        go_wp2_with (go_at_call 19; (with_reducible refine (G.out _).mono ?_); rintro e w1 ⟨rfl, rfl⟩)
        go_roundw
        case rel => exact ⟨k + 1, _, by omega, by go_num, rfl, HT.out, by trivial⟩
        case measure => simp [intOf] <;> omega
    · have hke : k = 64 := by omega
      subst hke
      by_cases h0 : txtK w 64 = []
      · have hE : S = ⟨#[]⟩ := by rw [hS, h0]; rfl
        have HF := Lib.hid (show txtS w = [45] by unfold txtS; rw [if_pos h0])
        subst hE
        clear hS h0
        go_wp2
        go_ret
        exact ⟨ret_s12 (by rw [HF.out]; rfl), rfl⟩
      · have hE : S.toList.isEmpty = false := by
          rw [hS, ByteArray.toList_eq]
          cases h : txtK w 64 with
          | nil => exact absurd h h0
          | cons x r => rfl
        have HF := Lib.hid (show S = bs12 (txtS w) by unfold txtS; rw [if_neg h0]; exact hS)
        clear hS h0
        go_wp2
        go_ret
        exact ⟨ret_s12 HF.out, rfl⟩

set_option maxHeartbeats 4000000 in
set_option maxRecDepth 100000 in
theorem refParse_any (s : List UInt8) (W : World) (hs : s.length ≤ 1000000) :
    Calls Tryd.prog 16 #[.string (bs12 s)] W fun e w' => e = .returned (.tuple #[.int .u64 ((parS s).1 : Int), .bool (parS s).2]) ∧ Below W.heap.size W w' := by
  obtain ⟨i0, hi, hz0, hz1, hz2⟩ := info_parts info_int
  obtain ⟨S, hS⟩ : ∃ S, bs12 s = S := ⟨_, rfl⟩
  have hsz : S.size = s.length := by rw [← hS, bs12_size]
  rw [hS]
  by_cases h45 : s = [45]
  · have hE : S = ⟨#[45]⟩ := by rw [← hS, h45]; rfl
    have HF := Lib.hid (show parS s = (0, true) by unfold parS; rw [if_pos h45])
    rw [HF.out]
    subst hE
    clear hS h45 hsz
    go_enter Tryd.func16, Tryd.ntmps16
    go_wp2
    exact bodyPost_ret (v := .tuple #[.int .u64 0, .bool true]) (by simp [results, Tryd.results16, go_sem]) rfl ⟨rfl, Below.refl _ _⟩
  · have hE : (S.toList == [45]) = false := by
      rw [← hS, ByteArray.toList_eq]
      simpa [bs12] using h45
    have hE0 : S.toList.isEmpty = decide (s = []) := by
      rw [← hS, ByteArray.toList_eq]
      cases s <;> simp [bs12]
    have hpar : parS s = if (parK s 64).length < s.length ∨ s = [] then (0, false) else (ofS (inI (ints (parK s 64))) 64, true) := by
      unfold parS
      rw [if_neg h45]
      split
      · rfl
      · congr 1
        refine ofS_congr 64 fun n _ => ?_
        unfold inI ints
        exact decide_eq_decide.2 ⟨fun h => List.mem_map.2 ⟨n, h, rfl⟩, fun h => by
          obtain ⟨m, hm, e⟩ := List.mem_map.1 h
          have : m = n := by omega
          rwa [← this]⟩
    obtain ⟨R, hR⟩ : ∃ R, parS s = R := ⟨_, rfl⟩
    rw [hR] at hpar ⊢
    have HS := Lib.hid hS
    have hat : ∀ k : Nat, S.data[k]? = s[k]? := fun k => by rw [← hS]; simp [bs12]
    obtain ⟨P, hP⟩ : ∃ P, parK s 64 = P := ⟨_, rfl⟩
    rw [hP] at hpar
    have HP := Lib.hid hP
    have HPAR := Lib.hid hpar
    have HA := Lib.hid hat
    have HE0 := Lib.hid hE0
    clear hpar h45 hS hP hat hE0 hR
    go_enter Tryd.func16, Tryd.ntmps16
    go_wp2
    go_loopw [4, 5, 6] (fun ov tv iv wr => ∃ k : Nat, k ≤ 64 ∧ iv = .int .i64 k ∧ tv = .int .i64 ((parK s k).length : Nat) ∧ OwnI wr W.heap.size ov (ints (parK s k)) ∧ Below W.heap.size W wr) (fun _ _ iv _ => 64 - (intOf iv).toNat)
    case atStart => exact ⟨0, by omega, rfl, rfl, OwnR.nil _ _ _ _ _, Below.refl _ _⟩
    case round =>
      obtain ⟨k, hk, rfl, rfl, ho, hB⟩ := hrel
      by_cases hlt : k < 64
      · have k0 : (k : Int) < 64 := by omega
        have k1 : (0 : Int) ≤ (k : Int) := by omega
        have hnx : parK s (k + 1) = if s[(parK s k).length]? = some (sg k) then parK s k ++ [k] else parK s k := rfl
        have hpl := parK_len s k
        have hpf := parK_fits s k
        have hsgk := sg_at k hlt
        obtain ⟨t, ht⟩ : ∃ t, (parK s k).length = t := ⟨_, rfl⟩
        rw [ht] at hnx hpl hpf ⊢
        by_cases hts : t < s.length
        · obtain ⟨x, hx⟩ : ∃ x, s[t]? = some x := ⟨_, List.getElem?_eq_getElem hts⟩
          rw [hx] at hnx
          have hI1 : ∀ w', (Instr.index 9 (.string S) (.int .i64 (t : Int))).run Tryd.prog w' = .ok (.int .u8 (x.toNat : Int)) w' := fun w' => by
            have h1 : (0 : Int) ≤ (t : Int) ∧ (t : Int) < (S.size : Int) := by omega
            have h2 : S[t]'(by omega) = x := by
              have := HA.out t
              rw [hx] at this
              have h3 := (Array.getElem?_eq_some_iff.1 this).2
              exact h3
            simp [go_sem, h1]
            rw [h2]
          have hI2 : ∀ w', (Instr.index 9 (.string ⟨#[97, 98, 99, 100, 101, 102, 103, 104, 105, 106, 107, 108, 109, 110, 111, 112, 113, 114, 115, 116, 117, 118, 119, 120, 121, 122, 65, 66, 67, 68, 69, 70, 71, 72, 73, 74, 75, 76, 77, 78, 79, 80, 81, 82, 83, 84, 85, 86, 87, 88, 89, 90, 48, 49, 50, 51, 52, 53, 54, 55, 56, 57, 43, 47]⟩) (.int .i64 (k : Int))).run Tryd.prog w' = .ok (.int .u8 ((sg k).toNat : Int)) w' := fun w' => by
            have h1 : (0 : Int) ≤ (k : Int) ∧ (k : Int) < ((sgB.size : Nat) : Int) := ⟨by omega, by rw [show sgB.size = 64 from rfl]; omega⟩
            have h2 : sgB[k]'(by rw [show sgB.size = 64 from rfl]; exact hlt) = sg k := by
              have h3 := (List.getElem?_eq_some_iff.1 hsgk).2
              exact h3
            show (Instr.index 9 (.string sgB) (.int .i64 (k : Int))).run Tryd.prog w' = _
            simp [go_sem, h1]
            rw [h2]
          have t0 : (0 : Int) ≤ (t : Int) := by omega
          have t1 : (t : Int) < (s.length : Int) := by omega
          have HT := Lib.hid ht
          by_cases hxe : x = sg k
          · rw [hxe, if_pos rfl] at hnx
            have HNX := Lib.hid hnx
            have HB := Lib.hid hB
            have HO := Lib.hid ho
            have hl := ints_len (parK s k)
            rw [hxe] at hI1
            generalize (sg k).toNat = y at *
            clear hnx hB ho hx hxe hsgk ht hpf
            go_wp2
            refine wp_region_calm0 (by kernel_rfl) (by kernel_rfl) fun M => ?_
            repeat (go_big_quiet_step (fail))
            refine wpQuiet_nil ?_
            intro w1 hb1
            have hB1 := HB.out.trans (hb1.mono HB.out.size)
            have HB2 := Lib.hid (hB1.alloc hB1.size (.cells #[.int .i64 (k : Int)] 3))
            have HO2 := Lib.hid (OwnR.alloc (OwnR.kept HO.out hb1) (.cells #[.int .i64 (k : Int)] 3))
            have HP2 := Lib.hid (oneI w1 (k : Int))
            have HL := Lib.hid (show (ints (parK s k)).length ≤ 64 by rw [hl]; have := HT.out; omega)
            clear hb1 hB1 M
            go_wp2_with (at_builtin; refine wpList_append_rows csI_len (by decide) csI_one rfl _ _ 23 rfl W.heap.size 3 i0 (.int .i64 0) 8 Tryd.underlying23 hi hz0 hz1 hz2 rfl _ _ rfl HO2.out _ [(k : Int)] rfl HP2.out (by have := HL.out; unfold maxLen; simp; omega) (by have := HL.out; simp; omega) HB2.out.size ?_; intro v2 w2 o2 g2; have HO3 := Lib.hid o2; have HB3 := Lib.hid (OwnR.below HO2.out HB2.out HB2.out.size g2); clear o2 g2)
            go_roundw
            case rel => exact ⟨k + 1, by omega, by go_num, by rw [HNX.out, List.length_append, HT.out]; go_num, by rw [HNX.out, ints_append]; exact HO3.out, HB3.out⟩
            case measure => simp [intOf] <;> omega
          · rw [if_neg (by simpa using hxe)] at hnx
            have HNX := Lib.hid hnx
            have HB := Lib.hid hB
            have HO := Lib.hid ho
            have hnn : ((x.toNat : Int) == ((sg k).toNat : Int)) = false := by
              apply beq_noI
              intro e
              exact hxe (UInt8.toNat_inj.1 (by omega))
            generalize (sg k).toNat = y at *
            generalize x.toNat = z at *
            clear hnx hB ho hx hxe hsgk ht hpf
            go_wp2
            refine wp_region_calm0 (by kernel_rfl) (by kernel_rfl) fun M => ?_
            repeat (go_big_quiet_step (fail))
            refine wpQuiet_nil ?_
            intro w1 hb1
            have HB1 := Lib.hid (HB.out.trans (hb1.mono HB.out.size))
            have HO1 := Lib.hid (OwnR.kept HO.out hb1)
            clear hb1 M
            go_wp2
            go_roundw
            case rel => exact ⟨k + 1, by omega, by go_num, by rw [HNX.out, HT.out], by rw [HNX.out]; exact HO1.out, HB1.out⟩
            case measure => simp [intOf] <;> omega
        · have hte : t = s.length := by omega
          have hn : s[t]? = none := List.getElem?_eq_none (by omega)
          rw [hn, if_neg (by simp)] at hnx
          have HNX := Lib.hid hnx
          have HB := Lib.hid hB
          have HO := Lib.hid ho
          have HT := Lib.hid ht
          have t1 : ¬ (t : Int) < (s.length : Int) := by omega
          clear hnx hB ho hsgk ht hpf hn hte
          go_wp2
          refine wp_region_calm0 (by kernel_rfl) (by kernel_rfl) fun M => ?_
          repeat (go_big_quiet_step (fail))
          refine wpQuiet_nil ?_
          intro w1 hb1
          have HB1 := Lib.hid (HB.out.trans (hb1.mono HB.out.size))
          have HO1 := Lib.hid (OwnR.kept HO.out hb1)
          clear hb1 M
          go_wp2
          go_roundw
          case rel => exact ⟨k + 1, by omega, by go_num, by rw [HNX.out, HT.out], by rw [HNX.out]; exact HO1.out, HB1.out⟩
          case measure => simp [intOf] <;> omega
      · have hke : k = 64 := by omega
        subst hke
        rw [HP.out] at ho ⊢
        have hpf := parK_fits s 64
        rw [HP.out] at hpf
        have hio := OwnI.ints ho
        have hil := ints_len P
        obtain ⟨a, c, rfl⟩ := IntsAt.form hio
        have HIO := Lib.hid (refOf_any _ (ints P) wr hio (by rw [hil]; omega))
        have HBE := Lib.hid hB
        have he0 := HE0.out
        rw [hil] at HIO ⊢
        clear ho hio hB hil
        by_cases h1 : P.length < s.length
        · have h2 : (P.length : Int) < (s.length : Int) := by omega
          have HR := Lib.hid (show R = (0, false) from by rw [HPAR.out]; exact if_pos (.inl h1))
          clear he0
          go_wp2
          exact bodyPost_ret (v := .tuple #[.int .u64 0, .bool false]) (by simp [results, Tryd.results16, go_sem]) rfl ⟨by rw [HR.out]; rfl, HBE.out⟩
        · have h2 : ¬ (P.length : Int) < (s.length : Int) := by omega
          by_cases h3 : s = []
          · have HR := Lib.hid (show R = (0, false) from by rw [HPAR.out]; exact if_pos (.inr h3))
            rw [decide_eq_true h3] at he0
            clear h3
            go_wp2
            exact bodyPost_ret (v := .tuple #[.int .u64 0, .bool false]) (by simp [results, Tryd.results16, go_sem]) rfl ⟨by rw [HR.out]; rfl, HBE.out⟩
          · have HR := Lib.hid (show R = (ofS (inI (ints P)) 64, true) from by rw [HPAR.out]; exact if_neg (by rintro (h | h); exact h1 h; exact h3 h))
            rw [decide_eq_false h3] at he0
            obtain ⟨X, hRe⟩ : ∃ X, ofS (inI (ints P)) 64 = X := ⟨_, rfl⟩
            rw [hRe] at HIO HR
            clear h3 hRe
            go_wp2_with (go_at_call 11; (with_reducible refine HIO.out.mono ?_); rintro e w1 ⟨rfl, rfl⟩)
            exact bodyPost_ret (v := .tuple #[.int .u64 (X : Int), .bool true]) (by simp [results, Tryd.results16, go_sem]) rfl ⟨by rw [HR.out], HBE.out⟩
end Go.Proofs.YtfalohmdjnhikaaDoor
