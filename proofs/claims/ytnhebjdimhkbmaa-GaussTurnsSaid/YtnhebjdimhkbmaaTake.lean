/- The walk of num.take: it reads the text of a number, in base 10 or 16. -/
import Derived.Test.YtnhebjdimhkbmaaNumA
import Derived.Test.YtnhebjdimhkbmaaTakeMath
import Derived.Test.YtnhebjdimhkbmaaShelf
import Derived.Deep.QuietTactic
import Derived.BigQuiet
import Derived.Lib.Strings
namespace Go.Proofs.Ytnhebjdimhkbmaa
open Go.RowKit

def TakeEnds (b most : Nat) (s : ByteArray) (w : World) (e : Ending) (w' : World) : Prop :=
  ∃ (v : Nat) (ok : Bool), e = .returned (.tuple #[.int .u64 v, .bool ok]) ∧ TakeIs b most s.data.toList v ok ∧ Below w.heap.size w w'

theorem takeEnds_mk {b most : Nat} {s : ByteArray} {w w' : World} {v : Nat} {ok : Bool} {x : Int} (hx : x = v) (h : TakeIs b most s.data.toList v ok) (hb : Below w.heap.size w w') : TakeEnds b most s w (.returned (.tuple #[.int .u64 x, .bool ok])) w' :=
  ⟨v, ok, by rw [hx], h, hb⟩

theorem below_drewN {B : Nat} {a w : World} (h : Below B a w) (n : Nat) : Below B a (w.drewN n) := by
  induction n with
  | zero => exact h
  | succ n ih => exact ih.drew

theorem ba_get (s : ByteArray) (i : Nat) (h : i < s.size) : s[i]'h = s.data.toList[i]'(by rw [← Lib.size_eq]; exact h) := rfl
theorem ba_head (s : ByteArray) (h : 0 < s.size) : s.data.toList.head? = some (s[0]'h) := by
  rw [ba_get, List.head?_eq_getElem?, List.getElem?_eq_getElem (by rw [← Lib.size_eq]; exact h)]
theorem ba_ne (s : ByteArray) (h : 0 < s.size) : s.toList.isEmpty = false := by
  rw [Lib.toList_data]
  cases h' : s.data.toList with
  | nil => rw [Lib.size_eq, h'] at h; simp at h
  | cons a l => rfl
theorem u8_of_toNat {c d : UInt8} (h : c.toNat = d.toNat) : c = d := UInt8.toNat_inj.1 h

set_option maxHeartbeats 400000 in
theorem take_empty (s : ByteArray) (b most : Nat) (w : World) (h0 : s.toList = []) :
    Calls Try.prog 49 #[.string s, .int .u64 b, .int .u64 most] w (TakeEnds b most s w) := by
  have h0' : s.toList.isEmpty = true := by rw [h0]; rfl
  have hf : TakeIs b most s.data.toList 0 false := take_none (by rw [← Lib.toList_data]; exact h0)
  go_enter Try.func49, Try.ntmps49
  go_wp2
  go_step3
  go_wp2
  rw [Exit.noGoto_ret]
  go_ret2
  exact takeEnds_mk rfl hf (Below.refl _ _)

set_option maxHeartbeats 400000 in
theorem take_ahead (s : ByteArray) (b most : Nat) (w : World) (hb : b = 10 ∨ b = 16) (hmb : most < b ^ 20) (h1 : 1 < s.size) (h48 : (s[0]'(by omega)).toNat = 48) :
    Calls Try.prog 49 #[.string s, .int .u64 b, .int .u64 most] w (TakeEnds b most s w) := by
  have hne : s.toList.isEmpty = false := ba_ne s (by omega)
  have hf : TakeIs b most s.data.toList 0 false := take_nought hb hmb (by rw [ba_head s (by omega), u8_of_toNat (d := 48) h48]) (by rw [← Lib.size_eq]; exact h1)
  have h0 : 0 < s.size := by omega
  have h48' : (((s[0]'h0).toNat : Int) == 48) = true := by rw [h48]; rfl
  go_enter Try.func49, Try.ntmps49
  go_wp2
  go_step3
  go_wp2
  rw [Exit.noGoto_ret]
  go_ret2
  exact takeEnds_mk rfl hf (Below.refl _ _)

set_option maxHeartbeats 1000000 in
theorem take_loop (s : ByteArray) (b most : Nat) (w : World) (hm : most < 18446744073709551616) (hmb : most < b ^ 20) (hb : b = 10 ∨ b = 16) (hbm : b ≤ most) (hs : s.size ≤ 9223372036854775807) (h0 : 0 < s.size) (h1 : (s[0]'h0).toNat = 48 → s.size = 1) :
    Calls Try.prog 49 #[.string s, .int .u64 b, .int .u64 most] w (TakeEnds b most s w) := by
  have hne : s.toList.isEmpty = false := ba_ne s h0
  have hb2 : 2 ≤ b := by rcases hb with rfl | rfl <;> omega
  have hb16 : b ≤ 16 := by rcases hb with rfl | rfl <;> omega
  have hz : s.data.toList.head? = some 48 → s.data.toList.length = 1 := by
    rw [ba_head s h0, ← Lib.size_eq]
    intro h
    exact h1 (by rw [Option.some.inj h]; rfl)
  have h48 : ¬ (((s[0]'h0).toNat : Int) = 48 ∧ 1 < (s.size : Int)) := by
    intro h
    have h2 : ((s[0]'h0).toNat : Int) = 48 := h.1
    have := h1 (by omega)
    omega
  have HZ := Lib.hid hz
  have H48 := Lib.hid h48
  clear hz h1 h48
  go_enter Try.func49, Try.ntmps49
  go_wp2
  refine wp_scope_goto 0 (fun n a' w' => ∃ (i v : Nat) (c x : Int) , n = s.size - i ∧ c = i ∧ x = v ∧ i < s.size ∧ v ≤ most ∧ v = vals b (s.data.toList.take i) ∧ (∀ c ∈ s.data.toList.take i, dv c < b) ∧ Below w.heap.size w w' ∧ ∃ u3 u4 u5 u10 u11 u12 u13 u14 u15 u16 u17 u18 u19 u20 u21 u22 u23 u24 u25 u26 u27 u28 u29 u30 u31 u32 u33 u34 u35 u36 u37 u38 u39 u40 u41 u42 u43 u44 u45 u46 u47 u48 u49 u50 u51 u52 u53, a' = { tmps := #[.string s, .int .u64 b, .int .u64 most, u3, u4, u5, .int .u64 0, .bool false, .int .u64 x, .int .i64 c, u10, u11, u12, u13, u14, u15, u16, u17, u18, u19, u20, u21, u22, u23, u24, u25, u26, u27, u28, u29, u30, u31, u32, u33, u34, u35, u36, u37, u38, u39, u40, u41, u42, u43, u44, u45, u46, u47, u48, u49, u50, u51, u52, u53], defers := [] }) rfl rfl ?_ ?_
  · rintro n a' w' ⟨i, v, _, _, rfl, rfl, rfl, hi, hv, hvv, hall, hbel, u3, u4, u5, u10, u11, u12, u13, u14, u15, u16, u17, u18, u19, u20, u21, u22, u23, u24, u25, u26, u27, u28, u29, u30, u31, u32, u33, u34, u35, u36, u37, u38, u39, u40, u41, u42, u43, u44, u45, u46, u47, u48, u49, u50, u51, u52, u53, rfl⟩ K hK
    have HK := Lib.hid hK
    have HV := Lib.hid hvv
    have HA := Lib.hid hall
    have HB := Lib.hid hb
    clear hK hvv hall
    have hix := index_sigs b hb (s[i]'hi)
    have hil : i < s.data.toList.length := by rw [← Lib.size_eq]; exact hi
    have HIL := Lib.hid hil
    clear hil
    by_cases hd : dv (s[i]'hi) < b
    · obtain ⟨d, hdd⟩ : ∃ d, dv (s[i]'hi) = d := ⟨_, rfl⟩
      obtain ⟨q, hq⟩ : ∃ q, (most - d) / b = q := ⟨_, rfl⟩
      obtain ⟨vb, hvb⟩ : ∃ vb, v * b = vb := ⟨_, rfl⟩
      have hix2 : Lib.indexByte (List.take b [48, 49, 50, 51, 52, 53, 54, 55, 56, 57, 97, 98, 99, 100, 101, 102]) (s[i]'hi) = (d : Int) := by rw [hix, dgAt, if_pos hd, hdd]
      have hdb : d < b := by omega
      have hqi : ((most : Int) - (d : Int)) / (b : Int) = (q : Int) := by
        have e : ((most - d : Nat) : Int) = most - d := by omega
        rw [← hq, Int.natCast_ediv, e]
      have hvbi : (v : Int) * (b : Int) = (vb : Int) := by rw [← hvb]; simp
      have hbnd : ¬ q < v → vb + d ≤ most := by
        intro h
        rw [← hq, Nat.div_lt_iff_lt_mul (by omega)] at h
        omega
      have HBn := Lib.hid hbnd
      have HQ := Lib.hid hq
      have HVB := Lib.hid hvb
      have HD := Lib.hid hdd
      clear hix hd hdd hq hvb hb hbnd
      by_cases hqv : q < v
      · go_wp2
        go_quiet ((go_at_call 55; exact Calls.quiet_of_same (Try.strings_IndexByte _ _ _)))
        go_wp2
        simp only [Exit.jump]
        go_ret2
        refine takeEnds_mk rfl (take_over HB.out hmb i v HIL.out HV.out ?_ ?_) (below_drewN hbel _)
        · rw [← ba_get s i hi, HD.out, HQ.out]; exact hqv
        · rw [← ba_get s i hi, HD.out]; omega
      · have hbn := HBn.out hqv
        go_wp2
        go_quiet ((go_at_call 55; exact Calls.quiet_of_same (Try.strings_IndexByte _ _ _)))
        go_wp2
        all_goals (have HN := take_next HB.out i v HIL.out HV.out (by rw [← ba_get s i hi, HD.out, HQ.out]; exact hqv) (by rw [← ba_get s i hi, HD.out]; omega); rw [← ba_get s i hi, HD.out, HVB.out] at HN)
        all_goals (have hall' : ∀ c ∈ s.data.toList.take (i + 1), dv c < b := by
                    rw [List.take_succ_eq_append_getElem HIL.out]
                    intro c hc
                    rw [List.mem_append] at hc
                    rcases hc with hc | hc
                    · exact HA.out c hc
                    · rw [List.mem_singleton.1 hc, ← ba_get s i hi, HD.out]; exact hdb)
        · go_step3
          have hlt : i + 1 < s.size := by omega
          exact ⟨rfl, HK.out (s.size - (i + 1)) _ _ (by omega) ⟨i + 1, vb + d, _, _, rfl, by omega, by omega, hlt, HN.1, HN.2, hall', below_drewN hbel _, _, _, _, _, _, _, _, _, _, _, _, _, _, _, _, _, _, _, _, _, _, _, _, _, _, _, _, _, _, _, _, _, _, _, _, _, _, _, _, _, _, _, _, _, _, _, _,  rfl⟩⟩
        · simp only [Exit.jump]
          go_ret2
          have hie : i + 1 = s.data.toList.length := by rw [← Lib.size_eq]; omega
          rw [hie, List.take_length] at HN hall'
          exact takeEnds_mk (v := vb + d) (by omega) (take_done HB.out hmb _ HN.2 HN.1 (by intro h; rw [h] at hie; simp at hie) HZ.out hall') (below_drewN hbel _)
    · have hix2 : Lib.indexByte (List.take b [48, 49, 50, 51, 52, 53, 54, 55, 56, 57, 97, 98, 99, 100, 101, 102]) (s[i]'hi) = -1 := by rw [hix, dgAt, if_neg hd]
      have HD := Lib.hid hd
      clear hix hd hb
      go_wp2
      go_quiet ((go_at_call 55; exact Calls.quiet_of_same (Try.strings_IndexByte _ _ _)))
      go_wp2
      simp only [Exit.jump]
      go_ret2
      exact takeEnds_mk rfl (take_bad HB.out i HIL.out HD.out) (below_drewN hbel _)
  · intro K hpass
    have HP := Lib.hid hpass
    clear hpass
    go_wp2
    all_goals first | exact absurd ⟨‹_›, ‹_›⟩ H48.out | skip
    all_goals go_step3
    all_goals rename_i hback
    all_goals exact hback _ _ (HP.out s.size _ _ ⟨0, 0, _, _, rfl, rfl, rfl, h0, by omega, rfl, by simp, Below.refl _ _, _, _, _, _, _, _, _, _, _, _, _, _, _, _, _, _, _, _, _, _, _, _, _, _, _, _, _, _, _, _, _, _, _, _, _, _, _, _, _, _, _, _, _, _, _, _, _,  rfl⟩)
end Go.Proofs.Ytnhebjdimhkbmaa
