/- The walk of the document's Parse. -/
import Derived.Test.YtnhebjdimhkbmaaRefNum
namespace Go.Proofs.Ytnhebjdimhkbmaa
open Go.RowKit

theorem u8_of_int {c d : UInt8} (h : (c.toNat : Int) = (d.toNat : Int)) : c = d := UInt8.toNat_inj.1 (by omega)

theorem take_long {l : List UInt8} (h : 19 < l.length) : TakeIs 10 9223372036854775808 l 0 false :=
  ⟨by simp, fun _ => ⟨rfl, fun m hm e => by have := ltxt_len19 m hm; rw [← e] at this; omega⟩⟩
theorem ltxt_nought : ltxt 10 0 = [48] := by decide
theorem take_one_nought : TakeIs 10 9223372036854775808 [48] 0 true := ⟨fun _ => ⟨by omega, ltxt_nought.symm⟩, by simp⟩

theorem end_plain {s : ByteArray} {w w' : World} {v : Nat} {ok : Bool} {x : Int} (h : TakeIs 10 9223372036854775808 s.data.toList v ok) (hl : ∀ r, s.data.toList ≠ 45 :: r) (hv : v ≠ 9223372036854775808) (hx : x = v) (hb : Below w.heap.size w w') : ParseEnds s w (.returned (.tuple #[.int .i64 x, .bool ok])) w' :=
  parseEnds_mk hx (parse_plain_more hl h hv) hb
theorem end_minus {s d : ByteArray} {w w' : World} {v : Nat} {ok : Bool} {x : Int} (h : TakeIs 10 9223372036854775808 d.data.toList v ok) (hl : s.data.toList = 45 :: d.data.toList) (hv : v ≠ 0) (hx : x = -v) (hb : Below w.heap.size w w') : ParseEnds s w (.returned (.tuple #[.int .i64 x, .bool ok])) w' :=
  parseEnds_mk hx (by rw [hl]; exact parse_minus h hv) hb
theorem end_minus_none {s d : ByteArray} {w w' : World} {ok : Bool} (h : TakeIs 10 9223372036854775808 d.data.toList 0 ok) (hl : s.data.toList = 45 :: d.data.toList) (hb : Below w.heap.size w w') : ParseEnds s w (.returned (.tuple #[.int .i64 0, .bool false])) w' :=
  parseEnds_mk rfl (by rw [hl]; exact parse_minus_none h rfl) hb

theorem quo_low (dk q : Nat) (hd : dk ≤ 9) (hq : q = (9223372036854775808 - dk) / 10) : (-9223372036854775808 + (dk : Int)).tdiv 10 = -(q : Int) := by
  have e : (-9223372036854775808 + (dk : Int)) = -((9223372036854775808 - dk : Nat) : Int) := by omega
  rw [e, Int.neg_tdiv, hq]
  rfl

set_option maxHeartbeats 400000 in
theorem refParse_empty (s : ByteArray) (w : World) (h : s.size = 0) :
    Calls Try.prog 42 #[.string s] w (ParseEnds s w) := by
  have hnil : s.data.toList = [] := List.eq_nil_of_length_eq_zero (by rw [← Lib.size_eq]; omega)
  have he : s.toList.isEmpty = true := by rw [Lib.toList_data, hnil]; rfl
  have HT : ParseIs s.data.toList 0 false := parse_plain_more (v := 0) (by rw [hnil]; intro r; simp) (take_none hnil) (by omega)
  have HS := Lib.hid hnil
  clear hnil
  go_enter Try.func42, Try.ntmps42
  go_wp2
  go_ret2
  exact parseEnds_mk rfl HT (Below.refl _ _)

set_option maxHeartbeats 1000000 in
theorem refParse_plain_long (s : ByteArray) (w : World) (hs : s.size ≤ 9223372036854775807) (h0 : 0 < s.size)
    (h1 : ¬ ((s[0]'h0).toNat : Int) = 45) (hl : ∀ r, s.data.toList ≠ 45 :: r) (hz : 19 < s.size) :
    Calls Try.prog 42 #[.string s] w (ParseEnds s w) := by
  have h45 : (((s[0]'h0).toNat : Int) == 45) = false := by simpa using h1
  have hds : s.size ≤ s.size := by exact Nat.le_refl _
  have HL := Lib.hid hl
  clear hl h1
  have hne : s.toList.isEmpty = false := ba_ne s (by omega)
  have HT := take_long (l := s.data.toList) (by rw [← Lib.size_eq]; exact hz)
  go_enter Try.func42, Try.ntmps42
  go_wp2
  go_ret2
  exact end_plain HT HL.out (by omega) rfl (Below.refl _ _)

set_option maxHeartbeats 1000000 in
theorem refParse_plain_nought (s : ByteArray) (w : World) (hs : s.size ≤ 9223372036854775807) (h0 : 0 < s.size)
    (h1 : ¬ ((s[0]'h0).toNat : Int) = 45) (hl : ∀ r, s.data.toList ≠ 45 :: r) (hz : 0 < s.size) (hz2 : s.size ≤ 19) (hz0 : ((s[0]'hz).toNat : Int) = 48) (hz1 : 1 < s.size) :
    Calls Try.prog 42 #[.string s] w (ParseEnds s w) := by
  have h45 : (((s[0]'h0).toNat : Int) == 45) = false := by simpa using h1
  have hds : s.size ≤ s.size := by exact Nat.le_refl _
  have HL := Lib.hid hl
  clear hl h1
  have hne : s.toList.isEmpty = false := ba_ne s (by omega)
  have h48 : (((s[0]'hz).toNat : Int) == 48) = true := by rw [hz0]; rfl
  have hhd := ba_head s hz
  rw [u8_of_int (d := 48) hz0] at hhd
  clear hz0
  have HT := take_nought (b := 10) (most := 9223372036854775808) (.inl rfl) (by decide) hhd (by rw [← Lib.size_eq]; exact hz1)
  clear hhd
  go_enter Try.func42, Try.ntmps42
  go_wp2
  all_goals go_ret2
  all_goals exact end_plain HT HL.out (by omega) rfl (Below.refl _ _)

set_option maxHeartbeats 1000000 in
theorem refParse_plain_loop (s : ByteArray) (w : World) (hs : s.size ≤ 9223372036854775807) (h0 : 0 < s.size)
    (h1 : ¬ ((s[0]'h0).toNat : Int) = 45) (hl : ∀ r, s.data.toList ≠ 45 :: r) (hz : 0 < s.size) (hz2 : s.size ≤ 19) (hz0 : ((s[0]'hz).toNat : Int) = 48 → ¬ 1 < s.size) :
    Calls Try.prog 42 #[.string s] w (ParseEnds s w) := by
  have h45 : (((s[0]'h0).toNat : Int) == 45) = false := by simpa using h1
  have hds : s.size ≤ s.size := by exact Nat.le_refl _
  have HL := Lib.hid hl
  clear hl h1
  have hne : s.toList.isEmpty = false := ba_ne s (by omega)
  have hhd := ba_head s hz
  have hz1 : s.data.toList.head? = some 48 → s.data.toList.length = 1 := by
    rw [hhd, ← Lib.size_eq]
    intro h
    have hh := hz0 (by rw [Option.some.inj h]; rfl)
    first | exact hh.elim | omega
  have HZ := Lib.hid hz1
  have H48 := Lib.hid hz0
  clear hhd hz1 hz0
  go_enter Try.func42, Try.ntmps42
  go_wp2
  all_goals first | exact absurd ‹(1 : Int) < (s.size : Int)› (by have := H48.out ‹_›; omega) | skip
  all_goals (
    go_loop [6, 7] (fun n i => ∃ (j v : Nat), j ≤ s.size ∧ i = .int .i64 j ∧ n = .int .i64 (-(v : Int)) ∧ v ≤ 9223372036854775808 ∧ v = vals 10 (s.data.toList.take j) ∧ (∀ c ∈ s.data.toList.take j, dv c < 10)) (fun _ i => s.size - (intOf i).toNat)
    case atStart => exact ⟨0, 0, Nat.zero_le _, rfl, rfl, by omega, rfl, by simp⟩
    case round =>
      obtain ⟨j, v, hj, rfl, rfl, hv, hvv, hall⟩ := hrel
      have HVV := Lib.hid hvv
      have HA := Lib.hid hall
      clear hvv hall
      by_cases hlt : j < s.size
      · have hil : j < s.data.toList.length := by rw [← Lib.size_eq]; exact hlt
        have HIL := Lib.hid hil
        clear hil
        obtain ⟨c, hc⟩ : ∃ c, (s[j]'hlt).toNat = c := ⟨_, rfl⟩
        have hc256 : c < 256 := by rw [← hc]; exact UInt8.toNat_lt _
        have hdv : dv (s[j]'hlt) = if 48 ≤ c ∧ c ≤ 57 then c - 48 else if 97 ≤ c ∧ c ≤ 102 then c - 87 else 99 := by rw [← hc]; rfl
        have HD := Lib.hid hdv
        clear hdv
        by_cases hdig : 48 ≤ c ∧ c ≤ 57
        · obtain ⟨dk, hcd⟩ : ∃ dk, c = 48 + dk := ⟨c - 48, by omega⟩
          have hdk : dk ≤ 9 := by omega
          have hc48 : 48 ≤ c := hdig.1
          have hc57 : c ≤ 57 := hdig.2
          obtain ⟨q, hq⟩ : ∃ q, q = (9223372036854775808 - dk) / 10 := ⟨_, rfl⟩
          have htd := quo_low dk q hdk hq
          have hq1 : q ≤ 922337203685477580 := by omega
          have hbnd : ¬ q < v → v * 10 + dk ≤ 9223372036854775808 := by omega
          have HQ := Lib.hid hq
          clear hq
          have hdve : dv (s.data.toList[j]'HIL.out) = dk := by
            rw [← ba_get s j hlt, HD.out, if_pos hdig]; omega
          have HDV := Lib.hid hdve
          have hsub : (c : Int) - 48 = (dk : Int) := by omega
          clear hdve hcd hdig
          by_cases hqv : q < v
          · clear hbnd
            go_wp2
            go_ret2
            have HT := take_over (b := 10) (most := 9223372036854775808) (.inl rfl) (by decide) j v HIL.out HVV.out (by rw [HDV.out, ← HQ.out]; exact hqv) (by rw [HDV.out]; omega)
            exact end_plain HT HL.out (by omega) rfl (Below.refl _ _)
          · have hbn := hbnd hqv
            clear hbnd
            have HN := Lib.hid (take_next (b := 10) (most := 9223372036854775808) (.inl rfl) j v HIL.out HVV.out (by rw [HDV.out, ← HQ.out]; exact hqv) (by rw [HDV.out]; omega))
            go_wp2
            go_round
            case rel =>
              have h := HN.out
              rw [HDV.out] at h
              refine ⟨j + 1, v * 10 + dk, by omega, by go_num, by go_num, h.1, h.2, ?_⟩
              rw [List.take_succ_eq_append_getElem HIL.out]
              intro c hc
              rw [List.mem_append] at hc
              rcases hc with hc | hc
              · exact HA.out c hc
              · rw [List.mem_singleton.1 hc, HDV.out]; omega
            case measure => simp [intOf]; omega
        · have hbad : ¬ dv (s.data.toList[j]'HIL.out) < 10 := by
            rw [← ba_get s j hlt, HD.out, if_neg hdig]
            split <;> omega
          have HT := take_bad (b := 10) (most := 9223372036854775808) (.inl rfl) j HIL.out hbad
          have hdig2 : c < 48 ∨ 57 < c := by omega
          clear hbad hdig
          rcases hdig2 with h | h
          all_goals
            go_wp2
            go_ret2
            exact end_plain HT HL.out (by omega) rfl (Below.refl _ _)
      · have hje : j = s.data.toList.length := by rw [← Lib.size_eq]; omega
        have hvl : v = vals 10 s.data.toList := by rw [HVV.out, hje, List.take_length]
        have hal : ∀ c ∈ s.data.toList, dv c < 10 := by
          have h := HA.out
          rw [hje, List.take_length] at h
          exact h
        have HT := take_done (b := 10) (most := 9223372036854775808) (.inl rfl) (by decide) v hvl hv (by intro e; rw [Lib.size_eq, e] at hz; simp at hz) HZ.out hal
        have _k := hz
        clear hje hvl hal
        by_cases hvm : v = 9223372036854775808
        · subst hvm
          go_wp2
          go_ret2
          exact parseEnds_mk rfl (parse_plain_most HL.out HT) (Below.refl _ _)
        · go_wp2
          go_ret2
          exact end_plain HT HL.out hvm (by omega) (Below.refl _ _))

set_option maxHeartbeats 1000000 in
theorem refParse_minus_none (s : ByteArray) (w : World) (hs : s.size ≤ 9223372036854775807) (h0 : 0 < s.size)
    (h1 : ((s[0]'h0).toNat : Int) = 45) (d : ByteArray) (hd : s.extract 1 s.size = d) (hl : s.data.toList = 45 :: d.data.toList) (hz : d.size = 0) :
    Calls Try.prog 42 #[.string s] w (ParseEnds s w) := by
  have h45 : (((s[0]'h0).toNat : Int) == 45) = true := by rw [h1]; rfl
  have hds : d.size ≤ s.size := by rw [Lib.size_eq s, hl, Lib.size_eq d]; simp
  have HL := Lib.hid hl
  clear hl h1
  have hnil : d.data.toList = [] := List.eq_nil_of_length_eq_zero (by rw [← Lib.size_eq]; omega)
  have he : d.toList.isEmpty = true := by rw [Lib.toList_data, hnil]; rfl
  have HT := take_none (b := 10) (most := 9223372036854775808) hnil
  clear hnil
  go_enter Try.func42, Try.ntmps42
  go_wp2
  go_ret2
  exact end_minus_none HT HL.out (Below.refl _ _)

set_option maxHeartbeats 1000000 in
theorem refParse_minus_long (s : ByteArray) (w : World) (hs : s.size ≤ 9223372036854775807) (h0 : 0 < s.size)
    (h1 : ((s[0]'h0).toNat : Int) = 45) (d : ByteArray) (hd : s.extract 1 s.size = d) (hl : s.data.toList = 45 :: d.data.toList) (hz : 19 < d.size) :
    Calls Try.prog 42 #[.string s] w (ParseEnds s w) := by
  have h45 : (((s[0]'h0).toNat : Int) == 45) = true := by rw [h1]; rfl
  have hds : d.size ≤ s.size := by rw [Lib.size_eq s, hl, Lib.size_eq d]; simp
  have HL := Lib.hid hl
  clear hl h1
  have hne : d.toList.isEmpty = false := ba_ne d (by omega)
  have HT := take_long (l := d.data.toList) (by rw [← Lib.size_eq]; exact hz)
  go_enter Try.func42, Try.ntmps42
  go_wp2
  go_ret2
  exact end_minus_none HT HL.out (Below.refl _ _)

set_option maxHeartbeats 1000000 in
theorem refParse_minus_nought (s : ByteArray) (w : World) (hs : s.size ≤ 9223372036854775807) (h0 : 0 < s.size)
    (h1 : ((s[0]'h0).toNat : Int) = 45) (d : ByteArray) (hd : s.extract 1 s.size = d) (hl : s.data.toList = 45 :: d.data.toList) (hz : 0 < d.size) (hz2 : d.size ≤ 19) (hz0 : ((d[0]'hz).toNat : Int) = 48) :
    Calls Try.prog 42 #[.string s] w (ParseEnds s w) := by
  have h45 : (((s[0]'h0).toNat : Int) == 45) = true := by rw [h1]; rfl
  have hds : d.size ≤ s.size := by rw [Lib.size_eq s, hl, Lib.size_eq d]; simp
  have HL := Lib.hid hl
  clear hl h1
  have hne : d.toList.isEmpty = false := ba_ne d (by omega)
  have h48 : (((d[0]'hz).toNat : Int) == 48) = true := by rw [hz0]; rfl
  have hhd := ba_head d hz
  rw [u8_of_int (d := 48) hz0] at hhd
  clear hz0
  have HT : ∃ ok, TakeIs 10 9223372036854775808 d.data.toList 0 ok := by
    by_cases h : 1 < d.size
    · exact ⟨false, take_nought (.inl rfl) (by decide) hhd (by rw [← Lib.size_eq]; exact h)⟩
    · cases hdl : d.data.toList with
      | nil => rw [hdl] at hhd; simp at hhd
      | cons c r =>
        rw [hdl] at hhd
        have hc : c = 48 := by simpa using hhd
        have h3 : d.data.toList.length ≤ 1 := by rw [← Lib.size_eq]; omega
        rw [hdl, List.length_cons] at h3
        have hr : r = [] := List.eq_nil_of_length_eq_zero (by omega)
        rw [hc, hr]
        exact ⟨true, take_one_nought⟩
  obtain ⟨ok, HT⟩ := HT
  clear hhd
  go_enter Try.func42, Try.ntmps42
  go_wp2
  all_goals go_ret2
  all_goals exact end_minus_none HT HL.out (Below.refl _ _)

set_option maxHeartbeats 1000000 in
theorem refParse_minus_loop (s : ByteArray) (w : World) (hs : s.size ≤ 9223372036854775807) (h0 : 0 < s.size)
    (h1 : ((s[0]'h0).toNat : Int) = 45) (d : ByteArray) (hd : s.extract 1 s.size = d) (hl : s.data.toList = 45 :: d.data.toList) (hz : 0 < d.size) (hz2 : d.size ≤ 19) (hz0 : ((d[0]'hz).toNat : Int) = 48 → False) :
    Calls Try.prog 42 #[.string s] w (ParseEnds s w) := by
  have h45 : (((s[0]'h0).toNat : Int) == 45) = true := by rw [h1]; rfl
  have hds : d.size ≤ s.size := by rw [Lib.size_eq s, hl, Lib.size_eq d]; simp
  have HL := Lib.hid hl
  clear hl h1
  have hne : d.toList.isEmpty = false := ba_ne d (by omega)
  have hhd := ba_head d hz
  have hz1 : d.data.toList.head? = some 48 → d.data.toList.length = 1 := by
    rw [hhd, ← Lib.size_eq]
    intro h
    have hh := hz0 (by rw [Option.some.inj h]; rfl)
    first | exact hh.elim | omega
  have HZ := Lib.hid hz1
  have hv0 : vals 10 d.data.toList ≠ 0 ∨ ¬ ∀ c ∈ d.data.toList, dv c < 10 := by
    by_cases hc : ∀ c ∈ d.data.toList, dv c < 10
    · refine .inl fun h => ?_
      have h2 := ltxt_of 10 (.inl rfl) d.data.toList (by intro e; rw [e] at hhd; simp at hhd) hc hz1 (by rw [h]; decide)
      rw [h, ltxt_nought] at h2
      rw [← h2] at hhd
      simp at hhd
      exact hz0 (by rw [← hhd]; rfl)
    · exact .inr hc
  have HV := Lib.hid hv0
  have h48 : (((d[0]'hz).toNat : Int) == 48) = false := by
    rw [beq_eq_false_iff_ne]
    exact fun h => hz0 h
  clear hv0
  clear hhd hz1
  go_enter Try.func42, Try.ntmps42
  go_wp2
  (
    go_loop [6, 7] (fun n i => ∃ (j v : Nat), j ≤ d.size ∧ i = .int .i64 j ∧ n = .int .i64 (-(v : Int)) ∧ v ≤ 9223372036854775808 ∧ v = vals 10 (d.data.toList.take j) ∧ (∀ c ∈ d.data.toList.take j, dv c < 10)) (fun _ i => d.size - (intOf i).toNat)
    case atStart => exact ⟨0, 0, Nat.zero_le _, rfl, rfl, by omega, rfl, by simp⟩
    case round =>
      obtain ⟨j, v, hj, rfl, rfl, hv, hvv, hall⟩ := hrel
      have HVV := Lib.hid hvv
      have HA := Lib.hid hall
      clear hvv hall
      by_cases hlt : j < d.size
      · have hil : j < d.data.toList.length := by rw [← Lib.size_eq]; exact hlt
        have HIL := Lib.hid hil
        clear hil
        obtain ⟨c, hc⟩ : ∃ c, (d[j]'hlt).toNat = c := ⟨_, rfl⟩
        have hc256 : c < 256 := by rw [← hc]; exact UInt8.toNat_lt _
        have hdv : dv (d[j]'hlt) = if 48 ≤ c ∧ c ≤ 57 then c - 48 else if 97 ≤ c ∧ c ≤ 102 then c - 87 else 99 := by rw [← hc]; rfl
        have HD := Lib.hid hdv
        clear hdv
        by_cases hdig : 48 ≤ c ∧ c ≤ 57
        · obtain ⟨dk, hcd⟩ : ∃ dk, c = 48 + dk := ⟨c - 48, by omega⟩
          have hdk : dk ≤ 9 := by omega
          have hc48 : 48 ≤ c := hdig.1
          have hc57 : c ≤ 57 := hdig.2
          obtain ⟨q, hq⟩ : ∃ q, q = (9223372036854775808 - dk) / 10 := ⟨_, rfl⟩
          have htd := quo_low dk q hdk hq
          have hq1 : q ≤ 922337203685477580 := by omega
          have hbnd : ¬ q < v → v * 10 + dk ≤ 9223372036854775808 := by omega
          have HQ := Lib.hid hq
          clear hq
          have hdve : dv (d.data.toList[j]'HIL.out) = dk := by
            rw [← ba_get d j hlt, HD.out, if_pos hdig]; omega
          have HDV := Lib.hid hdve
          have hsub : (c : Int) - 48 = (dk : Int) := by omega
          clear hdve hcd hdig
          by_cases hqv : q < v
          · clear hbnd
            go_wp2
            go_ret2
            have HT := take_over (b := 10) (most := 9223372036854775808) (.inl rfl) (by decide) j v HIL.out HVV.out (by rw [HDV.out, ← HQ.out]; exact hqv) (by rw [HDV.out]; omega)
            exact end_minus_none HT HL.out (Below.refl _ _)
          · have hbn := hbnd hqv
            clear hbnd
            have HN := Lib.hid (take_next (b := 10) (most := 9223372036854775808) (.inl rfl) j v HIL.out HVV.out (by rw [HDV.out, ← HQ.out]; exact hqv) (by rw [HDV.out]; omega))
            go_wp2
            go_round
            case rel =>
              have h := HN.out
              rw [HDV.out] at h
              refine ⟨j + 1, v * 10 + dk, by omega, by go_num, by go_num, h.1, h.2, ?_⟩
              rw [List.take_succ_eq_append_getElem HIL.out]
              intro c hc
              rw [List.mem_append] at hc
              rcases hc with hc | hc
              · exact HA.out c hc
              · rw [List.mem_singleton.1 hc, HDV.out]; omega
            case measure => simp [intOf]; omega
        · have hbad : ¬ dv (d.data.toList[j]'HIL.out) < 10 := by
            rw [← ba_get d j hlt, HD.out, if_neg hdig]
            split <;> omega
          have HT := take_bad (b := 10) (most := 9223372036854775808) (.inl rfl) j HIL.out hbad
          have hdig2 : c < 48 ∨ 57 < c := by omega
          clear hbad hdig
          rcases hdig2 with h | h
          all_goals
            go_wp2
            go_ret2
            exact end_minus_none HT HL.out (Below.refl _ _)
      · have hje : j = d.data.toList.length := by rw [← Lib.size_eq]; omega
        have hvl : v = vals 10 d.data.toList := by rw [HVV.out, hje, List.take_length]
        have hal : ∀ c ∈ d.data.toList, dv c < 10 := by
          have h := HA.out
          rw [hje, List.take_length] at h
          exact h
        have HT := take_done (b := 10) (most := 9223372036854775808) (.inl rfl) (by decide) v hvl hv (by intro e; rw [Lib.size_eq, e] at hz; simp at hz) HZ.out hal
        have HV0 : v ≠ 0 := by
          rcases HV.out with h | h
          · rw [hvl]; exact h
          · exact absurd hal h
        clear hje hvl hal
        go_wp2
        go_ret2
        exact end_minus HT HL.out HV0 (by omega) (Below.refl _ _))

theorem refParse_any (s : ByteArray) (w : World) (hs : s.size ≤ 9223372036854775807) :
    Calls Try.prog 42 #[.string s] w (ParseEnds s w) := by
  by_cases h0 : 0 < s.size
  · have hhd := ba_head s h0
    by_cases h1 : ((s[0]'h0).toNat : Int) = 45
    · obtain ⟨d, hd⟩ : ∃ d, s.extract 1 s.size = d := ⟨_, rfl⟩
      have hl : s.data.toList = 45 :: d.data.toList := by
        rw [u8_of_int (d := 45) h1] at hhd
        rw [← hd, Lib.extract_data]
        cases hs : s.data.toList with
        | nil => rw [hs] at hhd; simp at hhd
        | cons c r =>
          rw [hs] at hhd
          have hc : c = 45 := by simpa using hhd
          rw [hc, Lib.size_eq, hs]
          simp
      by_cases hz : 0 < d.size
      · by_cases hz2 : d.size ≤ 19
        · by_cases hz0 : ((d[0]'hz).toNat : Int) = 48
          · exact refParse_minus_nought s w hs h0 h1 d hd hl hz hz2 hz0
          · exact refParse_minus_loop s w hs h0 h1 d hd hl hz hz2 hz0
        · exact refParse_minus_long s w hs h0 h1 d hd hl (by omega)
      · exact refParse_minus_none s w hs h0 h1 d hd hl (by omega)
    · have hl : ∀ r, s.data.toList ≠ 45 :: r := by
        intro r e
        rw [e] at hhd
        have : (45 : UInt8) = s[0]'h0 := by simpa using hhd
        exact h1 (by rw [← this]; rfl)
      by_cases hz2 : s.size ≤ 19
      · by_cases hz0 : ((s[0]'h0).toNat : Int) = 48 ∧ 1 < s.size
        · exact refParse_plain_nought s w hs h0 h1 hl h0 hz2 hz0.1 hz0.2
        · exact refParse_plain_loop s w hs h0 h1 hl h0 hz2 (fun h => fun h' => hz0 ⟨h, h'⟩)
      · exact refParse_plain_long s w hs h0 h1 hl (by omega)
  · exact refParse_empty s w (by omega)

theorem refParse_as (s : ByteArray) (v : Int) (ok : Bool) (w : World) (hs : s.size ≤ 9223372036854775807) (h : ParseIs s.data.toList v ok) :
    Calls Try.prog 42 #[.string s] w fun e w' => e = .returned (.tuple #[.int .i64 v, .bool ok]) ∧ Below w.heap.size w w' := by
  refine (refParse_any s w hs).mono ?_
  rintro e w' ⟨v', ok', rfl, h', hb⟩
  obtain ⟨rfl, rfl⟩ := parseIs_one h h'
  exact ⟨rfl, hb⟩
end Go.Proofs.Ytnhebjdimhkbmaa
