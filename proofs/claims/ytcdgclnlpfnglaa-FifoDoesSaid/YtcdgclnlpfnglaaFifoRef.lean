/- Stage 18: queues of numbers by definition; the document's Put, Drop, At. -/
import Derived.Test.YtcdgclnlpfnglaaGraphRefA
import Derived.Test.YtcdgclnlpfnglaaApp1
import Derived.Test.YtcdgclnlpfnglaaGraphMathC
namespace Go.Proofs.Ytcdgclnlpfnglaa
open Go.RowKit

/-- what a put makes of a list; 6: it is in it; 9: it is full -/
def putF (l : List Int) (room x : Int) : List Int × Int := if x ∈ l then (l, 6) else if room ≤ (l.length : Int) then (l, 9) else (l ++ [x], 0)
def dropF (l : List Int) (x : Int) : List Int := l.filter fun y => decide (y ≠ x)
def wasF (l : List Int) (x : Int) : Bool := decide ((dropF l x).length < l.length)
theorem dropF_len (l : List Int) (x : Int) : (dropF l x).length ≤ l.length := List.length_filter_le _ _
theorem putF_len (l : List Int) (room x : Int) : (putF l room x).1.length ≤ l.length + 1 := by
  unfold putF
  split
  · simp
  · split <;> simp
theorem dropF_mem (l : List Int) (x y : Int) : y ∈ dropF l x ↔ y ∈ l ∧ y ≠ x := by simp [dropF]
theorem wasF_iff (l : List Int) (x : Int) : wasF l x = inL l x := by
  unfold wasF inL
  by_cases h : x ∈ l
  · rw [decide_eq_true h]
    exact decide_eq_true (List.length_filter_lt_length_iff_exists.2 ⟨x, h, by simp⟩)
  · rw [decide_eq_false h]
    refine decide_eq_false fun hlt => ?_
    obtain ⟨y, hy, hn⟩ := List.length_filter_lt_length_iff_exists.1 hlt
    have : y = x := by simpa using hn
    exact h (this ▸ hy)
/-- a list in place of another one: of that one's memory, or of new memory -/
def FromV (va v : Value) (n n' B : Nat) : Prop := 0 < n' → ∀ k, v.ownBlock = some k → (va.ownBlock = some k ∧ 0 < n) ∨ B ≤ k
theorem FromV.self (va : Value) (n B : Nat) : FromV va va n n B := fun h0 _ hk => .inl ⟨hk, h0⟩
theorem OwnI.from_ {w : World} {B n n' : Nat} {v va : Value} {l : List Int} (h : OwnI w B v l) : FromV va v n n' B := fun _ k hk => .inr (World.ownsRow.lt h k hk).1

set_option maxHeartbeats 4000000 in
set_option maxRecDepth 100000 in
theorem refPutF_any (va : Value) (l : List Int) (room x : Int) (W : World) (ha : IntsAt W va l) (hl : l.length ≤ 2000) :
    Calls Try.prog 9 #[va, .int .i64 room, .int .i64 x] W fun e w' => ∃ v, e = .returned (.tuple #[v, .int .i64 (putF l room x).2]) ∧ IntsAt w' v (putF l room x).1 ∧ FromV va v l.length (putF l room x).1.length W.heap.size ∧ Below W.heap.size W w' := by
  have HA := Lib.hid ha
  have GI := Lib.hid (refIn_any va l x W ha (by omega))
  obtain ⟨a, c, rfl⟩ := IntsAt.form ha
  by_cases hin : x ∈ l
  · have hp : putF l room x = (l, 6) := if_pos hin
    rw [show inL l x = true from inL_iff.2 hin] at GI
    rw [hp]
    clear ha hin hp
    go_enter Try.func9, Try.ntmps9
    go_wp2_with (go_at_call 22; (with_reducible refine GI.out.mono ?_); rintro e w1 ⟨rfl, rfl⟩)
    exact bodyPost_ret (v := .tuple #[.slice a l.length c, .int .i64 6]) (by simp [results, Try.results9, go_sem]) rfl ⟨_, rfl, HA.out, FromV.self _ _ _, Below.refl _ _⟩
  · rw [show inL l x = false from inL_not.2 hin] at GI
    by_cases hr : room ≤ (l.length : Int)
    · have hp : putF l room x = (l, 9) := by unfold putF; rw [if_neg hin, if_pos hr]
      rw [hp]
      clear ha hin hp
      go_enter Try.func9, Try.ntmps9
      go_wp2_with (go_at_call 22; (with_reducible refine GI.out.mono ?_); rintro e w1 ⟨rfl, rfl⟩)
      exact bodyPost_ret (v := .tuple #[.slice a l.length c, .int .i64 9]) (by simp [results, Try.results9, go_sem]) rfl ⟨_, rfl, HA.out, FromV.self _ _ _, Below.refl _ _⟩
    · have hp : putF l room x = (l ++ [x], 0) := by unfold putF; rw [if_neg hin, if_neg hr]
      rw [hp]
      obtain ⟨i0, hi, hz0, hz1, hz2⟩ := info_parts info_int
      have hal := (Below.refl W.heap.size W).alloc (Nat.le_refl _) (.cells #[] 3)
      have HO := Lib.hid (OwnR.empty W 1 csI 3 W.heap.size rfl)
      have HB := Lib.hid hal
      have HA1 := Lib.hid (RowsAt.kept (IntsAt.rows ha) hal)
      have HL := Lib.hid hl
      clear ha hin hp hal
      go_enter Try.func9, Try.ntmps9
      go_wp2_with (first
        | (go_at_call 22; (with_reducible refine GI.out.mono ?_); rintro e w1 ⟨rfl, rfl⟩)
        | (at_builtin; refine wpList_append_rows csI_len (by decide) csI_one13 rfl _ _ 27 rfl W.heap.size 3 i0 (.int .i64 0) 8 Try.underlying27 hi hz0 hz1 hz2 rfl _ _ rfl HO.out _ l rfl HA1.out (by have := HL.out; unfold maxLen; simp; omega) (by have := HL.out; simp; omega) HB.out.size ?_; intro v2 w2 o2 g2; have HO2 := Lib.hid o2; have HB2 := Lib.hid (OwnR.below HO.out HB.out HB.out.size g2); clear o2 g2 HO)
        | (at_builtin; refine app1 HO2.out HB2.out.size (by have := HL.out; simp; omega) rfl _ _ rfl rfl rfl ?_; intro v3 w3 o3 b3; have HO3 := Lib.hid o3; have HB3 := Lib.hid (HB2.out.trans b3); clear o3 b3))
      exact bodyPost_ret (v := .tuple #[v3, .int .i64 0]) (by simp [results, Try.results9, go_sem]) rfl ⟨_, rfl, OwnI.ints HO3.out, OwnI.from_ HO3.out, HB3.out⟩

set_option maxHeartbeats 8000000 in
set_option maxRecDepth 100000 in
theorem refDropF_any (va : Value) (l : List Int) (x : Int) (W : World) (ha : IntsAt W va l) (hl : l.length ≤ 2000) :
    Calls Try.prog 12 #[va, .int .i64 x] W fun e w' => ∃ v, e = .returned (.tuple #[v, .bool (wasF l x)]) ∧ OwnI w' W.heap.size v (dropF l x) ∧ Below W.heap.size W w' := by
  have HA := Lib.hid ha
  obtain ⟨a, c, rfl⟩ := IntsAt.form ha
  have HL := Lib.hid hl
  have hw : wasF l x = decide ((dropF l x).length < l.length) := rfl
  obtain ⟨t, ht⟩ : ∃ t, wasF l x = t := ⟨_, rfl⟩
  rw [ht] at hw ⊢
  have HW := Lib.hid hw
  clear ha ht hw
  go_enter Try.func12, Try.ntmps12
  go_wp2
  go_loopw [6, 7] (fun tv iv wr => ∃ i : Nat, i ≤ l.length ∧ iv = .int .i64 i ∧ OwnI wr W.heap.size tv (dropF (l.take i) x) ∧ Below W.heap.size W wr) (fun _ iv _ => l.length - (intOf iv).toNat)
  case atStart => exact ⟨0, by omega, rfl, OwnR.nil _ _ _ _ _, Below.refl _ _⟩
  case round =>
    obtain ⟨i, hi, rfl, ho, hB⟩ := hrel
    have HO3 := Lib.hid ho
    have HB3 := Lib.hid hB
    by_cases hlt : i < l.length
    · obtain ⟨g, o, cc, e, hlc, hg, p0⟩ := (IntsAt.below HA.out hB).spot i hlt
      cases e
      have HLT := Lib.hid hlt
      have K0 : (0 : Int) ≤ (i : Int) := by omega
      have K1 : (i : Int) < (l.length : Int) := by omega
      have K2 : (i : Int) ≤ 2000 := by have := HL.out; omega
      have hnx : dropF (l.take (i + 1)) x = dropF (l.take i) x ++ (if l[i]'hlt = x then [] else [l[i]'hlt]) := by
        unfold dropF
        rw [List.take_succ_eq_append_getElem hlt, List.filter_append]
        congr 1
        by_cases h : l[i]'hlt = x <;> simp [h]
      have hfl : (dropF (l.take i) x).length ≤ 2000 := Nat.le_trans (dropF_len _ _) (by rw [List.length_take]; have := HL.out; omega)
      generalize l[i]'hlt = y at *
      have HFL := Lib.hid hfl
      clear ho hB hfl
      by_cases hyx : y = x
      · rw [if_pos hyx, List.append_nil] at hnx
        subst hyx
        have HNX := Lib.hid hnx
        clear hnx
        go_wp2
        go_roundw
        case rel => exact ⟨i + 1, by have := HLT.out; omega, by go_num, by rw [HNX.out]; exact HO3.out, HB3.out⟩
        case measure => have := HLT.out; simp [intOf] <;> omega
      · rw [if_neg hyx] at hnx
        have g1 : (y == x) = false := beq_noI hyx
        have HNX := Lib.hid hnx
        clear hnx hyx
        generalize dropF (l.take i) x = T at *
        obtain ⟨aT, cT, e⟩ := RowsAt.form (OwnR.rows csI_len HO3.out)
        subst e
        go_wp2_with (at_builtin; refine app1 HO3.out HB3.out.size (by have := HFL.out; omega) rfl _ _ rfl rfl rfl ?_; intro v6 w6 o6 b6; have HO6 := Lib.hid o6; have HB6 := Lib.hid (HB3.out.trans b6); clear o6 b6 p0)
        go_roundw
        case rel => exact ⟨i + 1, by have := HLT.out; omega, by go_num, by rw [HNX.out]; exact HO6.out, HB6.out⟩
        case measure => have := HLT.out; simp [intOf] <;> omega
    · have hke : i = l.length := by omega
      subst hke
      rw [List.take_length] at HO3
      have hdd : decide (((dropF l x).length : Int) < (l.length : Int)) = t := by
        rw [HW.out]
        by_cases h : (dropF l x).length < l.length
        · rw [decide_eq_true h]; exact decide_eq_true (by omega)
        · rw [decide_eq_false h]; exact decide_eq_false (by omega)
      have hd2 : decide ((dropF l x).length < l.length) = t := HW.out.symm
      obtain ⟨aT, cT, e⟩ := RowsAt.form (OwnR.rows csI_len HO3.out)
      subst e
      obtain ⟨D, hD⟩ : ∃ D, dropF l x = D := ⟨_, rfl⟩
      rw [hD] at HO3 hdd hd2 ⊢
      have HD := Lib.hid hD
      clear hD
      clear ho hB hlt
      go_wp2
      exact bodyPost_ret (v := .tuple #[.slice aT D.length cT, .bool t]) (by simp [results, Try.results12, go_sem]) rfl ⟨_, rfl, by rw [HD.out]; exact HO3.out, HB3.out⟩

set_option maxHeartbeats 2000000 in
theorem refAtF_any (va : Value) (l : List Int) (n : Int) (W : World) (ha : IntsAt W va l) (hl : l.length ≤ 1000000) :
    Calls Try.prog 15 #[va, .int .i64 n] W fun e w' => e = .returned (.int .i64 (plcL l n)) ∧ W = w' := by
  have HA := Lib.hid ha
  obtain ⟨a, c, rfl⟩ := IntsAt.form ha
  obtain ⟨r, hr⟩ : ∃ r, plcL l n = r := ⟨_, rfl⟩
  rw [hr]
  have HR := Lib.hid hr
  clear ha hr
  go_enter Try.func15, Try.ntmps15
  go_wp2
  go_loopw [5] (fun iv wr => ∃ k : Nat, k ≤ l.length ∧ iv = .int .i64 k ∧ n ∉ l.take k ∧ W = wr) (fun iv _ => l.length - (intOf iv).toNat)
  case atStart => exact ⟨0, by omega, rfl, by simp, rfl⟩
  case round =>
    obtain ⟨k, hk, rfl, hno, rfl⟩ := hrel
    by_cases hlt : k < l.length
    · obtain ⟨g, o, cc, e, hlc, _, p0⟩ := IntsAt.spot HA.out k hlt
      cases e
      have HLT := Lib.hid hlt
      have j1 : (k : Int) < (l.length : Int) := by omega
      have j0 : (0 : Int) ≤ (k : Int) := by omega
      have j2 : (k : Int) ≤ 1000000 := by omega
      by_cases hx : l[k]'hlt = n
      · have HP := Lib.hid ((plc_found hlt hx hno).symm.trans HR.out)
        rw [hx] at p0
        clear hx hno hlt
        go_wp2
        go_ret
        exact ⟨ret_i HP.out, rfl⟩
      · have HNO := Lib.hid (inL_take l n k hlt hx hno)
        have hx2 : (l[k]'hlt == n) = false := beq_noI hx
        generalize l[k]'hlt = x at *
        clear hx hno hlt
        go_wp2
        go_roundw
        case rel => exact ⟨k + 1, by have := HLT.out; omega, by go_num, HNO.out, by trivial⟩
        case measure => have := HLT.out; simp [intOf] <;> omega
    · have hke : k = l.length := by omega
      subst hke
      rw [List.take_length] at hno
      have HP := Lib.hid ((plc_none hno).symm.trans HR.out)
      clear hno hlt
      go_wp2
      go_ret
      exact ⟨ret_i HP.out, rfl⟩
end Go.Proofs.Ytcdgclnlpfnglaa
