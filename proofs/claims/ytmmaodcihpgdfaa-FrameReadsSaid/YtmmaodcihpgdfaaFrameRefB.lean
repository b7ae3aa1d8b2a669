/- The walks of the document's answers for layer 10: Read. -/
import Derived.Test.YtmmaodcihpgdfaaFrameRefA
namespace Go.Proofs.Ytmmaodcihpgdfaa
open Go.RowKit

def lenF (l : List UInt8) : Nat := unbig (nb (l.take 4))
def sumF (l : List UInt8) : Nat := unbig (nb ((l.drop 4).take 4))
def payF (l : List UInt8) : List UInt8 := (l.drop 8).take (lenF l)
def okF (l : List UInt8) : Nat := sm (nb9 (l.take 4 ++ payF l))
def readF (l : List UInt8) : List UInt8 × List UInt8 × Nat :=
  if l.length < 8 then ([], [], 4) else if 65536 < lenF l then ([], [], 15) else if l.length - 8 < lenF l then ([], [], 4)
  else if okF l = sumF l then (payF l, l.drop (8 + lenF l), 0) else ([], [], 5)
theorem lenF_lt (l : List UInt8) : lenF l < 4294967296 := by
  have := unbig_bd l 4
  simpa [lenF] using this
theorem sumF_lt (l : List UInt8) : sumF l < 4294967296 := by
  have := unbig_bd (l.drop 4) 4
  simpa [sumF] using this

set_option maxHeartbeats 4000000 in
set_option maxRecDepth 100000 in
theorem refRead10_any (va : Value) (l : List UInt8) (w : World) (ha : BytesAt w va l) (hl : l.length ≤ 900000) :
    Calls Try.prog 14 #[va] w fun e w' => ∃ v u, e = .returned (.tuple #[v, u, .int .i64 ((readF l).2.2 : Int)]) ∧ OwnB w' w.heap.size v (readF l).1 ∧ OwnB w' w.heap.size u (readF l).2.1 ∧ Below w.heap.size w w' := by
  obtain ⟨i0, hi, hz0, hz1, hz2⟩ := info_parts info_byte
  have HA := Lib.hid ha
  obtain ⟨a, c, rfl⟩ := RowsAt.form ha
  have hlc : l.length ≤ c := by obtain ⟨_, _, e, h, _⟩ := ha; cases e; exact h
  unfold readF
  by_cases h8 : l.length < 8
  · rw [if_pos h8]
    clear ha
    go_enter Try.func14, Try.ntmps14
    go_wp2
    exact bodyPost_ret (v := .tuple #[.slice none 0 0, .slice none 0 0, .int .i64 4]) (by simp [results, Try.results14, go_sem]) rfl ⟨_, _, rfl, OwnR.nil _ _ _ _ _, OwnR.nil _ _ _ _ _, Below.refl _ _⟩
  rw [if_neg h8]
  obtain ⟨g, o, c', e, _, _, p0⟩ := BytesAt.at ha 0 (by omega)
  cases e
  clear p0 ha
  have g1 : ∀ w, BytesAt w (.slice (some ⟨g, o, none⟩) l.length c) l → Calls Try.prog 25 #[.slice (some ⟨g, o, none⟩) l.length c, .int .i64 4] w fun e w' => ∃ v, e = .returned (.tuple #[.int .u64 (lenF l : Int), v, .int .i64 0]) ∧ BytesAt w' v (l.drop 4) ∧ Below w.heap.size w w' := fun w ha => by
    have := refTake_any (.slice (some ⟨g, o, none⟩) l.length c) l 4 w ha (by omega)
    unfold takeB at this
    rw [if_neg (by omega), if_neg (by omega)] at this
    exact this
  have hlt := lenF_lt l
  have G1 := Lib.hid g1
  by_cases h15 : 65536 < lenF l
  · rw [if_pos h15]
    generalize lenF l = n at *
    have n1 : (n : Int) ≤ 4294967295 := by omega
    clear hlt g1
    go_enter Try.func14, Try.ntmps14
    go_wp2_with (go_at_call 25; (with_reducible refine (G1.out _ HA.out).mono ?_); rintro e w1 ⟨v1, rfl, hp1, hb1⟩)
    exact bodyPost_ret (v := .tuple #[.slice none 0 0, .slice none 0 0, .int .i64 15]) (by simp [results, Try.results14, go_sem]) rfl ⟨_, _, rfl, OwnR.nil _ _ _ _ _, OwnR.nil _ _ _ _ _, hb1⟩
  rw [if_neg h15]
  by_cases hs : l.length - 8 < lenF l
  · rw [if_pos hs]
    generalize lenF l = n at *
    have n1 : (n : Int) ≤ 65536 := by omega
    have n2 : (l.length : Int) - 8 < (n : Int) := by omega
    clear hlt g1
    go_enter Try.func14, Try.ntmps14
    go_wp2_with (go_at_call 25; (with_reducible refine (G1.out _ HA.out).mono ?_); rintro e w1 ⟨v1, rfl, hp1, hb1⟩)
    exact bodyPost_ret (v := .tuple #[.slice none 0 0, .slice none 0 0, .int .i64 4]) (by simp [results, Try.results14, go_sem]) rfl ⟨_, _, rfl, OwnR.nil _ _ _ _ _, OwnR.nil _ _ _ _ _, hb1⟩
  rw [if_neg hs]
  have g2 : ∀ w va, BytesAt w va (l.drop 4) → Calls Try.prog 25 #[va, .int .i64 4] w fun e w' => ∃ v, e = .returned (.tuple #[.int .u64 (sumF l : Int), v, .int .i64 0]) ∧ BytesAt w' v (l.drop 8) ∧ Below w.heap.size w w' := fun w va ha => by
    have := refTake_any va (l.drop 4) 4 w ha (by rw [List.length_drop]; omega)
    unfold takeB at this
    rw [if_neg (by omega), if_neg (by rw [List.length_drop]; omega)] at this
    rw [show List.drop (4 : Int).toNat (l.drop 4) = l.drop 8 by rw [List.drop_drop]; rfl] at this
    exact this
  have g3 : ∀ w va, BytesAt w va (l.take 4 ++ payF l) → Calls Try.prog 23 #[va] w fun e w' => e = .returned (.int .u32 ((okF l : Nat) : Int)) ∧ w = w' := fun w va ha => refSum9_any va _ w ha (by rw [List.length_append, List.length_take]; unfold payF; rw [List.length_take, List.length_drop]; omega)
  have hst := sumF_lt l
  have hok : okF l < 4294967296 := tn9_lt _
  have hF4 := HA.out.front 4 (by omega)
  have hR4 := HA.out.rest 4 (by omega) (some ⟨g, o + 4, none⟩) (fun g o e _ => by cases e; rfl)
  have hpy : payF l = (l.drop 8).take (lenF l) := rfl
  have hpl : (payF l).length = lenF l := by rw [hpy, List.length_take, List.length_drop]; omega
  have h4 : (l.take 4).length = 4 := by rw [List.length_take]; omega
  have hdl : (l.drop 8).length = l.length - 8 := List.length_drop ..
  generalize okF l = k at *
  generalize sumF l = s at *
  generalize lenF l = n at *
  have n1 : (n : Int) ≤ 65536 := by omega
  have n2 : ¬ (l.length : Int) - 8 < (n : Int) := by omega
  have n3 : 8 ≤ (l.length : Int) := by omega
  have n4 : (8 : Int) + (n : Int) ≤ (l.length : Int) := by omega
  have k1 : (k : Int) ≤ 4294967295 := by omega
  have s1 : (s : Int) ≤ 4294967295 := by omega
  have G2 := Lib.hid g2
  have G3 := Lib.hid g3
  have HF4 := Lib.hid hF4
  have HR4 := Lib.hid hR4
  have hlc2 : (l.length : Int) ≤ (c : Int) := by omega
  clear g1 g2 g3 hst hok hF4 hR4 hlt h15
  have hway : (c = 8 ∧ n = 0 ∧ l.length = 8) ∨ (¬ c = 8 ∧ ¬ c = 8 + n) ∨ (¬ c = 8 ∧ c = 8 + n) := by omega
  rcases hway with ⟨w1, w2, w3⟩ | ⟨w1, w2⟩ | ⟨w1, w2⟩
  · subst w1 w2
    have hd0 : l.drop (8 + 0) = [] := List.drop_of_length_le (by omega)
    have hp0 : payF l = [] := by rw [hpy]; simp
    have hP8 : BytesAt w (.slice (some ⟨g, o, none⟩) 0 0) (payF l) := by rw [hp0]; exact ⟨_, 0, rfl, Nat.le_refl _, fun h => absurd h (by simp)⟩
    have hR8 : BytesAt w (.slice (some ⟨g, o, none⟩) 0 0) (l.drop (8 + 0)) := by rw [hd0]; exact ⟨_, 0, rfl, Nat.le_refl _, fun h => absurd h (by simp)⟩
    have HR8 := Lib.hid hR8
    have HP8 := Lib.hid hP8
    clear hd0 hp0 hP8 hR8
    have HQ := Lib.hid (show (payF l).length ≤ 65536 ∧ (l.drop (8 + 0)).length ≤ 900000 ∧ (l.take 4).length = 4 by rw [hpl, h4, List.length_drop]; omega)
    rw [w3] at G1 HA HR4 ⊢
    clear hpy hpl h4 hdl w3
    by_cases hks : k = s
    · subst hks
      go_enter Try.func14, Try.ntmps14
      go_wp2_with (first
        | (go_at_call 25; (with_reducible refine (G1.out _ HA.out).mono ?_); rintro e w1 ⟨v1, rfl, hp1, hb1⟩; have HB := Lib.hid hb1; clear hp1 hb1)
        | (go_at_call 25; (with_reducible refine (G2.out _ _ (HR4.out.kept HB.out)).mono ?_); rintro e w2 ⟨v2, rfl, hp2, hb2⟩; replace HB := Lib.hid (HB.out.trans (hb2.mono HB.out.size)); clear hp2 hb2)
        | (at_builtin; refine (fun (_ : True) => ?_) trivial; revert n1))
      intro n1
      have ho := ownb_empty w2
      have hBa := (Below.refl w2.heap.size w2).alloc (Nat.le_refl _) (.cells #[] 5)
      have hq := (HP8.out.kept HB.out).kept hBa
      (refine wpList_append_rows csB_len (by decide) csB_one rfl _ _ 22 rfl w2.heap.size 5 i0 (.int .u8 0) 1 Try.underlying22 hi hz0 hz1 hz2 rfl _ _ rfl ho _ _ rfl hq (by unfold maxLen; have := HQ.out; simp only [List.length_nil]; omega) (by have := HQ.out; simp only [List.length_nil]; omega) hBa.size ?_)
      intro v3 w3 o3 g3
      have hB3 := OwnR.below ho hBa hBa.size g3
      have hB03 := HB.out.trans (hB3.mono HB.out.size)
      replace o3 : OwnB w3 w2.heap.size v3 (payF l) := o3
      have HO3 := Lib.hid (OwnB.base o3 HB.out.size)
      have ho := ownb_empty w3
      have hBc := (Below.refl w3.heap.size w3).alloc (Nat.le_refl _) (.cells #[] 5)
      have hf := (HF4.out.kept hB03).kept hBc
      clear g3 hq o3 hB3 hBa
      go_wp2_with (at_builtin; refine wpList_append_rows csB_len (by decide) csB_one rfl _ _ 22 rfl w3.heap.size 5 i0 (.int .u8 0) 1 Try.underlying22 hi hz0 hz1 hz2 rfl _ _ rfl ho _ _ rfl hf (by unfold maxLen; have := HQ.out; simp only [List.length_nil]; omega) (by have := HQ.out; simp only [List.length_nil]; omega) hBc.size ?_)
      intro v4 w4 o4 g4
      have hB4 := OwnR.below ho hBc hBc.size g4
      replace o4 : OwnB w4 w3.heap.size v4 (l.take 4) := o4
      have hq := OwnB.bytes (OwnB.kept HO3.out hB4)
      clear ho g4 hf hBc
      go_wp2_with (at_builtin; refine wpList_append_rows csB_len (by decide) csB_one rfl _ _ 22 rfl w3.heap.size 5 i0 (.int .u8 0) 1 Try.underlying22 hi hz0 hz1 hz2 rfl _ _ rfl o4 _ _ rfl hq (by unfold maxLen; have := HQ.out; omega) (by have := HQ.out; omega) hB4.size ?_)
      intro v5 w5 o5 g5
      have hB5 := OwnR.below o4 hB4 hB4.size g5
      have hB05 := hB03.trans (hB5.mono hB03.size)
      have HO5 := Lib.hid (show OwnB w5 w3.heap.size v5 (l.take 4 ++ payF l) from o5).bytes
      have HO3' := Lib.hid (OwnB.kept HO3.out hB5)
      clear o4 g5 hq o5 hB4 hB03 HO3
      have ho := ownb_empty w5
      have hBd := (Below.refl w5.heap.size w5).alloc (Nat.le_refl _) (.cells #[] 5)
      have hr := (HR8.out.kept hB05).kept hBd
      go_wp2_with (first
        | (go_at_call 23; (with_reducible refine (G3.out _ _ HO5.out).mono ?_); rintro e w6 ⟨rfl, rfl⟩)
        | (at_builtin; refine wpList_append_rows csB_len (by decide) csB_one rfl _ _ 22 rfl w5.heap.size 5 i0 (.int .u8 0) 1 Try.underlying22 hi hz0 hz1 hz2 rfl _ _ rfl ho _ _ rfl hr (by unfold maxLen; have := HQ.out; simp only [List.length_nil]; omega) (by have := HQ.out; simp only [List.length_nil]; omega) hBd.size ?_))
      intro v7 w7 o7 g7
      have hB7 := OwnR.below ho hBd hBd.size g7
      have hB07 := hB05.trans (hB7.mono hB05.size)
      have HO7 := Lib.hid (OwnB.base (show OwnB w7 w5.heap.size v7 (l.drop (8 + 0)) from o7) hB05.size)
      have HO8 := Lib.hid (OwnB.kept HO3'.out hB7)
      clear ho g7 hr o7 hBd
      go_wp2
      exact bodyPost_ret (v := .tuple #[v3, v7, .int .i64 0]) (by simp [results, Try.results14, go_sem]) rfl ⟨_, _, rfl, HO8.out, HO7.out, hB07⟩
    · have kne : ((k : Int) == (s : Int)) = false := beq_no9 (by omega)
      rw [if_neg hks]
      clear hks
      go_enter Try.func14, Try.ntmps14
      go_wp2_with (first
        | (go_at_call 25; (with_reducible refine (G1.out _ HA.out).mono ?_); rintro e w1 ⟨v1, rfl, hp1, hb1⟩; have HB := Lib.hid hb1; clear hp1 hb1)
        | (go_at_call 25; (with_reducible refine (G2.out _ _ (HR4.out.kept HB.out)).mono ?_); rintro e w2 ⟨v2, rfl, hp2, hb2⟩; replace HB := Lib.hid (HB.out.trans (hb2.mono HB.out.size)); clear hp2 hb2)
        | (at_builtin; refine (fun (_ : True) => ?_) trivial; revert n1))
      intro n1
      have ho := ownb_empty w2
      have hBa := (Below.refl w2.heap.size w2).alloc (Nat.le_refl _) (.cells #[] 5)
      have hq := (HP8.out.kept HB.out).kept hBa
      (refine wpList_append_rows csB_len (by decide) csB_one rfl _ _ 22 rfl w2.heap.size 5 i0 (.int .u8 0) 1 Try.underlying22 hi hz0 hz1 hz2 rfl _ _ rfl ho _ _ rfl hq (by unfold maxLen; have := HQ.out; simp only [List.length_nil]; omega) (by have := HQ.out; simp only [List.length_nil]; omega) hBa.size ?_)
      intro v3 w3 o3 g3
      have hB3 := OwnR.below ho hBa hBa.size g3
      have hB03 := HB.out.trans (hB3.mono HB.out.size)
      replace o3 : OwnB w3 w2.heap.size v3 (payF l) := o3
      have HO3 := Lib.hid (OwnB.base o3 HB.out.size)
      have ho := ownb_empty w3
      have hBc := (Below.refl w3.heap.size w3).alloc (Nat.le_refl _) (.cells #[] 5)
      have hf := (HF4.out.kept hB03).kept hBc
      clear g3 hq o3 hB3 hBa
      go_wp2_with (at_builtin; refine wpList_append_rows csB_len (by decide) csB_one rfl _ _ 22 rfl w3.heap.size 5 i0 (.int .u8 0) 1 Try.underlying22 hi hz0 hz1 hz2 rfl _ _ rfl ho _ _ rfl hf (by unfold maxLen; have := HQ.out; simp only [List.length_nil]; omega) (by have := HQ.out; simp only [List.length_nil]; omega) hBc.size ?_)
      intro v4 w4 o4 g4
      have hB4 := OwnR.below ho hBc hBc.size g4
      replace o4 : OwnB w4 w3.heap.size v4 (l.take 4) := o4
      have hq := OwnB.bytes (OwnB.kept HO3.out hB4)
      clear ho g4 hf hBc
      go_wp2_with (at_builtin; refine wpList_append_rows csB_len (by decide) csB_one rfl _ _ 22 rfl w3.heap.size 5 i0 (.int .u8 0) 1 Try.underlying22 hi hz0 hz1 hz2 rfl _ _ rfl o4 _ _ rfl hq (by unfold maxLen; have := HQ.out; omega) (by have := HQ.out; omega) hB4.size ?_)
      intro v5 w5 o5 g5
      have hB5 := OwnR.below o4 hB4 hB4.size g5
      have hB05 := hB03.trans (hB5.mono hB03.size)
      have HO5 := Lib.hid (show OwnB w5 w3.heap.size v5 (l.take 4 ++ payF l) from o5).bytes
      have HO3' := Lib.hid (OwnB.kept HO3.out hB5)
      clear o4 g5 hq o5 hB4 hB03 HO3
      go_wp2_with (go_at_call 23; (with_reducible refine (G3.out _ _ HO5.out).mono ?_); rintro e w6 ⟨rfl, rfl⟩)
      exact bodyPost_ret (v := .tuple #[.slice none 0 0, .slice none 0 0, .int .i64 5]) (by simp [results, Try.results14, go_sem]) rfl ⟨_, _, rfl, OwnR.nil _ _ _ _ _, OwnR.nil _ _ _ _ _, hB05⟩
  · have hP8 : BytesAt w (.slice (some ⟨g, o + 8, none⟩) (8 + n - 8) (c - 8)) (payF l) := by
      rw [show 8 + n - 8 = n by omega, hpy]
      exact (HA.out.rest 8 (by omega) (some ⟨g, o + 8, none⟩) (fun g o e _ => by cases e; rfl)).front n (by rw [hdl]; omega)
    have hR8 : BytesAt w (.slice (some ⟨g, o + (8 + n), none⟩) (l.length - (8 + n)) (c - (8 + n))) (l.drop (8 + n)) := HA.out.rest (8 + n) (by omega) (some ⟨g, o + (8 + n), none⟩) (fun g o e _ => by cases e; rw [Nat.mul_one])
    have HR8 := Lib.hid hR8
    have HP8 := Lib.hid hP8
    clear hP8 hR8
    have HQ := Lib.hid (show (payF l).length ≤ 65536 ∧ (l.drop (8 + n)).length ≤ 900000 ∧ (l.take 4).length = 4 by rw [hpl, h4, List.length_drop]; omega)
    clear hpy hpl h4 hdl
    by_cases hks : k = s
    · subst hks
      go_enter Try.func14, Try.ntmps14
      go_wp2_with (first
        | (go_at_call 25; (with_reducible refine (G1.out _ HA.out).mono ?_); rintro e w1 ⟨v1, rfl, hp1, hb1⟩; have HB := Lib.hid hb1; clear hp1 hb1)
        | (go_at_call 25; (with_reducible refine (G2.out _ _ (HR4.out.kept HB.out)).mono ?_); rintro e w2 ⟨v2, rfl, hp2, hb2⟩; replace HB := Lib.hid (HB.out.trans (hb2.mono HB.out.size)); clear hp2 hb2)
        | (at_builtin; refine (fun (_ : True) => ?_) trivial; revert n1))
      intro n1
      have ho := ownb_empty w2
      have hBa := (Below.refl w2.heap.size w2).alloc (Nat.le_refl _) (.cells #[] 5)
      have hq := (HP8.out.kept HB.out).kept hBa
      (refine wpList_append_rows csB_len (by decide) csB_one rfl _ _ 22 rfl w2.heap.size 5 i0 (.int .u8 0) 1 Try.underlying22 hi hz0 hz1 hz2 rfl _ _ rfl ho _ _ rfl hq (by unfold maxLen; have := HQ.out; simp only [List.length_nil]; omega) (by have := HQ.out; simp only [List.length_nil]; omega) hBa.size ?_)
      intro v3 w3 o3 g3
      have hB3 := OwnR.below ho hBa hBa.size g3
      have hB03 := HB.out.trans (hB3.mono HB.out.size)
      replace o3 : OwnB w3 w2.heap.size v3 (payF l) := o3
      have HO3 := Lib.hid (OwnB.base o3 HB.out.size)
      have ho := ownb_empty w3
      have hBc := (Below.refl w3.heap.size w3).alloc (Nat.le_refl _) (.cells #[] 5)
      have hf := (HF4.out.kept hB03).kept hBc
      clear g3 hq o3 hB3 hBa
      go_wp2_with (at_builtin; refine wpList_append_rows csB_len (by decide) csB_one rfl _ _ 22 rfl w3.heap.size 5 i0 (.int .u8 0) 1 Try.underlying22 hi hz0 hz1 hz2 rfl _ _ rfl ho _ _ rfl hf (by unfold maxLen; have := HQ.out; simp only [List.length_nil]; omega) (by have := HQ.out; simp only [List.length_nil]; omega) hBc.size ?_)
      intro v4 w4 o4 g4
      have hB4 := OwnR.below ho hBc hBc.size g4
      replace o4 : OwnB w4 w3.heap.size v4 (l.take 4) := o4
      have hq := OwnB.bytes (OwnB.kept HO3.out hB4)
      clear ho g4 hf hBc
      go_wp2_with (at_builtin; refine wpList_append_rows csB_len (by decide) csB_one rfl _ _ 22 rfl w3.heap.size 5 i0 (.int .u8 0) 1 Try.underlying22 hi hz0 hz1 hz2 rfl _ _ rfl o4 _ _ rfl hq (by unfold maxLen; have := HQ.out; omega) (by have := HQ.out; omega) hB4.size ?_)
      intro v5 w5 o5 g5
      have hB5 := OwnR.below o4 hB4 hB4.size g5
      have hB05 := hB03.trans (hB5.mono hB03.size)
      have HO5 := Lib.hid (show OwnB w5 w3.heap.size v5 (l.take 4 ++ payF l) from o5).bytes
      have HO3' := Lib.hid (OwnB.kept HO3.out hB5)
      clear o4 g5 hq o5 hB4 hB03 HO3
      have ho := ownb_empty w5
      have hBd := (Below.refl w5.heap.size w5).alloc (Nat.le_refl _) (.cells #[] 5)
      have hr := (HR8.out.kept hB05).kept hBd
      go_wp2_with (first
        | (go_at_call 23; (with_reducible refine (G3.out _ _ HO5.out).mono ?_); rintro e w6 ⟨rfl, rfl⟩)
        | (at_builtin; refine wpList_append_rows csB_len (by decide) csB_one rfl _ _ 22 rfl w5.heap.size 5 i0 (.int .u8 0) 1 Try.underlying22 hi hz0 hz1 hz2 rfl _ _ rfl ho _ _ rfl hr (by unfold maxLen; have := HQ.out; simp only [List.length_nil]; omega) (by have := HQ.out; simp only [List.length_nil]; omega) hBd.size ?_))
      intro v7 w7 o7 g7
      have hB7 := OwnR.below ho hBd hBd.size g7
      have hB07 := hB05.trans (hB7.mono hB05.size)
      have HO7 := Lib.hid (OwnB.base (show OwnB w7 w5.heap.size v7 (l.drop (8 + n)) from o7) hB05.size)
      have HO8 := Lib.hid (OwnB.kept HO3'.out hB7)
      clear ho g7 hr o7 hBd
      go_wp2
      exact bodyPost_ret (v := .tuple #[v3, v7, .int .i64 0]) (by simp [results, Try.results14, go_sem]) rfl ⟨_, _, rfl, HO8.out, HO7.out, hB07⟩
    · have kne : ((k : Int) == (s : Int)) = false := beq_no9 (by omega)
      rw [if_neg hks]
      clear hks
      go_enter Try.func14, Try.ntmps14
      go_wp2_with (first
        | (go_at_call 25; (with_reducible refine (G1.out _ HA.out).mono ?_); rintro e w1 ⟨v1, rfl, hp1, hb1⟩; have HB := Lib.hid hb1; clear hp1 hb1)
        | (go_at_call 25; (with_reducible refine (G2.out _ _ (HR4.out.kept HB.out)).mono ?_); rintro e w2 ⟨v2, rfl, hp2, hb2⟩; replace HB := Lib.hid (HB.out.trans (hb2.mono HB.out.size)); clear hp2 hb2)
        | (at_builtin; refine (fun (_ : True) => ?_) trivial; revert n1))
      intro n1
      have ho := ownb_empty w2
      have hBa := (Below.refl w2.heap.size w2).alloc (Nat.le_refl _) (.cells #[] 5)
      have hq := (HP8.out.kept HB.out).kept hBa
      (refine wpList_append_rows csB_len (by decide) csB_one rfl _ _ 22 rfl w2.heap.size 5 i0 (.int .u8 0) 1 Try.underlying22 hi hz0 hz1 hz2 rfl _ _ rfl ho _ _ rfl hq (by unfold maxLen; have := HQ.out; simp only [List.length_nil]; omega) (by have := HQ.out; simp only [List.length_nil]; omega) hBa.size ?_)
      intro v3 w3 o3 g3
      have hB3 := OwnR.below ho hBa hBa.size g3
      have hB03 := HB.out.trans (hB3.mono HB.out.size)
      replace o3 : OwnB w3 w2.heap.size v3 (payF l) := o3
      have HO3 := Lib.hid (OwnB.base o3 HB.out.size)
      have ho := ownb_empty w3
      have hBc := (Below.refl w3.heap.size w3).alloc (Nat.le_refl _) (.cells #[] 5)
      have hf := (HF4.out.kept hB03).kept hBc
      clear g3 hq o3 hB3 hBa
      go_wp2_with (at_builtin; refine wpList_append_rows csB_len (by decide) csB_one rfl _ _ 22 rfl w3.heap.size 5 i0 (.int .u8 0) 1 Try.underlying22 hi hz0 hz1 hz2 rfl _ _ rfl ho _ _ rfl hf (by unfold maxLen; have := HQ.out; simp only [List.length_nil]; omega) (by have := HQ.out; simp only [List.length_nil]; omega) hBc.size ?_)
      intro v4 w4 o4 g4
      have hB4 := OwnR.below ho hBc hBc.size g4
      replace o4 : OwnB w4 w3.heap.size v4 (l.take 4) := o4
      have hq := OwnB.bytes (OwnB.kept HO3.out hB4)
      clear ho g4 hf hBc
      go_wp2_with (at_builtin; refine wpList_append_rows csB_len (by decide) csB_one rfl _ _ 22 rfl w3.heap.size 5 i0 (.int .u8 0) 1 Try.underlying22 hi hz0 hz1 hz2 rfl _ _ rfl o4 _ _ rfl hq (by unfold maxLen; have := HQ.out; omega) (by have := HQ.out; omega) hB4.size ?_)
      intro v5 w5 o5 g5
      have hB5 := OwnR.below o4 hB4 hB4.size g5
      have hB05 := hB03.trans (hB5.mono hB03.size)
      have HO5 := Lib.hid (show OwnB w5 w3.heap.size v5 (l.take 4 ++ payF l) from o5).bytes
      have HO3' := Lib.hid (OwnB.kept HO3.out hB5)
      clear o4 g5 hq o5 hB4 hB03 HO3
      go_wp2_with (go_at_call 23; (with_reducible refine (G3.out _ _ HO5.out).mono ?_); rintro e w6 ⟨rfl, rfl⟩)
      exact bodyPost_ret (v := .tuple #[.slice none 0 0, .slice none 0 0, .int .i64 5]) (by simp [results, Try.results14, go_sem]) rfl ⟨_, _, rfl, OwnR.nil _ _ _ _ _, OwnR.nil _ _ _ _ _, hB05⟩
  · subst w2
    have hd0 : l.drop (8 + n) = [] := List.drop_of_length_le (by omega)
    have hP8 : BytesAt w (.slice (some ⟨g, o + 8, none⟩) (8 + n - 8) n) (payF l) := by
      have := (HA.out.rest 8 (by omega) (some ⟨g, o + 8, none⟩) (fun g o e _ => by cases e; rfl)).front n (by rw [hdl]; omega)
      rw [show 8 + n - 8 = n by omega] at this ⊢
      rw [hpy]
      exact this
    have HD0 := Lib.hid hd0
    have HP8 := Lib.hid hP8
    clear hd0 hP8
    have HQ := Lib.hid (show (payF l).length ≤ 65536 ∧ (l.drop (8 + n)).length ≤ 900000 ∧ (l.take 4).length = 4 by rw [hpl, h4, List.length_drop]; omega)
    clear hpy hpl h4 hdl
    by_cases hks : k = s
    · subst hks
      go_enter Try.func14, Try.ntmps14
      go_wp2_with (first
        | (go_at_call 25; (with_reducible refine (G1.out _ HA.out).mono ?_); rintro e w1 ⟨v1, rfl, hp1, hb1⟩; have HB := Lib.hid hb1; clear hp1 hb1)
        | (go_at_call 25; (with_reducible refine (G2.out _ _ (HR4.out.kept HB.out)).mono ?_); rintro e w2 ⟨v2, rfl, hp2, hb2⟩; replace HB := Lib.hid (HB.out.trans (hb2.mono HB.out.size)); clear hp2 hb2)
        | (at_builtin; refine (fun (_ : True) => ?_) trivial; revert n1))
      intro n1
      have ho := ownb_empty w2
      have hBa := (Below.refl w2.heap.size w2).alloc (Nat.le_refl _) (.cells #[] 5)
      have hq := (HP8.out.kept HB.out).kept hBa
      (refine wpList_append_rows csB_len (by decide) csB_one rfl _ _ 22 rfl w2.heap.size 5 i0 (.int .u8 0) 1 Try.underlying22 hi hz0 hz1 hz2 rfl _ _ rfl ho _ _ rfl hq (by unfold maxLen; have := HQ.out; simp only [List.length_nil]; omega) (by have := HQ.out; simp only [List.length_nil]; omega) hBa.size ?_)
      intro v3 w3 o3 g3
      have hB3 := OwnR.below ho hBa hBa.size g3
      have hB03 := HB.out.trans (hB3.mono HB.out.size)
      replace o3 : OwnB w3 w2.heap.size v3 (payF l) := o3
      have HO3 := Lib.hid (OwnB.base o3 HB.out.size)
      have ho := ownb_empty w3
      have hBc := (Below.refl w3.heap.size w3).alloc (Nat.le_refl _) (.cells #[] 5)
      have hf := (HF4.out.kept hB03).kept hBc
      clear g3 hq o3 hB3 hBa
      go_wp2_with (at_builtin; refine wpList_append_rows csB_len (by decide) csB_one rfl _ _ 22 rfl w3.heap.size 5 i0 (.int .u8 0) 1 Try.underlying22 hi hz0 hz1 hz2 rfl _ _ rfl ho _ _ rfl hf (by unfold maxLen; have := HQ.out; simp only [List.length_nil]; omega) (by have := HQ.out; simp only [List.length_nil]; omega) hBc.size ?_)
      intro v4 w4 o4 g4
      have hB4 := OwnR.below ho hBc hBc.size g4
      replace o4 : OwnB w4 w3.heap.size v4 (l.take 4) := o4
      have hq := OwnB.bytes (OwnB.kept HO3.out hB4)
      clear ho g4 hf hBc
      go_wp2_with (at_builtin; refine wpList_append_rows csB_len (by decide) csB_one rfl _ _ 22 rfl w3.heap.size 5 i0 (.int .u8 0) 1 Try.underlying22 hi hz0 hz1 hz2 rfl _ _ rfl o4 _ _ rfl hq (by unfold maxLen; have := HQ.out; omega) (by have := HQ.out; omega) hB4.size ?_)
      intro v5 w5 o5 g5
      have hB5 := OwnR.below o4 hB4 hB4.size g5
      have hB05 := hB03.trans (hB5.mono hB03.size)
      have HO5 := Lib.hid (show OwnB w5 w3.heap.size v5 (l.take 4 ++ payF l) from o5).bytes
      have HO3' := Lib.hid (OwnB.kept HO3.out hB5)
      clear o4 g5 hq o5 hB4 hB03 HO3
      have ho := ownb_empty w5
      have hBd := (Below.refl w5.heap.size w5).alloc (Nat.le_refl _) (.cells #[] 5)
      have hr : OwnB (w5.alloc (.cells #[] 5)) w.heap.size (.slice (some ⟨w5.heap.size, 0, none⟩) 0 0) (l.drop (8 + n)) := by rw [HD0.out]; exact OwnB.base (ownb_empty w5) hB05.size
      have HO8 := Lib.hid (OwnB.kept HO3'.out hBd)
      have hB07 := hB05.trans (hBd.mono hB05.size)
      have HR := Lib.hid hr
      clear hr ho hBd
      go_wp2_with (go_at_call 23; (with_reducible refine (G3.out _ _ HO5.out).mono ?_); rintro e w6 ⟨rfl, rfl⟩)
      exact bodyPost_ret (v := .tuple #[v3, .slice (some ⟨w5.heap.size, 0, none⟩) 0 0, .int .i64 0]) (by simp [results, Try.results14, go_sem]) rfl ⟨_, _, rfl, HO8.out, HR.out, hB07⟩
    · have kne : ((k : Int) == (s : Int)) = false := beq_no9 (by omega)
      rw [if_neg hks]
      clear hks
      go_enter Try.func14, Try.ntmps14
      go_wp2_with (first
        | (go_at_call 25; (with_reducible refine (G1.out _ HA.out).mono ?_); rintro e w1 ⟨v1, rfl, hp1, hb1⟩; have HB := Lib.hid hb1; clear hp1 hb1)
        | (go_at_call 25; (with_reducible refine (G2.out _ _ (HR4.out.kept HB.out)).mono ?_); rintro e w2 ⟨v2, rfl, hp2, hb2⟩; replace HB := Lib.hid (HB.out.trans (hb2.mono HB.out.size)); clear hp2 hb2)
        | (at_builtin; refine (fun (_ : True) => ?_) trivial; revert n1))
      intro n1
      have ho := ownb_empty w2
      have hBa := (Below.refl w2.heap.size w2).alloc (Nat.le_refl _) (.cells #[] 5)
      have hq := (HP8.out.kept HB.out).kept hBa
      (refine wpList_append_rows csB_len (by decide) csB_one rfl _ _ 22 rfl w2.heap.size 5 i0 (.int .u8 0) 1 Try.underlying22 hi hz0 hz1 hz2 rfl _ _ rfl ho _ _ rfl hq (by unfold maxLen; have := HQ.out; simp only [List.length_nil]; omega) (by have := HQ.out; simp only [List.length_nil]; omega) hBa.size ?_)
      intro v3 w3 o3 g3
      have hB3 := OwnR.below ho hBa hBa.size g3
      have hB03 := HB.out.trans (hB3.mono HB.out.size)
      replace o3 : OwnB w3 w2.heap.size v3 (payF l) := o3
      have HO3 := Lib.hid (OwnB.base o3 HB.out.size)
      have ho := ownb_empty w3
      have hBc := (Below.refl w3.heap.size w3).alloc (Nat.le_refl _) (.cells #[] 5)
      have hf := (HF4.out.kept hB03).kept hBc
      clear g3 hq o3 hB3 hBa
      go_wp2_with (at_builtin; refine wpList_append_rows csB_len (by decide) csB_one rfl _ _ 22 rfl w3.heap.size 5 i0 (.int .u8 0) 1 Try.underlying22 hi hz0 hz1 hz2 rfl _ _ rfl ho _ _ rfl hf (by unfold maxLen; have := HQ.out; simp only [List.length_nil]; omega) (by have := HQ.out; simp only [List.length_nil]; omega) hBc.size ?_)
      intro v4 w4 o4 g4
      have hB4 := OwnR.below ho hBc hBc.size g4
      replace o4 : OwnB w4 w3.heap.size v4 (l.take 4) := o4
      have hq := OwnB.bytes (OwnB.kept HO3.out hB4)
      clear ho g4 hf hBc
      go_wp2_with (at_builtin; refine wpList_append_rows csB_len (by decide) csB_one rfl _ _ 22 rfl w3.heap.size 5 i0 (.int .u8 0) 1 Try.underlying22 hi hz0 hz1 hz2 rfl _ _ rfl o4 _ _ rfl hq (by unfold maxLen; have := HQ.out; omega) (by have := HQ.out; omega) hB4.size ?_)
      intro v5 w5 o5 g5
      have hB5 := OwnR.below o4 hB4 hB4.size g5
      have hB05 := hB03.trans (hB5.mono hB03.size)
      have HO5 := Lib.hid (show OwnB w5 w3.heap.size v5 (l.take 4 ++ payF l) from o5).bytes
      have HO3' := Lib.hid (OwnB.kept HO3.out hB5)
      clear o4 g5 hq o5 hB4 hB03 HO3
      go_wp2_with (go_at_call 23; (with_reducible refine (G3.out _ _ HO5.out).mono ?_); rintro e w6 ⟨rfl, rfl⟩)
      exact bodyPost_ret (v := .tuple #[.slice none 0 0, .slice none 0 0, .int .i64 5]) (by simp [results, Try.results14, go_sem]) rfl ⟨_, _, rfl, OwnR.nil _ _ _ _ _, OwnR.nil _ _ _ _ _, hB05⟩
end Go.Proofs.Ytmmaodcihpgdfaa
