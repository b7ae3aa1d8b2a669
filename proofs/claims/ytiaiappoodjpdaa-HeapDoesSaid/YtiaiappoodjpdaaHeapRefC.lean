/- Stage 13: the document's Find, IDs. -/
import Derived.Test.YtiaiappoodjpdaaHeapRefB
import Derived.Test.YtiaiappoodjpdaaOneI
namespace Go.Proofs.Ytiaiappoodjpdaa
open Go.RowKit

theorem fndT_take (l : List Th) (id : Int) (k : Nat) (hk : k < l.length) (h : ∀ x ∈ l.take k, x.id ≠ id) : if l[k].id = id then fndT l id = (l[k], true) else ∀ x ∈ l.take (k + 1), x.id ≠ id := by
  split
  · rename_i he
    have e : l = l.take k ++ (l[k] :: l.drop (k + 1)) := by rw [← List.drop_eq_getElem_cons hk, List.take_append_drop]
    unfold fndT
    have h1 : l.find? (fun x => decide (x.id = id)) = some l[k] := by
      obtain ⟨y, hy⟩ : ∃ y, l[k] = y := ⟨_, rfl⟩
      rw [hy] at e he ⊢
      rw [e, List.find?_append]
      have : (l.take k).find? (fun x => decide (x.id = id)) = none := by
        rw [List.find?_eq_none]
        intro x hx
        simpa using h x hx
      rw [this, Option.none_or, List.find?_cons_of_pos (by simpa using he)]
    rw [h1]
  · rename_i he
    intro x hx
    rw [List.take_succ_eq_append_getElem hk, List.mem_append] at hx
    rcases hx with hx | hx
    · exact h x hx
    · simp at hx
      subst hx
      exact he
theorem fndT_none (l : List Th) (id : Int) (h : ∀ x ∈ l, x.id ≠ id) : fndT l id = (⟨0, 0, 0⟩, false) := by
  unfold fndT
  have : l.find? (fun x => decide (x.id = id)) = none := by
    rw [List.find?_eq_none]
    intro x hx
    simpa using h x hx
  rw [this]

set_option maxHeartbeats 4000000 in
set_option maxRecDepth 100000 in
theorem refFind13_any (va : Value) (l : List Th) (id : Int) (W : World) (ha : ThAt W va l) (hl : l.length ≤ 1000000) :
    Calls Try.prog 14 #[va, .int .i64 id] W fun e w' => e = .returned (.tuple #[.agg #[.int .i64 (fndT l id).1.id, .int .i64 (fndT l id).1.key, .int .i64 (fndT l id).1.seq], .bool (fndT l id).2]) ∧ Below W.heap.size W w' := by
  have hbel := (Below.refl W.heap.size W).alloc (Nat.le_refl _) (.cells #[.int .i64 0, .int .i64 0, .int .i64 0] 28)
  have HA := Lib.hid (RowsAt.kept ha hbel)
  obtain ⟨a, c, rfl⟩ := RowsAt.form ha
  obtain ⟨⟨x, b⟩, hR⟩ : ∃ r, fndT l id = r := ⟨_, rfl⟩
  rw [hR]
  have HRR := Lib.hid hR
  have HBEL := Lib.hid hbel
  have hX := Blk.new W [.int .i64 0, .int .i64 0, .int .i64 0] 28
  have x0 := hX.cell 0 rfl
  have x1 := hX.cell 1 rfl
  have x2 := hX.cell 2 rfl
  have z0 := hX.free 0 rfl
  have z1 := hX.free 1 rfl
  have z2 := hX.free 2 rfl
  have HX := Lib.hid hX
  clear ha hbel hR hX
  go_enter Try.func14, Try.ntmps14
  go_wp2
  generalize W.alloc (.cells #[.int .i64 0, .int .i64 0, .int .i64 0] 28) = W1 at *
  go_loopw [6] (fun iv wr => ∃ k : Nat, k ≤ l.length ∧ iv = .int .i64 k ∧ (∀ x ∈ l.take k, x.id ≠ id) ∧ W1 = wr) (fun iv _ => l.length - (intOf iv).toNat)
  case atStart => exact ⟨0, by omega, rfl, by simp, rfl⟩
  case round =>
    obtain ⟨k, hk, rfl, htk, rfl⟩ := hrel
    by_cases hlt : k < l.length
    · obtain ⟨g, o, cc, e, _, _, p0, p1, p2⟩ := ThAt.at HA.out k hlt
      cases e
      have hft := fndT_take l id k hlt htk
      have k0 : (0 : Int) ≤ (k : Int) := by omega
      have k1 : (k : Int) < (l.length : Int) := by omega
      by_cases hid : l[k].id = id
      · rw [if_pos hid, HRR.out] at hft
        have hx : l[k] = x := (Prod.mk.inj hft).1.symm
        have hbt : b = true := (Prod.mk.inj hft).2
        rw [hx] at p0 p1 p2 hid
        subst hbt
        subst hid
        have u := ((HX.out.set 0 (.int .i64 x.id)).set 1 (.int .i64 x.key)).set 2 (.int .i64 x.seq)
        have r0 := u.cell 0 rfl
        have r1 := u.cell 1 rfl
        have r2 := u.cell 2 rfl
        have HB := Lib.hid (((HBEL.out.setCell (p := ⟨W.heap.size, 0, none⟩) (Nat.le_refl _) (.int .i64 x.id)).setCell (p := ⟨W.heap.size, 1, none⟩) (Nat.le_refl _) (.int .i64 x.key)).setCell (p := ⟨W.heap.size, 2, none⟩) (Nat.le_refl _) (.int .i64 x.seq))
        clear hft hx htk u
        go_wp2
        refine bodyPost_ret (v := .tuple #[.agg #[.int .i64 x.id, .int .i64 x.key, .int .i64 x.seq], .bool true]) ?_ rfl ⟨rfl, HB.out⟩
        simp [results, Try.results14, go_sem, r0, r1, r2]
      · rw [if_neg hid] at hft
        have hne : (l[k].id == id) = false := beq_noI hid
        have HFT := Lib.hid hft
        generalize l[k] = y at *
        clear hft htk p1 p2
        go_wp2
        go_roundw
        case rel => exact ⟨k + 1, by omega, by go_num, HFT.out, by trivial⟩
        case measure => simp [intOf] <;> omega
    · have hke : k = l.length := by omega
      subst hke
      rw [List.take_length] at htk
      have hft := fndT_none l id htk
      rw [HRR.out] at hft
      have hx : x = ⟨0, 0, 0⟩ := (Prod.mk.inj hft).1
      have hbt : b = false := (Prod.mk.inj hft).2
      subst hx
      subst hbt
      have u := ((HX.out.set 0 (.int .i64 0)).set 1 (.int .i64 0)).set 2 (.int .i64 0)
      have r0 := u.cell 0 rfl
      have r1 := u.cell 1 rfl
      have r2 := u.cell 2 rfl
      have HB := Lib.hid (((HBEL.out.setCell (p := ⟨W.heap.size, 0, none⟩) (Nat.le_refl _) (.int .i64 0)).setCell (p := ⟨W.heap.size, 1, none⟩) (Nat.le_refl _) (.int .i64 0)).setCell (p := ⟨W.heap.size, 2, none⟩) (Nat.le_refl _) (.int .i64 0))
      clear hft htk u
      go_wp2
      refine bodyPost_ret (v := .tuple #[.agg #[.int .i64 0, .int .i64 0, .int .i64 0], .bool false]) ?_ rfl ⟨rfl, HB.out⟩
      simp [results, Try.results14, go_sem, r0, r1, r2]

def idsT (l : List Th) : List Int := l.map Th.id
theorem idsT_take (l : List Th) (k : Nat) (hk : k < l.length) : idsT (l.take (k + 1)) = idsT (l.take k) ++ [l[k].id] := by
  unfold idsT
  rw [List.take_succ_eq_append_getElem hk, List.map_append]
  rfl
theorem idsT_len (l : List Th) : (idsT l).length = l.length := List.length_map ..

set_option maxHeartbeats 4000000 in
set_option maxRecDepth 100000 in
theorem refIDs_any (va : Value) (l : List Th) (W : World) (ha : ThAt W va l) (hl : l.length ≤ 1000000) :
    Calls Try.prog 18 #[va] W fun e w' => ∃ v, e = .returned v ∧ OwnI w' W.heap.size v (idsT l) ∧ Below W.heap.size W w' := by
  obtain ⟨i0, hi, hz0, hz1, hz2⟩ := info_parts info_int
  have HA := Lib.hid ha
  obtain ⟨a, c, rfl⟩ := RowsAt.form ha
  clear ha
  go_enter Try.func18, Try.ntmps18
  go_wp2
  go_loopw [3, 4] (fun ov iv wr => ∃ k : Nat, k ≤ l.length ∧ iv = .int .i64 k ∧ OwnI wr W.heap.size ov (idsT (l.take k)) ∧ Below W.heap.size W wr) (fun _ iv _ => l.length - (intOf iv).toNat)
  case atStart => exact ⟨0, by omega, rfl, OwnR.nil _ _ _ _ _, Below.refl _ _⟩
  case round =>
    obtain ⟨k, hk, rfl, ho, hB⟩ := hrel
    by_cases hlt : k < l.length
    · obtain ⟨g, o, cc, e, _, _, p0, _, _⟩ := ThAt.at (RowsAt.kept HA.out hB) k hlt
      cases e
      have hnx := idsT_take l k hlt
      have hil := idsT_len (l.take k)
      rw [List.length_take] at hil
      have k0 : (0 : Int) ≤ (k : Int) := by omega
      have k1 : (k : Int) < (l.length : Int) := by omega
      generalize l[k].id = y at *
      have HNX := Lib.hid hnx
      have HO := Lib.hid (OwnR.alloc ho (.cells #[.int .i64 y] 3))
      have HP := Lib.hid (oneI13 wr y)
      have HB := Lib.hid (hB.alloc hB.size (.cells #[.int .i64 y] 3))
      have HIL := Lib.hid (show (idsT (l.take k)).length ≤ 1000000 by omega)
      clear hnx ho hB hil
      go_wp2_with (at_builtin; refine wpList_append_rows csI_len (by decide) csI_one13 rfl _ _ 44 rfl W.heap.size 3 i0 (.int .i64 0) 8 Try.underlying44 hi hz0 hz1 hz2 rfl _ _ rfl HO.out _ [y] rfl HP.out (by have := HIL.out; unfold maxLen; simp; omega) (by have := HIL.out; simp; omega) HB.out.size ?_; intro v2 w2 o2 g2; have HO2 := Lib.hid o2; have HB2 := Lib.hid (OwnR.below HO.out HB.out HB.out.size g2); clear o2 g2)
      go_roundw
      case rel => exact ⟨k + 1, by omega, by go_num, by rw [HNX.out]; exact HO2.out, HB2.out⟩
      case measure => simp [intOf] <;> omega
    · have hke : k = l.length := by omega
      subst hke
      rw [List.take_length] at ho
      have HO := Lib.hid ho
      clear ho
      go_wp2
      go_ret
      exact ⟨_, rfl, HO.out, hB⟩
end Go.Proofs.Ytiaiappoodjpdaa
