/- Stage 13: the document's Ahead, Drop, Put, Find, IDs. -/
import Derived.Test.YtiaiappoodjpdaaHeapMath
import Derived.Test.YtiaiappoodjpdaaOff
import Derived.Test.YtiaiappoodjpdaaOwnInts
import Derived.Deep.DeepCutAuto
namespace Go.Proofs.Ytiaiappoodjpdaa
open Go.RowKit

def csT (x : Th) : List Value := [.int .i64 x.id, .int .i64 x.key, .int .i64 x.seq]
theorem csT_len (x : Th) : (csT x).length = 3 := rfl
theorem csT_one (x : Th) : ∀ u ∈ csT x, u.oneCell' = true := by
  intro u hu
  simp [csT] at hu
  rcases hu with rfl | rfl | rfl <;> rfl
abbrev ThAt (w : World) (v : Value) (l : List Th) : Prop := RowsAt w 3 csT v l
abbrev OwnT (w : World) (B : Nat) (v : Value) (l : List Th) : Prop := OwnR w B 28 3 csT v l
theorem info_th : (Try.prog.info? 28).map (fun i => (i.zero, i.size, i.bytes)) = some (some (.agg #[.int .i64 0, .int .i64 0, .int .i64 0]), 3, 24) := by kernel_rfl
theorem ThAt.at {w : World} {v : Value} {l : List Th} (h : ThAt w v l) (k : Nat) (hk : k < l.length) :
    ∃ g o c, v = .slice (some ⟨g, o, none⟩) l.length c ∧ l.length ≤ c ∧ g < w.heap.size ∧ w.cell? ⟨g, o + k * 3, none⟩ = some (.int .i64 l[k].id) ∧ w.cell? ⟨g, o + k * 3 + 1, none⟩ = some (.int .i64 l[k].key) ∧ w.cell? ⟨g, o + k * 3 + 2, none⟩ = some (.int .i64 l[k].seq) := by
  obtain ⟨g, o, c, e, hc, hg, hx⟩ := h.spot k hk
  exact ⟨g, o, c, e, hc, hg, hx 0 _ rfl, hx 1 _ rfl, hx 2 _ rfl⟩
theorem oneT (w : World) (x : Th) : ThAt (w.alloc (.cells #[.int .i64 x.id, .int .i64 x.key, .int .i64 x.seq] 28)) (.slice (some ⟨w.heap.size, 0, none⟩) 1 1) [x] := by
  refine ⟨_, 1, rfl, Nat.le_refl _, fun _ => ⟨w.heap.size, 0, rfl, by simp, fun j y hj i u hu => ?_⟩⟩
  have h0 : j = 0 ∧ y = x := by
    cases j with
    | zero => simp at hj; exact ⟨rfl, hj.symm⟩
    | succ j => simp at hj
  obtain ⟨rfl, rfl⟩ := h0
  rcases i with _ | _ | _ | i
  · simp [csT] at hu; subst hu; go_simp
  · simp [csT] at hu; subst hu; go_simp
  · simp [csT] at hu; subst hu; go_simp
  · simp [csT] at hu

set_option maxHeartbeats 2000000 in
theorem refAhead_any (a b : Th) (W : World) : Calls Try.prog 19 #[.agg #[.int .i64 a.id, .int .i64 a.key, .int .i64 a.seq], .agg #[.int .i64 b.id, .int .i64 b.key, .int .i64 b.seq]] W fun e w' => e = .returned (.bool (ahead a b)) ∧ Below W.heap.size W w' := by
  obtain ⟨r, hr⟩ : ∃ r, ahead a b = r := ⟨_, rfl⟩
  rw [hr]
  unfold ahead at hr
  obtain ⟨a1, a2, a3⟩ := a
  obtain ⟨b1, b2, b3⟩ := b
  simp only at hr ⊢
  have hB : Below W.heap.size W ((W.alloc (.cells #[.int .i64 a1, .int .i64 a2, .int .i64 a3] 28)).alloc (.cells #[.int .i64 b1, .int .i64 b2, .int .i64 b3] 28)) := ((Below.refl _ _).alloc (Nat.le_refl _) _).alloc (by simp) _
  have HB := Lib.hid hB
  by_cases h1 : a2 = b2
  · subst h1
    rw [if_neg (by simp)] at hr
    by_cases h2 : a3 = b3
    · subst h2
      rw [if_neg (by simp)] at hr
      have HR := Lib.hid hr
      clear hr hB
      go_enter Try.func19, Try.ntmps19
      go_wp2
      go_ret
      exact ⟨ret_b HR.out, HB.out⟩
    · rw [if_pos h2] at hr
      have HR := Lib.hid hr
      have h3 : (a3 == b3) = false := beq_noI h2
      clear hr hB
      go_enter Try.func19, Try.ntmps19
      go_wp2
      go_ret
      exact ⟨ret_b HR.out, HB.out⟩
  · rw [if_pos h1] at hr
    have HR := Lib.hid hr
    have h3 : (a2 == b2) = false := beq_noI h1
    clear hr hB
    go_enter Try.func19, Try.ntmps19
    go_wp2
    go_ret
    exact ⟨ret_b HR.out, HB.out⟩

set_option maxHeartbeats 4000000 in
set_option maxRecDepth 100000 in
theorem refDrop13_any (va : Value) (l : List Th) (id : Int) (W : World) (ha : ThAt W va l) (hl : l.length ≤ 1000000) :
    Calls Try.prog 10 #[va, .int .i64 id] W fun e w' => ∃ v, e = .returned (.tuple #[v, .bool (hasT l id)]) ∧ OwnT w' W.heap.size v (dropT l id) ∧ Below W.heap.size W w' := by
  obtain ⟨i0, hi, hz0, hz1, hz2⟩ := info_parts info_th
  have HA := Lib.hid ha
  obtain ⟨a, c, rfl⟩ := RowsAt.form ha
  have hhas : hasT l id = decide ((dropT l id).length < l.length) := rfl
  obtain ⟨r, hr⟩ : ∃ r, hasT l id = r := ⟨_, rfl⟩
  rw [hr] at hhas ⊢
  have HHAS := Lib.hid hhas
  clear ha hr hhas
  go_enter Try.func10, Try.ntmps10
  go_wp2
  go_loopw [6, 7] (fun ov iv wr => ∃ k : Nat, k ≤ l.length ∧ iv = .int .i64 k ∧ OwnT wr W.heap.size ov (dropT (l.take k) id) ∧ Below W.heap.size W wr) (fun _ iv _ => l.length - (intOf iv).toNat)
  case atStart => exact ⟨0, by omega, rfl, OwnR.nil _ _ _ _ _, Below.refl _ _⟩
  case round =>
    obtain ⟨k, hk, rfl, ho, hB⟩ := hrel
    by_cases hlt : k < l.length
    · obtain ⟨g, o, cc, e, _, _, p0, p1, p2⟩ := ThAt.at (RowsAt.kept HA.out hB) k hlt
      cases e
      have hnx := dropT_take l id k hlt
      have hdl := dropT_len (l.take k) id
      rw [List.length_take] at hdl
      have k0 : (0 : Int) ≤ (k : Int) := by omega
      have k1 : (k : Int) < (l.length : Int) := by omega
      by_cases hid : l[k].id = id
      · rw [if_pos hid, List.append_nil] at hnx
        rw [hid] at p0
        have HNX := Lib.hid hnx
        have HO := Lib.hid ho
        have HB := Lib.hid hB
        clear hnx ho hB p1 p2 hid
        go_wp2
        go_roundw
        case rel => exact ⟨k + 1, by omega, by go_num, by rw [HNX.out]; exact HO.out, HB.out⟩
        case measure => simp [intOf] <;> omega
      · rw [if_neg hid] at hnx
        have hne : (l[k].id == id) = false := beq_noI hid
        have HNX := Lib.hid hnx
        have HO := Lib.hid (OwnR.alloc ho (.cells #[.int .i64 l[k].id, .int .i64 l[k].key, .int .i64 l[k].seq] 28))
        have HP := Lib.hid (oneT wr l[k])
        have HB := Lib.hid (hB.alloc hB.size (.cells #[.int .i64 l[k].id, .int .i64 l[k].key, .int .i64 l[k].seq] 28))
        generalize l[k] = x at *
        clear hnx ho hB
        go_wp2_with (at_builtin; refine wpList_append_rows csT_len (by decide) csT_one rfl _ _ 26 rfl W.heap.size 28 i0 (.agg #[.int .i64 0, .int .i64 0, .int .i64 0]) 24 Try.underlying26 hi hz0 hz1 hz2 rfl _ _ rfl HO.out _ [x] rfl HP.out (by unfold maxLen; simp; omega) (by simp; omega) HB.out.size ?_; intro v2 w2 o2 g2; have HO2 := Lib.hid o2; have HB2 := Lib.hid (OwnR.below HO.out HB.out HB.out.size g2); clear o2 g2)
        go_roundw
        case rel => exact ⟨k + 1, by omega, by go_num, by rw [HNX.out]; exact HO2.out, HB2.out⟩
        case measure => simp [intOf] <;> omega
    · have hke : k = l.length := by omega
      subst hke
      rw [List.take_length] at ho
      obtain ⟨a', c', rfl⟩ := RowsAt.form (OwnR.rows csT_len ho)
      have HO := Lib.hid ho
      generalize (dropT l id).length = n at *
      clear ho
      go_wp2
      refine bodyPost_ret (v := .tuple #[.slice a' n c', .bool r]) ?_ rfl ⟨_, rfl, HO.out, hB⟩
      simp [results, Try.results10, go_sem, HHAS.out]
end Go.Proofs.Ytiaiappoodjpdaa
