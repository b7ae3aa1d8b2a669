/- Lists of numbers that a call gathers; are two lists of numbers the same. -/
import Derived.Test.YtdoanlemoegikaaIntsAt
import Derived.Test.YtdoanlemoegikaaFlat
namespace Go.Proofs.Ytdoanlemoegikaa
open Go.RowKit

theorem beq_noI {a b : Int} (h : a ≠ b) : (a == b) = false := by simp [h]
def csI (n : Int) : List Value := [.int .i64 n]
theorem csI_len (n : Int) : (csI n).length = 1 := rfl
theorem info_int : (Try.prog.info? 3).map (fun i => (i.zero, i.size, i.bytes)) = some (some (.int .i64 0), 1, 8) := by kernel_rfl
theorem IntsAt.rows {w : World} {v : Value} {l : List Int} (h : IntsAt w v l) : RowsAt w 1 csI v l := by
  obtain ⟨a, cap, e, hc, h⟩ := h
  refine ⟨a, cap, e, hc, fun h0 => ?_⟩
  obtain ⟨g, o, e1, hg, hx⟩ := h h0
  refine ⟨g, o, e1, hg, fun j x hj i u hu => ?_⟩
  have h0 : i = 0 ∧ u = .int .i64 x := by
    cases i with
    | zero => simp [csI] at hu; exact ⟨rfl, hu.symm⟩
    | succ i => simp [csI] at hu
  obtain ⟨rfl, rfl⟩ := h0
  rw [Nat.mul_one, Nat.add_zero]
  exact hx j x hj
theorem RowsAt.ints {w : World} {v : Value} {l : List Int} (h : RowsAt w 1 csI v l) : IntsAt w v l := by
  obtain ⟨a, cap, e, hc, h⟩ := h
  refine ⟨a, cap, e, hc, fun h0 => ?_⟩
  obtain ⟨g, o, e1, hg, hx⟩ := h h0
  refine ⟨g, o, e1, hg, fun j x hj => ?_⟩
  have := hx j x hj 0 _ rfl
  rwa [Nat.mul_one, Nat.add_zero] at this
/-- numbers that the call gathers by itself -/
abbrev OwnI (w : World) (B : Nat) (v : Value) (l : List Int) : Prop := OwnR w B 3 1 csI v l
theorem OwnI.ints {w : World} {B : Nat} {v : Value} {l : List Int} (h : OwnI w B v l) : IntsAt w v l := (OwnR.rows csI_len h).ints
theorem IntsAt.form {w : World} {v : Value} {l : List Int} (h : IntsAt w v l) : ∃ a c, v = .slice a l.length c := by
  obtain ⟨a, c, e, _⟩ := h
  exact ⟨a, c, e⟩
theorem IntsAt.spot {w : World} {v : Value} {l : List Int} (h : IntsAt w v l) (k : Nat) (hk : k < l.length) : ∃ g o c, v = .slice (some ⟨g, o, none⟩) l.length c ∧ l.length ≤ c ∧ g < w.heap.size ∧ w.cell? ⟨g, o + k, none⟩ = some (.int .i64 l[k]) := by
  obtain ⟨a, c, rfl, hc, hx⟩ := h
  obtain ⟨g, o, rfl, hg, hxa⟩ := hx (by omega)
  exact ⟨g, o, c, rfl, hc, hg, hxa k _ (List.getElem?_eq_getElem hk)⟩

set_option maxHeartbeats 2000000 in
set_option maxRecDepth 100000 in
theorem refInts_any (va vb : Value) (l r : List Int) (w : World) (ha : IntsAt w va l) (hb : IntsAt w vb r) (hl : l.length ≤ 1000000) (_hr : r.length ≤ 1000000) :
    Calls Try.prog 23 #[va, vb] w fun e w' => e = .returned (.bool (decide (l = r))) ∧ Below w.heap.size w w' := by
  obtain ⟨a, c, rfl⟩ := ha.form
  obtain ⟨b, d, rfl⟩ := hb.form
  have HA := Lib.hid ha
  have HB := Lib.hid hb
  clear ha hb
  by_cases hne : l.length = r.length
  · go_enter Try.func23, Try.ntmps23
    rw [← hne]
    have HNE := Lib.hid hne
    clear hne
    go_wp2
    go_loopw [5] (fun i wr => ∃ k : Nat, k ≤ l.length ∧ i = .int .i64 k ∧ Below w.heap.size w wr ∧ ∀ i (h : i < l.length) (h' : i < r.length), i < k → l[i] = r[i]) (fun i _ => l.length - (intOf i).toNat)
    case atStart => exact ⟨0, Nat.zero_le _, rfl, Below.refl _ _, fun i _ _ hi => absurd hi (by omega)⟩
    case round =>
      obtain ⟨k, hk, rfl, hB, hs⟩ := hrel
      have HS := Lib.hid hs
      clear hs
      by_cases hlt : k < l.length
      · have hlt' : k < r.length := by have := HNE.out; omega
        obtain ⟨g, o, c', ev, hc, hg, p0⟩ := (HA.out.below hB).spot k hlt
        cases ev
        obtain ⟨g', o', c', ev, hc', hg', q0⟩ := (HB.out.below hB).spot k hlt'
        rw [← HNE.out] at ev hc'
        cases ev
        have j0 : (0 : Int) ≤ (k : Int) := by omega
        have j1 : (k : Int) < (l.length : Int) := by omega
        obtain ⟨x, hx⟩ : ∃ x, l[k] = x := ⟨_, rfl⟩
        obtain ⟨y, hy⟩ : ∃ y, r[k] = y := ⟨_, rfl⟩
        rw [hx] at p0
        rw [hy] at q0
        have HX := Lib.hid hx
        have HY := Lib.hid hy
        clear hx hy
        by_cases he : x = y
        · subst he
          go_wp2
          refine wp_region_calm0 (by kernel_rfl) (by kernel_rfl) fun M => ?_
          have e0 := fun n : In M.w => n.cell (M.cell p0)
          have f0 := fun n : In M.w => n.cell (M.cell q0)
          repeat (go_big_quiet_step (fail))
          refine wpQuiet_nil ?_
          intro w1 hb
          replace hB := hB.trans (hb.mono hB.size)
          clear e0 f0 M hb p0 q0
          go_wp2
          go_roundw
          case rel =>
            refine ⟨k + 1, by omega, by go_num, hB, fun i h h' hi => ?_⟩
            by_cases e : i = k
            · subst e
              rw [HX.out, HY.out]
            · exact HS.out i h h' (by omega)
          case measure => simp [intOf]; omega
        · have HN := Lib.hid (decide_eq_false (fun e : l = r => he (by rw [← HX.out, ← HY.out]; simp only [e])))
          have m0 : (x != y) = true := by simp [bne, he]
          have m1 := beq_noI he
          clear he
          go_wp2
          refine wp_region_calm0 (by kernel_rfl) (by kernel_rfl) fun M => ?_
          have e0 := fun n : In M.w => n.cell (M.cell p0)
          have f0 := fun n : In M.w => n.cell (M.cell q0)
          repeat (go_big_quiet_step (fail))
          refine wpQuiet_nil ?_
          intro w1 hb
          replace hB := hB.trans (hb.mono hB.size)
          clear e0 f0 M hb p0 q0
          go_wp2
          go_ret
          exact ⟨ret_b HN.out.symm, hB⟩
      · have hk2 : k = l.length := by omega
        have hd : decide (l = r) = true := decide_eq_true (List.ext_getElem HNE.out fun i h1 h2 => HS.out i h1 h2 (by omega))
        have HD := Lib.hid hd
        clear hk hk2 hd
        go_wp2
        go_ret
        exact ⟨ret_b HD.out.symm, hB⟩
  · have e : decide (l = r) = false := decide_eq_false fun h => hne (by rw [h])
    have h2 : ((l.length : Int) == (r.length : Int)) = false := beq_noI (by omega)
    rw [e]
    go_enter Try.func23, Try.ntmps23
    go_wp2
    go_ret
    exact ⟨rfl, Below.refl _ _⟩
end Go.Proofs.Ytdoanlemoegikaa
