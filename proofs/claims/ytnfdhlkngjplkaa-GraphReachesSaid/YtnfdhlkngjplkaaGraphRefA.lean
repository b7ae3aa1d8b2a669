/- Stage 16: the document's In, Set, free. -/
import Derived.Test.YtnfdhlkngjplkaaGraphMath
import Derived.Test.YtnfdhlkngjplkaaOwnInts
import Derived.Test.YtnfdhlkngjplkaaOneI
import Derived.Test.YtnfdhlkngjplkaaOwnO
namespace Go.Proofs.Ytnfdhlkngjplkaa
open Go.RowKit

def csArc (a : Arc16) : List Value := [.int .i64 a.src, .int .i64 a.dst]
theorem csArc_len (a : Arc16) : (csArc a).length = 2 := rfl
abbrev ArcsAt (w : World) (v : Value) (l : List Arc16) : Prop := RowsAt w 2 csArc v l
theorem ArcsAt.at {w : World} {v : Value} {l : List Arc16} (h : ArcsAt w v l) (k : Nat) (hk : k < l.length) :
    ∃ g o c, v = .slice (some ⟨g, o, none⟩) l.length c ∧ l.length ≤ c ∧ g < w.heap.size ∧ w.cell? ⟨g, o + k * 2, none⟩ = some (.int .i64 l[k].src) ∧ w.cell? ⟨g, o + k * 2 + 1, none⟩ = some (.int .i64 l[k].dst) := by
  obtain ⟨a, c, rfl, hc, hx⟩ := h
  obtain ⟨g, o, rfl, hg, hcell⟩ := hx (by omega)
  exact ⟨g, o, c, rfl, hc, hg, hcell k _ (List.getElem?_eq_getElem hk) 0 _ rfl, hcell k _ (List.getElem?_eq_getElem hk) 1 _ rfl⟩
theorem inL_take (l : List Int) (n : Int) (k : Nat) (hk : k < l.length) (h : l[k] ≠ n) (h0 : n ∉ l.take k) : n ∉ l.take (k + 1) := by
  rw [List.take_succ_eq_append_getElem hk, List.mem_append, List.mem_singleton]
  rintro (h1 | h1)
  · exact h0 h1
  · exact h h1.symm

set_option maxHeartbeats 2000000 in
theorem refIn_any (va : Value) (l : List Int) (n : Int) (W : World) (ha : IntsAt W va l) (hl : l.length ≤ 1000000) :
    Calls Try.prog 22 #[va, .int .i64 n] W fun e w' => e = .returned (.bool (inL l n)) ∧ W = w' := by
  have HA := Lib.hid ha
  obtain ⟨a, c, rfl⟩ := IntsAt.form ha
  clear ha
  go_enter Try.func22, Try.ntmps22
  go_wp2
  go_loopw [5] (fun iv wr => ∃ k : Nat, k ≤ l.length ∧ iv = .int .i64 k ∧ n ∉ l.take k ∧ W = wr) (fun iv _ => l.length - (intOf iv).toNat)
  case atStart => exact ⟨0, by omega, rfl, by simp, rfl⟩
  case round =>
    obtain ⟨k, hk, rfl, hno, rfl⟩ := hrel
    by_cases hlt : k < l.length
    · obtain ⟨g, o, cc, e, hlc, _, p0⟩ := IntsAt.spot HA.out k hlt
      cases e
      have j1 : (k : Int) < (l.length : Int) := by omega
      have j0 : (0 : Int) ≤ (k : Int) := by omega
      by_cases hx : l[k] = n
      · have HIN := Lib.hid (show inL l n = true from decide_eq_true (hx ▸ List.getElem_mem hlt))
        rw [hx] at p0
        clear hx hno hlt
        go_wp2
        go_ret
        exact ⟨ret_b HIN.out.symm, rfl⟩
      · have HNO := Lib.hid (inL_take l n k hlt hx hno)
        have hx2 : (l[k] == n) = false := beq_noI hx
        generalize l[k] = x at *
        clear hx hno hlt
        go_wp2
        go_roundw
        case rel => exact ⟨k + 1, by omega, by go_num, HNO.out, by trivial⟩
        case measure => simp [intOf] <;> omega
    · have hke : k = l.length := by omega
      subst hke
      rw [List.take_length] at hno
      have HIN := Lib.hid (show inL l n = false from decide_eq_false hno)
      clear hno hlt
      go_wp2
      go_ret
      exact ⟨ret_b HIN.out.symm, rfl⟩

set_option maxHeartbeats 4000000 in
set_option maxRecDepth 100000 in
theorem refFree_any (vn va vt : Value) (nodes : List Int) (arcs : List Arc16) (told : List Int) (n : Int) (W : World) (hn : IntsAt W vn nodes) (ha : ArcsAt W va arcs) (ht : IntsAt W vt told) (hl1 : nodes.length ≤ 1000000) (hl2 : arcs.length ≤ 1000000) (hl3 : told.length ≤ 1000000) :
    Calls Try.prog 23 #[vn, va, vt, .int .i64 n] W fun e w' => e = .returned (.bool (freeG nodes arcs told n)) ∧ W = w' := by
  have HA := Lib.hid ha
  have G1 := Lib.hid fun x => refIn_any vn nodes x W hn hl1
  have G2 := Lib.hid fun x => refIn_any vt told x W ht hl3
  obtain ⟨a, c, rfl⟩ := RowsAt.form ha
  obtain ⟨a1, c1, rfl⟩ := IntsAt.form hn
  obtain ⟨a2, c2, rfl⟩ := IntsAt.form ht
  clear ha hn ht
  go_enter Try.func23, Try.ntmps23
  go_wp2
  go_loopw [9] (fun iv wr => ∃ k : Nat, k ≤ arcs.length ∧ iv = .int .i64 k ∧ freeG nodes (arcs.take k) told n = true ∧ W = wr) (fun iv _ => arcs.length - (intOf iv).toNat)
  case atStart => exact ⟨0, by omega, rfl, by simp [freeG], rfl⟩
  case round =>
    obtain ⟨k, hk, rfl, hfr, rfl⟩ := hrel
    by_cases hlt : k < arcs.length
    · obtain ⟨g, o, cc, e, hlc, _, p0, p1⟩ := ArcsAt.at HA.out k hlt
      cases e
      have j1 : (k : Int) < (arcs.length : Int) := by omega
      have j0 : (0 : Int) ≤ (k : Int) := by omega
      have hnx := freeG_take nodes arcs told n k hlt
      have hno := freeG_no (nodes := nodes) (told := told) (n := n) k hlt
      rw [hfr, Bool.true_and] at hnx
      have g1 := G1.out arcs[k].src
      have g2 := G2.out arcs[k].src
      generalize inL nodes arcs[k].src = t1 at *
      generalize inL told arcs[k].src = t2 at *
      have GA := Lib.hid g1
      have GB := Lib.hid g2
      obtain ⟨x, hx⟩ : ∃ x, arcs[k].src = x := ⟨_, rfl⟩
      obtain ⟨y, hy⟩ : ∃ y, arcs[k].dst = y := ⟨_, rfl⟩
      rw [hx] at GA GB p0
      rw [hy] at hnx hno p1
      clear hx hy g1 g2 hlt
      by_cases hyn : y = n
      · subst hyn
        rw [decide_eq_true rfl, Bool.true_and] at hnx hno
        cases t1
        · have HN := Lib.hid hnx
          clear hnx hno hfr
          go_wp2_with (first
            | (go_at_call 22; (with_reducible refine GA.out.mono ?_); rintro e w1 ⟨rfl, rfl⟩)
            | (go_at_call 22; (with_reducible refine GB.out.mono ?_); rintro e w1 ⟨rfl, rfl⟩))
          go_roundw
          case rel => exact ⟨k + 1, by omega, by go_num, HN.out, by trivial⟩
          case measure => simp [intOf] <;> omega
        · cases t2
          · have HN := Lib.hid (hno rfl)
            clear hnx hno hfr
            go_wp2_with (first
              | (go_at_call 22; (with_reducible refine GA.out.mono ?_); rintro e w1 ⟨rfl, rfl⟩)
              | (go_at_call 22; (with_reducible refine GB.out.mono ?_); rintro e w1 ⟨rfl, rfl⟩))
            go_ret
            exact ⟨ret_b HN.out.symm, rfl⟩
          · have HN := Lib.hid hnx
            clear hnx hno hfr
            go_wp2_with (first
              | (go_at_call 22; (with_reducible refine GA.out.mono ?_); rintro e w1 ⟨rfl, rfl⟩)
              | (go_at_call 22; (with_reducible refine GB.out.mono ?_); rintro e w1 ⟨rfl, rfl⟩))
            go_roundw
            case rel => exact ⟨k + 1, by omega, by go_num, HN.out, by trivial⟩
            case measure => simp [intOf] <;> omega
      · rw [decide_eq_false hyn] at hnx
        have hy2 : (y == n) = false := beq_noI hyn
        have HN := Lib.hid hnx
        clear hnx hno hfr hyn
        go_wp2
        go_roundw
        case rel => exact ⟨k + 1, by omega, by go_num, by rw [HN.out]; rfl, by trivial⟩
        case measure => simp [intOf] <;> omega
    · have hke : k = arcs.length := by omega
      subst hke
      rw [List.take_length] at hfr
      have HIN := Lib.hid hfr
      clear hfr hlt
      go_wp2
      go_ret
      exact ⟨ret_b HIN.out.symm, rfl⟩
end Go.Proofs.Ytnfdhlkngjplkaa
