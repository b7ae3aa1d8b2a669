/- Stage 16: the document's In, Set, free. -/
import Derived.Test.YtlgemfgikdaelaaGraphMath
import Derived.Test.YtlgemfgikdaelaaOwnInts
import Derived.Test.YtlgemfgikdaelaaOneI
import Derived.Test.YtlgemfgikdaelaaOwnO
namespace Go.Proofs.Ytlgemfgikdaelaa
open Go.RowKit

def csArc (a : Arc16) : List Value := [.int .i64 a.src, .int .i64 a.dst]
theorem csArc_len (a : Arc16) : (csArc a).length = 2 := rfl
abbrev ArcsAt (w : World) (v : Value) (l : List Arc16) : Prop := RowsAt w 2 csArc v l
theorem ArcsAt.at {w : World} {v : Value} {l : List Arc16} (h : ArcsAt w v l) (k : Nat) (hk : k < l.length) :
    ∃ g o c, v = .slice (some ⟨g, o, none⟩) l.length c ∧ l.length ≤ c ∧ g < w.heap.size ∧ w.cell? ⟨g, o + k * 2, none⟩ = some (.int .i64 l[k].src) ∧ w.cell? ⟨g, o + k * 2 + 1, none⟩ = some (.int .i64 l[k].dst) := by
  obtain ⟨a, c, rfl, hc, hx⟩ := h
  obtain ⟨g, o, rfl, hg, hcell⟩ := hx (by omega)
  exact ⟨g, o, c, rfl, hc, hg, hcell k _ (List.getElem?_eq_getElem hk) 0 _ rfl, hcell k _ (List.getElem?_eq_getElem hk) 1 _ rfl⟩
theorem inL_take (l : List Int) (n : Int) (k : Nat) (hk : k < l.length) (h : l[k] ≠ n) (h0 : n ∉ l.take k) : n ∉ l.take (k + 1) := by
  rw [List.take_succ_eq_append_getElem hk, List.mem_append, List.mem_singleton]
  rintro (h1 | h1)
  · exact h0 h1
  · exact h h1.symm

set_option maxHeartbeats 2000000 in
theorem refIn_any (va : Value) (l : List Int) (n : Int) (W : World) (ha : IntsAt W va l) (hl : l.length ≤ 1000000) :
    Calls Try.prog 20 #[va, .int .i64 n] W fun e w' => e = .returned (.bool (inL l n)) ∧ W = w' := by
  have HA := Lib.hid ha
  obtain ⟨a, c, rfl⟩ := IntsAt.form ha
  clear ha
  go_enter Try.func20, Try.ntmps20
  go_wp2
  go_loopw [5] (fun iv wr => ∃ k : Nat, k ≤ l.length ∧ iv = .int .i64 k ∧ n ∉ l.take k ∧ W = wr) (fun iv _ => l.length - (Go.RowKit.intOf iv).toNat)
  case atStart => exact ⟨0, by omega, rfl, by simp, rfl⟩
  case round =>
    obtain ⟨k, hk, rfl, hno, rfl⟩ := hrel
    by_cases hlt : k < l.length
    · obtain ⟨g, o, cc, e, hlc, _, p0⟩ := IntsAt.spot HA.out k hlt
      cases e
      have j1 : (k : Int) < (l.length : Int) := by omega
      have j0 : (0 : Int) ≤ (k : Int) := by omega
      by_cases hx : l[k] = n
      · have HIN := Lib.hid (show inL l n = true from decide_eq_true (hx ▸ List.getElem_mem hlt))
        rw [hx] at p0
        clear hx hno hlt
        go_wp2
        go_ret
        exact ⟨ret_b HIN.out.symm, rfl⟩
      · have HNO := Lib.hid (inL_take l n k hlt hx hno)
        have hx2 : (l[k] == n) = false := beq_noI hx
        generalize l[k] = x at *
        clear hx hno hlt
        go_wp2
        go_roundw
        case rel => exact ⟨k + 1, by omega, by go_num, HNO.out, by trivial⟩
        case measure => simp [Go.RowKit.intOf] <;> omega
    · have hke : k = l.length := by omega
      subst hke
      rw [List.take_length] at hno
      have HIN := Lib.hid (show inL l n = false from decide_eq_false hno)
      clear hno hlt
      go_wp2
      go_ret
      exact ⟨ret_b HIN.out.symm, rfl⟩

end Go.Proofs.Ytlgemfgikdaelaa
