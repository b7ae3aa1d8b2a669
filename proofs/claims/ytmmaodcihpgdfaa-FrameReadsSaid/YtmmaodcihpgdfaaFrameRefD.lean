/- The walks of the document's answers for layer 10: Rows, Few. -/
import Derived.Test.YtmmaodcihpgdfaaFrameRefC
namespace Go.Proofs.Ytmmaodcihpgdfaa
open Go.RowKit

theorem take_same {α : Type} {L M : List α} {k : Nat} (h : L.take k = M.take k) (hL : k < L.length) (hM : k < M.length) (e : L[k] = M[k]) : L.take (k + 1) = M.take (k + 1) := by
  rw [List.take_succ_eq_append_getElem hL, List.take_succ_eq_append_getElem hM, h, e]

set_option maxHeartbeats 4000000 in
set_option maxRecDepth 100000 in
theorem refRows10_any (va vb : Value) (L M : List (List UInt8)) (w : World) (ha : BssAt w va L) (hb : BssAt w vb M) (hl : L.length ≤ 1000000) (hm : M.length ≤ 1000000) :
    Calls Try.prog 17 #[va, vb] w fun e w' => e = .returned (.bool (decide (L = M))) ∧ Below w.heap.size w w' := by
  have HA := Lib.hid ha
  have HC := Lib.hid hb
  obtain ⟨a, c, rfl⟩ := BssAt.form ha
  obtain ⟨a', c', rfl⟩ := BssAt.form hb
  clear ha hb
  by_cases hlen : L.length = M.length
  · by_cases heq : L = M
    · subst heq
      rw [decide_eq_true rfl]
      go_enter Try.func17, Try.ntmps17
      go_wp2
      go_loopw [5] (fun i wr => ∃ k : Nat, k ≤ L.length ∧ i = .int .i64 k ∧ Below w.heap.size w wr) (fun i _ => L.length - (intOf i).toNat)
      case atStart => exact ⟨0, Nat.zero_le _, rfl, Below.refl _ _⟩
      case round =>
        obtain ⟨k, hk, rfl, hB⟩ := hrel
        by_cases hlt : k < L.length
        · obtain ⟨g, o, cc, x, n, e, _, p0, hx⟩ := BssAt.at (HA.out.kept hB) k hlt
          cases e
          obtain ⟨g', o', cc', x', n', e, _, p1, hy⟩ := BssAt.at (HC.out.kept hB) k hlt
          cases e
          have k0 : (0 : Int) ≤ (k : Int) := by omega
          have k1 : (k : Int) < (L.length : Int) := by omega
          generalize L[k] = l at *
          have hxx : (l == l) = true := beq_self_eq_true l
          go_wp2
          refine wp_region_calm0 (by kernel_rfl) (by kernel_rfl) fun M => ?_
          have e0 := fun n : In M.w => n.cell (M.cell p0)
          have e1 := fun n : In M.w => n.cell (M.cell p1)
          have q1 := fun n : In M.w => str_of_bytes ((hx.kept M.h).kept n.h)
          have q2 := fun n : In M.w => str_of_bytes ((hy.kept M.h).kept n.h)
          repeat (go_big_quiet_step (fail))
          refine wpQuiet_nil ?_
          intro w1 hb1
          have hB1 := hB.trans (hb1.mono hB.size)
          clear e0 e1 q1 q2 M p0 p1 hx hy hb1 hB
          go_wp2
          go_roundw
          case rel => exact ⟨k + 1, by omega, by go_num, hB1⟩
          case measure => simp [intOf] <;> omega
        · have hke : k = L.length := by omega
          subst hke
          go_wp2
          go_ret
          exact ⟨rfl, hB⟩
    · rw [decide_eq_false heq]
      have HNE := Lib.hid heq
      have HLEN := Lib.hid hlen
      have hlm : (M.length : Int) = (L.length : Int) := by omega
      clear heq hlen
      go_enter Try.func17, Try.ntmps17
      go_wp2
      go_loopw [5] (fun i wr => ∃ k : Nat, k ≤ L.length ∧ i = .int .i64 k ∧ L.take k = M.take k ∧ Below w.heap.size w wr) (fun i _ => L.length - (intOf i).toNat)
      case atStart => exact ⟨0, Nat.zero_le _, rfl, rfl, Below.refl _ _⟩
      case round =>
        obtain ⟨k, hk, rfl, htk, hB⟩ := hrel
        by_cases hlt : k < L.length
        · have hlt2 : k < M.length := by have := HLEN.out; omega
          obtain ⟨g, o, cc, x, n, e, _, p0, hx⟩ := BssAt.at (HA.out.kept hB) k hlt
          cases e
          obtain ⟨g', o', cc', x', n', e, _, p1, hy⟩ := BssAt.at (HC.out.kept hB) k hlt2
          cases e
          have k0 : (0 : Int) ≤ (k : Int) := by omega
          have k1 : (k : Int) < (L.length : Int) := by omega
          have k2 : (k : Int) < (M.length : Int) := by omega
          have HTS := Lib.hid (take_same htk hlt hlt2)
          have hxx : (L[k] == M[k]) = true ∧ L[k] = M[k] ∨ (L[k] == M[k]) = false := by
            by_cases e : L[k] = M[k]
            · exact .inl ⟨by rw [e]; exact beq_self_eq_true _, e⟩
            · exact .inr (by simpa using e)
          generalize L[k] = l at *
          generalize M[k] = m at *
          clear htk
          go_wp2
          refine wp_region_calm0 (by kernel_rfl) (by kernel_rfl) fun M => ?_
          have e0 := fun n : In M.w => n.cell (M.cell p0)
          have e1 := fun n : In M.w => n.cell (M.cell p1)
          have q1 := fun n : In M.w => str_of_bytes ((hx.kept M.h).kept n.h)
          have q2 := fun n : In M.w => str_of_bytes ((hy.kept M.h).kept n.h)
          rcases hxx with ⟨h1, h2⟩ | h1
          · have HT2 := Lib.hid (HTS.out h2)
            clear HTS
            subst h2
            repeat (go_big_quiet_step (fail))
            refine wpQuiet_nil ?_
            intro w1 hb1
            have hB1 := hB.trans (hb1.mono hB.size)
            clear e0 e1 q1 q2 M p0 p1 hx hy hb1 hB h1
            go_wp2
            go_roundw
            case rel => exact ⟨k + 1, by omega, by go_num, HT2.out, hB1⟩
            case measure => simp [intOf] <;> omega
          · repeat (go_big_quiet_step (fail))
            refine wpQuiet_nil ?_
            intro w1 hb1
            have hB1 := hB.trans (hb1.mono hB.size)
            clear e0 e1 q1 q2 M p0 p1 hx hy hb1 hB
            go_wp2
            go_ret
            exact ⟨rfl, hB1⟩
        · have hke : k = L.length := by omega
          rw [List.take_of_length_le (by omega), List.take_of_length_le (by have := HLEN.out; omega)] at htk
          exact absurd htk HNE.out
  · rw [decide_eq_false (fun h => hlen (by rw [h]))]
    have hne : ((L.length : Int) == (M.length : Int)) = false := beq_no9 (by omega)
    go_enter Try.func17, Try.ntmps17
    go_wp2
    go_ret
    exact ⟨rfl, Below.refl _ _⟩

set_option maxHeartbeats 4000000 in
set_option maxRecDepth 100000 in
theorem refFew10_any (va : Value) (L : List (List UInt8)) (r b : Int) (w : World) (ha : BssAt w va L) (hl : L.length ≤ 9223372036854775807) :
    Calls Try.prog 18 #[va, .int .i64 r, .int .i64 b] w fun e w' => e = .returned (.bool (decide ((L.length : Int) ≤ r ∧ ∀ l ∈ L, (l.length : Int) ≤ b))) ∧ w = w' := by
  have HA := Lib.hid ha
  obtain ⟨a, c, rfl⟩ := BssAt.form ha
  clear ha
  by_cases h1 : r < (L.length : Int)
  · rw [decide_eq_false (fun h => by omega)]
    go_enter Try.func18, Try.ntmps18
    go_wp2
    go_ret
    exact ⟨rfl, rfl⟩
  · by_cases hall : ∀ l ∈ L, (l.length : Int) ≤ b
    · rw [decide_eq_true ⟨by omega, hall⟩]
      have HALL := Lib.hid hall
      clear hall
      go_enter Try.func18, Try.ntmps18
      go_wp2
      go_loopw [7] (fun i wr => ∃ k : Nat, k ≤ L.length ∧ i = .int .i64 k ∧ w = wr) (fun i _ => L.length - (intOf i).toNat)
      case atStart => exact ⟨0, Nat.zero_le _, rfl, rfl⟩
      case round =>
        obtain ⟨k, hk, rfl, rfl⟩ := hrel
        by_cases hlt : k < L.length
        · obtain ⟨g, o, cc, x, n, e, _, p0, hx⟩ := BssAt.at HA.out k hlt
          cases e
          have k0 : (0 : Int) ≤ (k : Int) := by omega
          have k1 : (k : Int) < (L.length : Int) := by omega
          have h2 := HALL.out L[k] (List.getElem_mem hlt)
          generalize L[k] = l at *
          have h3 : ¬ b < (l.length : Int) := by omega
          clear hx
          go_wp2
          go_roundw
          case rel => exact ⟨k + 1, by omega, by go_num, by trivial⟩
          case measure => simp [intOf] <;> omega
        · have hke : k = L.length := by omega
          subst hke
          go_wp2
          go_ret
          exact ⟨rfl, rfl⟩
    · rw [decide_eq_false (fun h => hall h.2)]
      have HALL := Lib.hid hall
      clear hall
      go_enter Try.func18, Try.ntmps18
      go_wp2
      go_loopw [7] (fun i wr => ∃ k : Nat, k ≤ L.length ∧ i = .int .i64 k ∧ (∀ l ∈ L.take k, (l.length : Int) ≤ b) ∧ w = wr) (fun i _ => L.length - (intOf i).toNat)
      case atStart => exact ⟨0, Nat.zero_le _, rfl, by simp, rfl⟩
      case round =>
        obtain ⟨k, hk, rfl, htk, rfl⟩ := hrel
        by_cases hlt : k < L.length
        · obtain ⟨g, o, cc, x, n, e, _, p0, hx⟩ := BssAt.at HA.out k hlt
          cases e
          have k0 : (0 : Int) ≤ (k : Int) := by omega
          have k1 : (k : Int) < (L.length : Int) := by omega
          have HNX := Lib.hid (show (L[k].length : Int) ≤ b → ∀ l ∈ L.take (k + 1), (l.length : Int) ≤ b by
            intro h l hl
            rw [List.take_succ_eq_append_getElem hlt, List.mem_append] at hl
            rcases hl with hl | hl
            · exact htk l hl
            · simp at hl; subst hl; exact h)
          generalize L[k] = l at *
          clear hx htk
          by_cases h3 : b < (l.length : Int)
          · go_wp2
            go_ret
            exact ⟨rfl, rfl⟩
          · go_wp2
            go_roundw
            case rel => exact ⟨k + 1, by omega, by go_num, HNX.out (by omega), by trivial⟩
            case measure => simp [intOf] <;> omega
        · have hke : k = L.length := by omega
          rw [List.take_of_length_le (by omega)] at htk
          exact absurd htk HALL.out
end Go.Proofs.Ytmmaodcihpgdfaa
