/- Stage 12: the document's Of. -/
import Derived.Test.YtfalohmdjnhikaaDoorSkillRefA
namespace Go.Proofs.YtfalohmdjnhikaaDoor
open Go.RowKit

def wt12 (k : Nat) : Nat := if k < 64 then 2 ^ k else 0
theorem wt12_next (k : Nat) (hk : k < 64) : IntKind.u64.wrap ((wt12 k : Int) * 2) = (wt12 (k + 1) : Int) := by
  unfold wt12
  rw [if_pos hk]
  by_cases h : k + 1 < 64
  · rw [if_pos h]
    have h1 : 2 ^ (k + 1) < 2 ^ 64 := Nat.pow_lt_pow_right (by omega) h
    have h2 : 2 ^ (k + 1) = 2 ^ k * 2 := Nat.pow_succ ..
    rw [IntWalk.u64_in _ (by omega)]
    omega
  · rw [if_neg h]
    have : k = 63 := by omega
    subst this
    decide +kernel
/-- the numbers of a list, as told by places -/
def inI (l : List Int) (n : Nat) : Bool := decide ((n : Int) ∈ l)
theorem ofS_next (l : List Int) (k : Nat) : ofS (inI l) (k + 1) = ofS (inI l) k + if inI l k then 2 ^ k else 0 := rfl
theorem take_mem (l : List Int) (x : Int) (j : Nat) (hj : j < l.length) : decide (x ∈ l.take (j + 1)) = (decide (x ∈ l.take j) || decide (l[j] = x)) := by
  have e : x ∈ l.take (j + 1) ↔ x ∈ l.take j ∨ l[j] = x := by
    rw [List.take_succ_eq_append_getElem hj, List.mem_append, List.mem_singleton, eq_comm (a := x)]
  rw [← Bool.decide_or]
  exact decide_eq_decide.2 e

set_option maxHeartbeats 4000000 in
set_option maxRecDepth 100000 in
theorem refOf_any (va : Value) (l : List Int) (W : World) (ha : IntsAt W va l) (hl : l.length ≤ 1000000) :
    Calls Tryd.prog 11 #[va] W fun e w' => e = .returned (.int .u64 (ofS (inI l) 64 : Int)) ∧ W = w' := by
  have HA := Lib.hid ha
  obtain ⟨a, c, rfl⟩ := IntsAt.form ha
  clear ha
  go_enter Tryd.func11, Tryd.ntmps11
  go_wp2
  go_loopw [3, 4, 5] (fun ov wv iv wr => ∃ k : Nat, k ≤ 64 ∧ iv = .int .i64 k ∧ ov = .int .u64 (ofS (inI l) k : Nat) ∧ wv = .int .u64 (wt12 k : Nat) ∧ W = wr) (fun _ _ iv _ => 64 - (intOf iv).toNat)
  case atStart => exact ⟨0, by omega, rfl, rfl, rfl, rfl⟩
  case round =>
    obtain ⟨k, hk, rfl, rfl, rfl, rfl⟩ := hrel
    by_cases hlt : k < 64
    · have k0 : (k : Int) < 64 := by omega
      have hnx := wt12_next k hlt
      have hof := ofS_next l k
      have hlt2 := ofS_lt (inI l) (k + 1)
      have hp64 : 2 ^ (k + 1) ≤ 2 ^ 64 := Nat.pow_le_pow_right (by omega) (by omega)
      have hwk : wt12 k = 2 ^ k := by unfold wt12; rw [if_pos hlt]
      rw [hwk] at hnx ⊢
      have hsum : inI l k = true → IntKind.u64.wrap ((ofS (inI l) k : Int) + ((2 ^ k : Nat) : Int)) = (ofS (inI l) (k + 1) : Int) := fun h => by
        rw [h, if_pos rfl] at hof
        rw [IntWalk.u64_in _ (by omega)]
        omega
      have hsame : inI l k = false → ofS (inI l) (k + 1) = ofS (inI l) k := fun h => by
        rw [h, if_neg (by simp)] at hof
        omega
      obtain ⟨A, hA⟩ : ∃ A, ofS (inI l) k = A := ⟨_, rfl⟩
      obtain ⟨B, hB⟩ : ∃ B, ofS (inI l) (k + 1) = B := ⟨_, rfl⟩
      obtain ⟨p, hp⟩ : ∃ p, 2 ^ k = p := ⟨_, rfl⟩
      rw [hA, hB] at hsum hsame
      rw [hp] at hsum hnx
      rw [hA, hp]
      have HB := Lib.hid hB
      have HSU := Lib.hid hsum
      have HSA := Lib.hid hsame
      have HNX := Lib.hid hnx
      clear hof hlt2 hp64 hwk hsum hsame hA hB hp hnx
      go_wp2
      go_loopw [6, 7] (fun bv jv wr => ∃ j : Nat, j ≤ l.length ∧ jv = .int .i64 j ∧ bv = .bool (decide ((k : Int) ∈ l.take j)) ∧ W = wr) (fun _ jv _ => l.length - (intOf jv).toNat)
      case atStart => exact ⟨0, by omega, rfl, by simp, rfl⟩
      case round =>
        obtain ⟨j, hj, rfl, rfl, rfl⟩ := hrel
        by_cases hlj : j < l.length
        · obtain ⟨g, o, cc, e, hlc, _, p0⟩ := IntsAt.spot HA.out j hlj
          cases e
          have hm := take_mem l (k : Int) j hlj
          have j0 : (j : Int) < (l.length : Int) := by omega
          have j1 : (0 : Int) ≤ (j : Int) := by omega
          generalize l[j] = x at *
          generalize decide ((k : Int) ∈ l.take j) = t at *
          have HM := Lib.hid hm
          clear hm
          cases t
          · go_wp2
            go_roundw
            case rel => exact ⟨j + 1, by omega, by go_num, by rw [HM.out, Bool.false_or]; rfl, by trivial⟩
            case measure => simp [intOf] <;> omega
          · go_wp2
            go_roundw
            case rel => exact ⟨j + 1, by omega, by go_num, by rw [HM.out, Bool.true_or], by trivial⟩
            case measure => simp [intOf] <;> omega
        · have hje : j = l.length := by omega
          subst hje
          rw [List.take_length]
          have he : decide ((k : Int) ∈ l) = inI l k := rfl
          rw [he]
          have hnx := HNX.out
          cases ht : inI l k with
          | false =>
            have hs := HSA.out ht
            have HS := Lib.hid hs
            clear hs
            go_wp2
            go_roundw
            case rel => exact ⟨k + 1, by omega, by go_num, by rw [HB.out, HS.out], rfl, by trivial⟩
            case measure => simp [intOf] <;> omega
          | true =>
            have hs := HSU.out ht
            go_wp2
            go_roundw
            case rel => exact ⟨k + 1, by omega, by go_num, by rw [HB.out], rfl, by trivial⟩
            case measure => simp [intOf] <;> omega
    · have hke : k = 64 := by omega
      subst hke
      go_wp2
      go_ret
      exact ⟨rfl, rfl⟩
end Go.Proofs.YtfalohmdjnhikaaDoor
