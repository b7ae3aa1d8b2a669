/- The law FifoFair, over the program's contracts as one structure. -/
import Derived.Test.YtdoanlemoegikaaFifoLaw
import Derived.Deep.DeepCutAuto
namespace Go.Proofs.Ytdoanlemoegikaa
open Go.RowKit

theorem plc_cons (z : Int) (t : List Int) (x : Int) : plcL (z :: t) x = if z = x then 0 else if x ∈ t then plcL t x + 1 else -1 := by
  unfold plcL
  by_cases h : z = x
  · rw [if_pos h, if_pos (by rw [h]; exact List.mem_cons_self), h, List.idxOf_cons_self]
    rfl
  · rw [if_neg h]
    by_cases h2 : x ∈ t
    · rw [if_pos h2, if_pos (List.mem_cons_of_mem _ h2), if_pos h2, List.idxOf_cons, show (z == x) = false from beq_noI h]
      simp
    · rw [if_neg h2, if_neg (fun h3 => by rcases List.mem_cons.1 h3 with e | e; exact h e.symm; exact h2 e)]
/-- nobody falls back; who comes is the last one -/
def FairI (L L' : List Int) (x : Int) : Prop := (0 ≤ plcL L x → plcL L' x ≤ plcL L x) ∧ (plcL L x < 0 → 0 ≤ plcL L' x → plcL L' x = (L'.length : Int) - 1)
theorem fair_same (L : List Int) (x : Int) : FairI L L x := ⟨fun _ => Int.le_refl _, fun h1 h2 => by omega⟩
theorem plc_append {L : List Int} {x : Int} (h : x ∈ L) (y : Int) : plcL (L ++ [y]) x = plcL L x := by
  unfold plcL
  rw [if_pos h, if_pos (List.mem_append_left _ h), List.idxOf_append, if_pos h]
theorem plc_last {L : List Int} {x : Int} (h : x ∉ L) : plcL (L ++ [x]) x = (L.length : Int) := by
  unfold plcL
  rw [if_pos (by simp), List.idxOf_append, if_neg h, List.idxOf_cons_self]
  simp
theorem fair_put (L : List Int) (room y x : Int) : FairI L (putF L room y).1 x := by
  unfold putF
  split
  · exact fair_same L x
  · split
    · exact fair_same L x
    · by_cases h : x ∈ L
      · refine ⟨fun _ => by rw [plc_append h]; exact Int.le_refl _, fun h1 => ?_⟩
        have := plc_ge.2 h
        omega
      · refine ⟨fun h1 => absurd (plc_ge.1 h1) h, fun _ h2 => ?_⟩
        have hm := plc_ge.1 h2
        have hx : x = y := by
          rcases List.mem_append.1 hm with h3 | h3
          · exact absurd h3 h
          · exact List.mem_singleton.1 h3
        subst hx
        show plcL (L ++ [x]) x = ((L ++ [x]).length : Int) - 1
        rw [plc_last h, List.length_append]
        simp
theorem put_nodup {L : List Int} (h : L.Nodup) (room y : Int) : (putF L room y).1.Nodup := by
  unfold putF
  split
  · exact h
  · rename_i hn
    split
    · exact h
    · exact List.nodup_append.2 ⟨h, by simp, fun a ha b hb e => hn (by rw [List.mem_singleton.1 hb] at e; exact e ▸ ha)⟩
theorem fair_take {L : List Int} (h : L.Nodup) (x : Int) : FairI L (L.drop 1) x := by
  cases L with
  | nil => exact fair_same [] x
  | cons z t =>
    have hz := List.nodup_cons.1 h
    show FairI (z :: t) t x
    unfold FairI
    rw [plc_cons]
    by_cases e : z = x
    · subst e
      rw [if_pos rfl, plc_none hz.1]
      exact ⟨fun _ => by omega, fun h => by omega⟩
    · rw [if_neg e]
      by_cases h2 : x ∈ t
      · rw [if_pos h2]
        have := plc_ge.2 h2
        exact ⟨fun _ => by omega, fun h => by omega⟩
      · rw [if_neg h2, plc_none h2]
        exact ⟨fun h => by omega, fun _ h => by omega⟩
theorem take_head (z : Int) (t : List Int) (x : Int) : (z == x) = (plcL (z :: t) x == 0) := by
  rw [plc_cons]
  by_cases e : z = x
  · rw [if_pos e, e]; simp
  · rw [if_neg e]
    rw [beq_noI e]
    refine (beq_noI ?_).symm
    by_cases h2 : x ∈ t
    · rw [if_pos h2]
      have := plc_ge.2 h2
      omega
    · rw [if_neg h2]
      omega
theorem fair_drop (x y : Int) : ∀ L : List Int, FairI L (dropF L y) x := fun L => by
  by_cases h : x ∈ L
  · refine ⟨fun _ => ?_, fun h1 => by have := plc_ge.2 h; omega⟩
    induction L with
    | nil => cases h
    | cons z t ih =>
      have e1 : dropF (z :: t) y = if z = y then dropF t y else z :: dropF t y := by
        unfold dropF
        by_cases e : z = y <;> simp [e]
      rw [e1, plc_cons z t x]
      by_cases ez : z = y
      · rw [if_pos ez]
        by_cases ex : z = x
        · rw [if_pos ex]
          have : x ∉ dropF t y := fun hm => ((dropF_mem _ _ _).1 hm).2 (by rw [← ex, ez])
          rw [plc_none this]
          omega
        · have hxt : x ∈ t := by
            rcases List.mem_cons.1 h with e | e
            · exact absurd e.symm ex
            · exact e
          rw [if_neg ex, if_pos hxt]
          have := ih hxt (plc_ge.2 hxt)
          omega
      · rw [if_neg ez, plc_cons]
        by_cases ex : z = x
        · rw [if_pos ex, if_pos ex]
          exact Int.le_refl _
        · have hxt : x ∈ t := by
            rcases List.mem_cons.1 h with e | e
            · exact absurd e.symm ex
            · exact e
          rw [if_neg ex, if_neg ex, if_pos hxt]
          have := ih hxt (plc_ge.2 hxt)
          have h3 := plc_ge.2 hxt
          split <;> omega
  · have hn : x ∉ dropF L y := fun hm => h ((dropF_mem _ _ _).1 hm).1
    rw [FairI, plc_none h, plc_none hn]
    exact ⟨fun h => by omega, fun _ h => by omega⟩

/-- an act: its kind, its number -/
structure A18 where
  k : Int
  x : Int
deriving Inhabited
def csA18 (a : A18) : List Value := [.int .i64 a.k, .int .i64 a.x]
theorem csA18_len (a : A18) : (csA18 a).length = 2 := rfl

end Go.Proofs.Ytdoanlemoegikaa
