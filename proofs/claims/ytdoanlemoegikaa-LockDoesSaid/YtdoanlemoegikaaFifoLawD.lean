/- The law FifoDoes, over the program's contracts as one structure. Written by wip/tools/gen_fifodoes.py. -/
import Derived.Test.YtdoanlemoegikaaFifoLawF
import Derived.Test.YtdoanlemoegikaaLks
import Derived.Test.YtdoanlemoegikaaSatRef
import Derived.Deep.CutBlock
namespace Go.Proofs.Ytdoanlemoegikaa
open Go.RowKit

theorem clip_is (n : Int) : iclip n 0 1024 = clipF n := by unfold iclip clipF; split <;> omega
/-- the list without its first number, as the model cuts it -/
theorem from18 (a : Option Addr) (n c : Nat) (hk : 1 ≤ n) (hn : n ≤ c) : ∃ a4 c4, (∀ w', (Instr.sliceAt 26 (.slice a n c) (some (.int .i64 1)) none none).run Try.prog w' = .ok (.slice a4 (n - 1) c4) w') ∧
    (∀ (w' : World) (l : List Int), l.length = n → RowsAt w' 1 csI (.slice a n c) l → RowsAt w' 1 csI (.slice a4 (n - 1) c4) (l.drop 1)) ∧ ∀ k, (Value.slice a4 (n - 1) c4).ownBlock = some k → (Value.slice a n c).ownBlock = some k := by
  have h1 : (1 : Int) ≤ (n : Int) := by omega
  by_cases hck : c = 1
  · have hc0 : n = 1 := by omega
    refine ⟨a, 0, fun w' => ?_, fun w' l hl h => ?_, fun k h => by cases a <;> simp [Value.ownBlock] at h ⊢; exact h⟩
    · simp [go_sem, hck, hc0, sliced]
    · have := restAt13 h 1 (by omega) a (fun h => by omega)
      rwa [hck, Nat.sub_self] at this
  · refine ⟨a.map (fun x => x.add 1), c - 1, fun w' => ?_, fun w' l hl h => ?_, fun k h => ?_⟩
    · simp [go_sem, sliced, h1]
      exact fun h => absurd h hck
    · exact restAt13 h 1 (by omega) _ (fun _ g o e => by subst e; simp [Addr.add])
    · cases a with
      | none => simp [Value.ownBlock] at h
      | some a => simpa [Value.ownBlock, Addr.add] using h
/-- what holds between two acts -/
abbrev Does18 (C : FifoProg) (w wx : World) (p v : Value) (n : Int) (L : List Int) (bs : List Bes) : Prop := SideG C.obj w wx p ⟨n, L⟩ (Bes.rows 1 csI v L :: bs)
def All18 (L : List Int) (k : Nat) : Prop := L.length ≤ k ∧ ∀ y ∈ L, In18 y
theorem All18.put {L : List Int} {k : Nat} (h : All18 L k) (n x : Int) (hx : In18 x) : All18 (putF L n x).1 (k + 1) := by
  refine ⟨Nat.le_trans (putF_len L n x) (by have := h.1; omega), fun y hy => ?_⟩
  unfold putF at hy
  split at hy
  · exact h.2 y hy
  · split at hy
    · exact h.2 y hy
    · rcases List.mem_append.1 hy with hy | hy
      · exact h.2 y hy
      · rw [List.mem_singleton.1 hy]; exact hx
theorem All18.tail {L : List Int} {k : Nat} (h : All18 L k) : All18 (L.drop 1) (k + 1) := ⟨by rw [List.length_drop]; have := h.1; omega, fun y hy => h.2 y (List.mem_of_mem_drop hy)⟩
theorem All18.drop {L : List Int} {k : Nat} (h : All18 L k) (x : Int) : All18 (dropF L x) (k + 1) := ⟨Nat.le_trans (dropF_len L x) (by have := h.1; omega), fun y hy => h.2 y ((dropF_mem _ _ _).1 hy).1⟩
theorem All18.same {L : List Int} {k : Nat} (h : All18 L k) : All18 L (k + 1) := ⟨by have := h.1; omega, h.2⟩

/-- the round's end, behind the act: the function's own statement -/
def rightC18 : Code → Code | .seq _ y => y | c => c
def leftC18 : Code → Code | .seq x _ => x | c => c
def inC18 : Code → Code | .block _ c => c | .loop c => c | c => c
end Go.Proofs.Ytdoanlemoegikaa
