/- Stage 14: the document's Order and Sort. -/
import Derived.Test.YtkhnkhkpjgemkaaAgeRefB
namespace Go.Proofs.Ytkhnkhkpjgemkaa
open Go.RowKit

abbrev ItAt (w : World) (v : Value) (l : List It) : Prop := RowsAt w 4 csI4 v l
abbrev OwnIt (w : World) (B : Nat) (v : Value) (l : List It) : Prop := OwnR w B 28 4 csI4 v l
theorem info_it : (Try.prog.info? 28).map (fun i => (i.zero, i.size, i.bytes)) = some (some (.agg #[.int .i64 0, .int .i64 0, .int .i64 0, .int .i64 0]), 4, 32) := by kernel_rfl
theorem ItAt.at {w : World} {v : Value} {l : List It} (h : ItAt w v l) (k : Nat) (hk : k < l.length) :
    ∃ g o c, v = .slice (some ⟨g, o, none⟩) l.length c ∧ l.length ≤ c ∧ g < w.heap.size ∧ w.cell? ⟨g, o + k * 4, none⟩ = some (.int .i64 l[k].id) ∧ w.cell? ⟨g, o + k * 4 + 1, none⟩ = some (.int .i64 l[k].prio) ∧ w.cell? ⟨g, o + k * 4 + 2, none⟩ = some (.int .i64 l[k].since) ∧ w.cell? ⟨g, o + k * 4 + 3, none⟩ = some (.int .i64 l[k].seq) := by
  obtain ⟨g, o, c, e, hc, hg, hx⟩ := h.spot k hk
  exact ⟨g, o, c, e, hc, hg, hx 0 _ rfl, hx 1 _ rfl, hx 2 _ rfl, hx 3 _ rfl⟩
theorem oneIt (w : World) (x : It) : ItAt (w.alloc (.cells #[.int .i64 x.id, .int .i64 x.prio, .int .i64 x.since, .int .i64 x.seq] 28)) (.slice (some ⟨w.heap.size, 0, none⟩) 1 1) [x] := by
  refine ⟨_, 1, rfl, Nat.le_refl _, fun _ => ⟨w.heap.size, 0, rfl, by simp, fun j y hj i u hu => ?_⟩⟩
  have h0 : j = 0 ∧ y = x := by
    cases j with
    | zero => simp at hj; exact ⟨rfl, hj.symm⟩
    | succ j => simp at hj
  obtain ⟨rfl, rfl⟩ := h0
  have hB := Blk.new w [.int .i64 y.id, .int .i64 y.prio, .int .i64 y.since, .int .i64 y.seq] 28
  rcases i with _ | _ | _ | _ | i
  · simp [csI4] at hu; subst hu; exact hB.cell 0 rfl
  · simp [csI4] at hu; subst hu; exact hB.cell 1 rfl
  · simp [csI4] at hu; subst hu; exact hB.cell 2 rfl
  · simp [csI4] at hu; subst hu; exact hB.cell 3 rfl
  · simp [csI4] at hu
theorem stayA_step (x : It) (l : List It) (now rate : Int) (k : Nat) (hk : k < l.length) : stayA x l now rate (k + 1) = if ahA x l[k] now rate then stayA x l now rate k else k + 1 := by
  show (match l[k]? with | some y => if ahA x y now rate then stayA x l now rate k else k + 1 | none => k + 1) = _
  rw [List.getElem?_eq_getElem hk]

/-- the front of a list, as the model cuts it -/
theorem upto14 (a : Option Addr) (n c k : Nat) (hk : k ≤ c) (w' : World) : (Instr.sliceAt 22 (.slice a n c) none (some (.int .i64 (k : Int))) none).run Try.prog w' = .ok (.slice a k c) w' := by
  have h1 : (k : Int) ≤ (c : Int) := by omega
  simp [go_sem, sliced, h1]
/-- what is behind the first k -/
theorem from14 (a : Option Addr) (n c k : Nat) (hk : k ≤ n) (hn : n ≤ c) : ∃ a4 c4, (∀ w', (Instr.sliceAt 22 (.slice a n c) (some (.int .i64 (k : Int))) none none).run Try.prog w' = .ok (.slice a4 (n - k) c4) w') ∧ ∀ (w' : World) (l : List It), l.length = n → ItAt w' (.slice a n c) l → ItAt w' (.slice a4 (n - k) c4) (l.drop k) := by
  have h1 : (k : Int) ≤ (n : Int) := by omega
  by_cases hck : c = k
  · have hc0 : n = k := by omega
    refine ⟨a, 0, fun w' => ?_, fun w' l hl h => ?_⟩
    · simp [go_sem, hck, hc0, sliced]
    · have := restAt13 h k (by omega) a (fun h => by omega)
      rwa [hck, Nat.sub_self] at this
  · refine ⟨a.map (fun x => x.add (k * 4)), c - k, fun w' => ?_, fun w' l hl h => ?_⟩
    · simp [go_sem, sliced, h1]
      exact fun h => absurd h hck
    · exact restAt13 h k (by omega) _ (fun _ g o e => by subst e; simp [Addr.add])

end Go.Proofs.Ytkhnkhkpjgemkaa
