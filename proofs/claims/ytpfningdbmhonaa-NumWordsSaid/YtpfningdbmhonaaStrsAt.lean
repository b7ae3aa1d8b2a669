/- Lists of texts in memory: what a slice holds, and what the call itself gathers. -/
import Derived.Test.YtpfningdbmhonaaTake
import Derived.SliceStrings
import Derived.WideShapes
namespace Go.Proofs.Ytpfningdbmhonaa
open Go.RowKit

/-- A slice that reads as these texts. -/
def StrsAt (w : World) (v : Value) (ws : List ByteArray) : Prop :=
  ∃ a cap, v = .slice a ws.length cap ∧ ws.length ≤ cap ∧ (0 < ws.length → ∃ g o, a = some ⟨g, o, none⟩ ∧ g < w.heap.size ∧ ∀ j x, ws[j]? = some x → w.cell? ⟨g, o + j, none⟩ = some (.string x))

theorem StrsAt.nil (w : World) : StrsAt w (.slice none 0 0) [] := ⟨none, 0, rfl, Nat.le_refl _, fun h => absurd h (by simp)⟩

theorem StrsAt.below {w w' : World} {v : Value} {ws : List ByteArray} (h : StrsAt w v ws) (hb : Below w.heap.size w w') : StrsAt w' v ws := by
  obtain ⟨a, cap, e, hc, h⟩ := h
  refine ⟨a, cap, e, hc, fun h0 => ?_⟩
  obtain ⟨g, o, e1, hg, hx⟩ := h h0
  exact ⟨g, o, e1, Nat.lt_of_lt_of_le hg hb.size, fun j x hj => (hb.cell (p := ⟨g, o + j, none⟩) hg).trans (hx j x hj)⟩

theorem StrsAt.of_owns {w : World} {B : Nat} {v : Value} {ws : List ByteArray} {e : TypeId} (h : w.ownsRow B e 1 v ws.length (ws.map Value.string)) : StrsAt w v ws := by
  have h' := h
  rcases h.2 with ⟨rfl, h0⟩ | ⟨g, cap, cur, rfl, hg, hh, hnc, hcp, hcs, htake⟩
  · rw [List.eq_nil_of_length_eq_zero h0]
    exact StrsAt.nil w
  · refine ⟨_, cap, rfl, hnc, fun h0 => ⟨g, 0, rfl, lt_of_block hh, fun j x hj => ?_⟩⟩
    have hjl : j < ws.length := (List.getElem?_eq_some_iff.1 hj).1
    rw [Nat.zero_add, h'.cellAt j (by omega), List.getElem?_map, hj]
    rfl

theorem StrsAt.of_open {w : World} {a : Addr} {len cap : Nat} {ss : List ByteArray} (hl : len ≤ cap) (hn : len ≤ ss.length) (hcell : ∀ i, i < ss.length → w.cell? (a.add i) = some (.string (ss.getD i ByteArray.empty))) : StrsAt w (.slice (some a) len cap) (ss.take len) := by
  have hlen : (ss.take len).length = len := by rw [List.length_take]; omega
  refine ⟨some a, cap, by rw [hlen], by rw [hlen]; exact hl, fun h0 => ?_⟩
  rw [hlen] at h0
  have h1 := hcell 0 (by omega)
  obtain ⟨b, off, spot⟩ := a
  have hs : spot = none := by simpa [Addr.add] using World.cell?_spot h1
  subst hs
  refine ⟨b, off, rfl, ?_, ?_⟩
  · rcases Nat.lt_or_ge b w.heap.size with h | h
    · exact h
    · simp [World.cell?, Addr.add, Array.getElem?_eq_none h] at h1
  · intro j x hj
    have hjl : j < len := by have := (List.getElem?_eq_some_iff.1 hj).1; omega
    have h2 := hcell j (by omega)
    rw [List.getElem?_take_of_lt hjl] at hj
    rw [List.getD_eq_getElem?_getD, hj] at h2
    have ha : (⟨b, off, none⟩ : Addr).add j = ⟨b, off + j, none⟩ := by rcases j with _ | j <;> simp [Addr.add]
    rw [ha] at h2
    exact h2

theorem cells_string : Try.prog.cellsOf 9 = 1 := by kernel_rfl

theorem open_strs {H : Type} {enc : TypeId × Value → H} {w : World} {base : Nat} {v : Value} {d : DataW H} {p : List MemPlace} (hok : Value.okWide Try.prog w .any base 32 v) (h : DataW.Trod enc Try.prog w 0 (fun _ => true) true 32 v d p) :
    ∃ l, StrsAt w v l ∧ l.length ≤ 9223372036854775807 ∧ ∀ x ∈ l, x.size ≤ 9223372036854775807 := by
  obtain ⟨a, len, cap, rfl⟩ := Go.WideShapes.okWide_slice Try.underlying32 hok
  obtain ⟨fuel, hf⟩ := h
  rcases Go.ChangeShapes.open_strings Try.underlying32 Try.underlying9 cells_string hf with ⟨hcs, _⟩ | ⟨x, l, c, ss, hcs, _, hl, hm, hz, _, hcell, hws⟩
  · simp [Value.cells] at hcs
    obtain ⟨rfl, rfl, rfl⟩ := hcs
    exact ⟨[], StrsAt.nil _, by simp, by simp⟩
  · simp [Value.cells] at hcs
    obtain ⟨rfl, rfl, rfl⟩ := hcs
    have hz' : ss.length = cap := by simpa using hz
    refine ⟨ss.take len, StrsAt.of_open hl (by omega) hcell, ?_, fun y hy => ?_⟩
    · rw [List.length_take]
      unfold maxLen at hm
      omega
    · have := hws y (List.mem_of_mem_take hy)
      unfold maxLen at this
      exact this

theorem shaped_below {P : Program} {w w' : World} (h : w.ShapedOpen P) (hb : Below w.heap.size w w') : w'.ShapedOpen P :=
  h.keptBut (hb.frame (fun _ => False)) (fun _ h => h.elim)

/-- A captured variable that holds a slice of texts of the call's own. -/
def HoldsStrs (B : Nat) (ws : List ByteArray) (w : World) : Prop :=
  ∃ v, w.heap[B]? = some (.cells #[v] 32 (0, 0)) ∧ w.ownsRow (B + 1) 9 1 v ws.length (ws.map Value.string)

theorem HoldsStrs.drewN {B : Nat} {ws : List ByteArray} {w : World} (h : HoldsStrs B ws w) (n : Nat) : HoldsStrs B ws (w.drewN n) := by
  induction n with
  | zero => exact h
  | succ n ih =>
    obtain ⟨v, h1, h2⟩ := ih
    exact ⟨v, h1, h2.drew⟩

theorem info_string : (Try.prog.info? 9).map (fun i => (i.zero, i.size, i.bytes)) = some (some (.string ByteArray.empty), 1, 16) := by kernel_rfl

set_option maxHeartbeats 400000 in
theorem words1_any (s : ByteArray) (B : Nat) (ws : List ByteArray) (w : World) (h : HoldsStrs B ws w) (hl : ws.length ≤ 1000000) :
    Calls Try.prog 25 #[.string s, .pointer (some ⟨B, 0, none⟩)] w fun e w' => e = .returned (.tuple #[]) ∧ HoldsStrs B (ws ++ [s]) w' ∧ Below B w w' := by
  obtain ⟨v, hv, hown⟩ := h
  have cW := cell_of_one hv
  have fW := free_of_one hv
  obtain ⟨i0, hi, hz0, hz1, hz2⟩ := info_parts info_string
  have hlt := lt_of_block hv
  go_enter Try.func25, Try.ntmps25
  go_wp2_with (at_builtin; refine wpList_append_own _ rfl _ _ 32 rfl (B + 1) 9 i0 (.string ByteArray.empty) 1 16 Try.underlying32 hi hz0 hz1 hz2 rfl (by decide) _ _ _ rfl (hown.alloc _) ⟨w.heap.size, 0, none⟩ 1 1 [.string s] rfl rfl ?c1 ?c2 ?c3 ?c4 ?c5 ?_)
  case c1 =>
    intro j u hj
    match j, hj with
    | 0, hj => simp at hj; subst hj; simp [Addr.add]
  case c2 => intro u hu; simp at hu; subst hu; rfl
  case c3 => unfold maxLen; omega
  case c4 => omega
  case c5 => simp; omega
  intro v' w1 hown1 hgrow1 _
  have hv1 : w1.heap[B]? = some (.cells #[v] 32 (0, 0)) := by
    rw [hgrow1.block B (by simp; omega) (fun e => by
      rcases hown.2 with ⟨rfl, _⟩ | ⟨g, cap, cur, rfl, hg, _⟩
      · simp [Value.ownBlock] at e
      · simp [Value.ownBlock] at e
        omega)]
    rw [Below.heap_alloc _ _ _ hlt]
    exact hv
  have cW1 := cell_of_one hv1
  have fW1 := free_of_one hv1
  have hbel : Below B w w1 := ((Below.refl B w).alloc (by omega) _).grown hgrow1 (by simp; omega) (fun k hk => by
    rcases hown.2 with ⟨rfl, _⟩ | ⟨g, cap, cur, rfl, hg, _⟩
    · simp [Value.ownBlock] at hk
    · simp [Value.ownBlock] at hk
      omega)
  have hex : ∃ g cap, v' = .slice (some ⟨g, 0, none⟩) (ws.length + 1) cap ∧ B + 1 ≤ g := by
    rcases hown1.2 with ⟨_, h0⟩ | ⟨g, cap, cur, e, hg, _⟩
    · omega
    · exact ⟨g, cap, e, hg⟩
  obtain ⟨g, cap, rfl, hg⟩ := hex
  clear hgrow1
  go_wp2
  go_end0
  refine ⟨rfl, ⟨_, one_setCell hv1, ?_⟩, hbel.setCell (Nat.le_refl _) _⟩
  rw [List.length_append, List.map_append]
  exact ownsRow_setCell_other hown1 (by simp [Value.ownBlock]; omega) _
end Go.Proofs.Ytpfningdbmhonaa
