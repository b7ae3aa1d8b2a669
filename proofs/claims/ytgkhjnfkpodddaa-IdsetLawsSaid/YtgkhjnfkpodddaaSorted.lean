/- A list of numbers that the call has gathered, sorted and without repetitions: what the library's contracts give. -/
import Derived.Test.YtgkhjnfkpodddaaOwnInts
import Derived.Sort.Grow
import Derived.Sort.EncStr
import Derived.Lib.SlicesCompact
import Derived.Lib.RowBridge
namespace Go.Proofs.Ytgkhjnfkpodddaa
open Go.RowKit Go.Sort

/-! ### Lists that rise -/
theorem rise_ext : ∀ {l r : List Int}, l.Pairwise (· < ·) → r.Pairwise (· < ·) → (∀ m, m ∈ l ↔ m ∈ r) → l = r
  | [], [], _, _, _ => rfl
  | [], y :: r, _, _, h => absurd ((h y).2 (by simp)) (by simp)
  | x :: l, [], _, _, h => absurd ((h x).1 (by simp)) (by simp)
  | x :: l, y :: r, hl, hr, h => by
    rw [List.pairwise_cons] at hl hr
    have e : x = y := by
      have h1 := (h x).1 (by simp)
      have h2 := (h y).2 (by simp)
      rw [List.mem_cons] at h1 h2
      rcases h1 with h1 | h1
      · exact h1
      · rcases h2 with h2 | h2
        · exact h2.symm
        · have := hl.1 _ h2
          have := hr.1 _ h1
          omega
    subst e
    have : l = r := rise_ext hl.2 hr.2 fun m => by
      have := h m
      rw [List.mem_cons, List.mem_cons] at this
      constructor
      · intro hm
        have h3 := hl.1 _ hm
        rcases this.1 (.inr hm) with rfl | h4
        · omega
        · exact h4
      · intro hm
        have h3 := hr.1 _ hm
        rcases this.2 (.inr hm) with rfl | h4
        · omega
        · exact h4
    rw [this]

theorem sorted_ms (zs : List Int) : (zs.mergeSort fun x y => decide (x ≤ y)).Pairwise (· ≤ ·) := by
  have := List.pairwise_mergeSort (le := fun x y : Int => decide (x ≤ y)) (fun a b c h1 h2 => by simp at *; omega) (fun a b => by simp; omega) zs
  exact this.imp fun h => by simpa using h

theorem compact_rise {zs : List Int} (h : zs.Pairwise (· ≤ ·)) : (Lib.compact zs).Pairwise (· < ·) := by
  unfold Lib.compact Lib.compactUpTo
  rw [List.pairwise_map]
  have h1 : (List.range zs.length).Pairwise (· < ·) := List.pairwise_lt_range
  have h2 := h1.filter (Lib.keeps zs.toArray)
  refine List.Pairwise.imp_of_mem (fun {i j} hi hj hij => ?_) h2
  have hjm := List.mem_filter.1 hj
  have hjl : j < zs.length := List.mem_range.1 hjm.1
  have hk := hjm.2
  unfold Lib.keeps at hk
  rw [decide_eq_true_eq] at hk
  rcases hk with hk | hk
  · omega
  · have g : ∀ a b, a ≤ b → b < zs.length → zs.toArray[a]! ≤ zs.toArray[b]! := by
      intro a b hab hb
      rcases Nat.lt_or_ge a b with hlt | hge
      · have := List.pairwise_iff_getElem.1 h a b (by omega) hb hlt
        simpa [getElem!_pos, show a < zs.length by omega, hb] using this
      · have : a = b := by omega
        subst this
        exact Int.le_refl _
    have h3 := g i (j - 1) (by omega) (by omega)
    have h4 := g (j - 1) j (by omega) hjl
    omega

theorem compact_mem (zs : List Int) (m : Int) : m ∈ Lib.compact zs ↔ m ∈ zs := by
  unfold Lib.compact Lib.compactUpTo
  rw [List.mem_map]
  constructor
  · rintro ⟨i, hi, rfl⟩
    have := List.mem_range.1 (List.mem_filter.1 hi).1
    simp [getElem!_pos, this]
  · intro hm
    obtain ⟨i, hi, rfl⟩ := List.getElem_of_mem hm
    have key : ∀ n, ∀ i (hi : i < zs.length), i < n → ∃ a, a ∈ (List.range zs.length).filter (Lib.keeps zs.toArray) ∧ zs.toArray[a]! = zs[i] := by
      intro n
      induction n with
      | zero => intro i hi h; omega
      | succ n ih =>
        intro i hi h
        by_cases hk : Lib.keeps zs.toArray i = true
        · exact ⟨i, List.mem_filter.2 ⟨List.mem_range.2 hi, hk⟩, by simp [getElem!_pos, hi]⟩
        · unfold Lib.keeps at hk
          rw [decide_eq_true_eq] at hk
          have h0 : i ≠ 0 := fun e => hk (.inl e)
          have h1 : zs.toArray[i]! = zs.toArray[i - 1]! := by
            by_cases e : zs.toArray[i]! = zs.toArray[i - 1]!
            · exact e
            · exact absurd (.inr e) hk
          obtain ⟨a, ha, he⟩ := ih (i - 1) (by omega) (by omega)
          refine ⟨a, ha, ?_⟩
          rw [he]
          simp [getElem!_pos, hi, show i - 1 < zs.length by omega] at h1
          exact h1.symm
    exact key (i + 1) i hi (by omega)

/-! ### In memory -/
theorem below_row {B blk off n : Nat} {a w : World} {d : Array Int} {os : Array Obj} (h : Below B a w) (hb : B ≤ blk) (hz : B ≤ w.heap.size) : Below B a (grow (putRow (Value.int .i64) (Sort.ahead w n) blk off d) os) := by
  refine h.trans ⟨rfl, rfl, rfl, by simp, fun k hk => ?_⟩
  rw [heap_grow_old _ _ (by simp; omega)]
  have : blk ≠ k := by omega
  simp [putRow, mapBlock, Sort.ahead, Array.getElem?_modify, this]
theorem below_row' {B blk off n : Nat} {a w : World} {d : Array Int} (h : Below B a w) (hb : B ≤ blk) (hz : B ≤ w.heap.size) : Below B a (putRow (Value.int .i64) (Sort.ahead w n) blk off d) := by
  have := below_row (n := n) (off := off) (d := d) (os := #[]) h hb hz
  rwa [grow_empty] at this
theorem ints_of_holds {w : World} {blk cap : Nat} {zs : List Int} {d : Array Int} (hH : Holds (Value.int .i64) w blk 0 d) (hb : blk < w.heap.size) (hd : ∀ j x, zs[j]? = some x → j < d.size ∧ d[j]! = x) (hc : zs.length ≤ cap) : IntsAt w (.slice (some ⟨blk, 0, none⟩) zs.length cap) zs := by
  refine ⟨_, cap, rfl, hc, fun _ => ⟨blk, 0, rfl, hb, fun j x hj => ?_⟩⟩
  obtain ⟨h1, h2⟩ := hd j x hj
  have := (hH j h1).1
  rw [h2] at this
  exact this
/-- a list that the call has gathered, of at least one -/
theorem OwnI.holds {w : World} {B : Nat} {v : Value} {l : List Int} (h : OwnI w B v l) (h0 : 0 < l.length) :
    ∃ g cap, v = .slice (some ⟨g, 0, none⟩) l.length cap ∧ B ≤ g ∧ g < w.heap.size ∧ l.length ≤ cap ∧ Holds (Value.int .i64) w g 0 l.toArray := by
  rcases h.2 with ⟨rfl, he⟩ | ⟨g, cap, cur, rfl, hg, hh, hnc, hcp, hcs, htake⟩
  · omega
  · refine ⟨g, cap, rfl, hg, (Array.getElem?_eq_some_iff.1 hh).1, hnc, fun j hj => ?_⟩
    have hj' : j < l.length := by simpa using hj
    refine ⟨?_, by simp [World.frozen?, hh]⟩
    have h1 := flats_at csI_len l j l[j] (List.getElem?_eq_getElem hj') 0 (.int .i64 l[j]) rfl
    rw [Nat.mul_one, Nat.add_zero, ← htake, List.getElem?_take_of_lt (by omega)] at h1
    simp only [World.cell?, hh, Nat.zero_add]
    simp [hj'] at h1 ⊢
    exact h1

/-- behind the sort and Compact -/
theorem ints_compact {w : World} {g cap n q : Nat} {os : Array Obj} {l : List Int} (hH : Holds (Value.int .i64) w g 0 l.toArray) (hg : g < w.heap.size) (hc : l.length ≤ cap) :
    IntsAt (putRow (Value.int .i64) (Sort.ahead (grow (putRow (Value.int .i64) (Sort.ahead w n) g 0 (l.mergeSort fun x y => decide (x ≤ y)).toArray) os) q) g 0 (Lib.compact (l.mergeSort fun x y => decide (x ≤ y)) ++ List.replicate ((l.mergeSort fun x y => decide (x ≤ y)).length - (Lib.compact (l.mergeSort fun x y => decide (x ≤ y))).length) 0).toArray)
      (.slice (some ⟨g, 0, none⟩) (Lib.compact (l.mergeSort fun x y => decide (x ≤ y))).length cap) (Lib.compact (l.mergeSort fun x y => decide (x ≤ y))) := by
  have hlen : (l.mergeSort fun x y => decide (x ≤ y)).length = l.length := List.length_mergeSort l
  generalize (l.mergeSort fun x y => decide (x ≤ y)) = s at *
  have hcl := Lib.compact_length_le s
  have H1 : Holds (Value.int .i64) (grow (putRow (Value.int .i64) (Sort.ahead w n) g 0 s.toArray) os) g 0 s.toArray :=
    holds_grow _ _ _ _ _ _ (by simpa using hg) (holds_putRow _ _ _ _ l.toArray _ (holds_ahead _ _ _ _ _ _ hH) (by simpa using hlen))
  have H2 := holds_putRow (Value.int .i64) (Sort.ahead (grow (putRow (Value.int .i64) (Sort.ahead w n) g 0 s.toArray) os) q) g 0 s.toArray (Lib.compact s ++ List.replicate (s.length - (Lib.compact s).length) 0).toArray (holds_ahead _ _ _ _ _ _ H1) (by simp; omega)
  refine ints_of_holds H2 (by simp; omega) (fun j x hj => ?_) (by omega)
  have hjl := (List.getElem?_eq_some_iff.1 hj).1
  refine ⟨by simp; omega, ?_⟩
  rw [getElem!_pos _ _ (by simp; omega)]
  rw [List.getElem?_eq_getElem hjl] at hj
  simp [List.getElem_append_left hjl]
  exact Option.some.inj hj
theorem holds_sorted {w : World} {g n : Nat} {os : Array Obj} {l : List Int} (hH : Holds (Value.int .i64) w g 0 l.toArray) (hg : g < w.heap.size) :
    Holds (Value.int .i64) (grow (putRow (Value.int .i64) (Sort.ahead w n) g 0 (l.mergeSort fun x y => decide (x ≤ y)).toArray) os) g 0 (l.mergeSort fun x y => decide (x ≤ y)).toArray :=
  holds_grow _ _ _ _ _ _ (by simpa using hg) (holds_putRow _ _ _ _ l.toArray _ (holds_ahead _ _ _ _ _ _ hH) (by simp))
end Go.Proofs.Ytgkhjnfkpodddaa
