/- Texts of this proof, joined: WaRefD; WaRefE; WaRefF; Sorted; IsMath; IsA; IsB; IsC; IsD; IsE. -/
import Derived.Test.YtjmgokjljmmmgaaGreatBun8
import Derived.Sort.Grow
import Derived.Sort.EncStr
import Derived.Lib.SlicesCompact
import Derived.Lib.RowBridge
import Derived.Shelf.Abstract
import Derived.Deep.AppendLies
import Derived.Deep.DeepCutAuto
/- Stage 21: the document's lock. -/
namespace Go.Proofs.YtjmgokjljmmmgaaGreat
open Go.RowKit

theorem leaseSpot {w : World} {v : Value} {Xs : List Le} (h : LeasesAt w v Xs) (hn : (Xs.map Le.token).Nodup) (Ls : List Lr) {t : Int} (ht : t ∈ Xs.map Le.token) :
    ∃ (y : Le) (q g o c : Nat), y ∈ Xs ∧ y.token = t ∧ plcL (Xs.map Le.token) t = (q : Int) ∧ q < Xs.length ∧ v = .slice (some ⟨g, o, none⟩) Xs.length c ∧ w.cell? ⟨g, o + q * 7 + 5, none⟩ = some (.int .i64 y.got) ∧ w.cell? ⟨g, o + q * 7 + 6, none⟩ = some (.slice y.a y.want.length y.c) ∧ IntsAt w (.slice y.a y.want.length y.c) y.want ∧ (mkT Ls Xs).got t = y.got.toNat ∧ (mkT Ls Xs).want t = y.want := by
  obtain ⟨p1, p2, p3⟩ := plc_at ht
  have hl : (Xs.map Le.token).idxOf t < Xs.length := by simpa using p2
  obtain ⟨g, o, c, e, _, _, _, _, _, _, _, q5, q6⟩ := leaseAt h.rows _ hl
  have hy : Xs[(Xs.map Le.token).idxOf t].token = t := by
    rw [List.getElem?_map, List.getElem?_eq_getElem hl] at p3
    exact Option.some.inj p3
  have hm := List.getElem_mem hl
  have h2 := mk_seat (Ls := Ls) hn hm
  rw [hy] at h2
  exact ⟨_, _, g, o, c, hm, hy, p1, hl, e, q5, q6, h.each _ hm, h2.1, h2.2⟩
def waitP (T : Tb) (id : Int) (L : List Int) (t : Int) : Bool := inL T.toks t && (decide (cntL L t = 1) && decide (T.nx t = some id))
theorem nodup_cnt (L : List Int) : L.Nodup ↔ ∀ t ∈ L, cntL L t = 1 := by
  have h : ∀ t, cntL L t = L.count t := fun t => by
    unfold cntL
    rw [← List.countP_eq_length_filter]
    rfl
  constructor
  · intro hn t ht
    rw [h t]
    have h1 := List.nodup_iff_count.1 hn t
    have h2 := List.count_pos_iff.2 ht
    omega
  · intro hc
    rw [List.nodup_iff_count]
    intro a
    by_cases ha : a ∈ L
    · rw [← h a, hc a ha]
      exact Nat.le_refl _
    · rw [List.count_eq_zero_of_not_mem ha]
      omega
theorem waitP_all (T : Tb) (id : Int) (L : List Int) : (L.all fun t => waitP T id L t) = waitB T id [] L := by
  rw [Bool.eq_iff_iff, waitB_iff, List.all_eq_true]
  unfold waitP
  simp only [Bool.and_eq_true, decide_eq_true_eq, inL_iff20]
  constructor
  · intro h
    exact ⟨fun t ht => ⟨(h t ht).1, by simp, (h t ht).2.2⟩, (nodup_cnt L).2 fun t ht => (h t ht).2.1⟩
  · rintro ⟨h1, h2⟩ t ht
    exact ⟨(h1 t ht).1, (nodup_cnt L).1 h2 t ht, (h1 t ht).2.2⟩
theorem nx_mk {T : Tb} {t : Int} {j : Nat} {l : List Int} (h1 : T.got t = j) (h2 : T.want t = l) : T.nx t = l[j]? := by
  unfold Tb.nx
  rw [h1, h2]
end Go.Proofs.YtjmgokjljmmmgaaGreat
/- Stage 21: the document's Right. -/
namespace Go.Proofs.YtjmgokjljmmmgaaGreat
open Go.RowKit

theorem seatB_mk2 {Ls : List Lr} {Xs : List Le} (hn : (Xs.map Le.token).Nodup) {x : Le} (hx : x ∈ Xs) : seatB (mkT Ls Xs) x.token = seatV Ls x.token x.got.toNat x.want := by
  obtain ⟨h1, h2⟩ := mk_seat (Ls := Ls) hn hx
  unfold seatB seatV
  rw [h1, h2]
  rfl
/-- leases as the document goes through them -/
def lesD (Ls : List Lr) : Int → List Le → Bool
  | _, [] => true
  | last, x :: r => decide (last < x.token) && (leaseB Ls x && lesD Ls x.token r)
theorem lesD_drop {Ls : List Lr} {Xs : List Le} {k : Nat} (hk : k < Xs.length) (last : Int) : lesD Ls last (Xs.drop k) = (decide (last < Xs[k].token) && (leaseB Ls Xs[k] && lesD Ls Xs[k].token (Xs.drop (k + 1)))) := by
  rw [List.drop_eq_getElem_cons hk]
  rfl
theorem lesD_iff (Ls : List Lr) : ∀ (Xs : List Le) (last : Int), lesD Ls last Xs = true ↔ lesW last Xs = true ∧ ∀ x ∈ Xs, seatV Ls x.token x.got.toNat x.want = true
  | [], _ => by simp [lesD, lesW]
  | x :: r, last => by
    show (decide (last < x.token) && (leaseB Ls x && lesD Ls x.token r)) = true ↔ _
    rw [lesW_cons, Bool.and_eq_true, Bool.and_eq_true, lesD_iff Ls r x.token]
    unfold leaseB
    simp only [Bool.and_eq_true, decide_eq_true_eq, List.mem_cons, forall_eq_or_imp]
    constructor
    · rintro ⟨h1, ⟨h2, h3, h4, h5⟩, h6, h7⟩
      exact ⟨⟨h1, h2, h3, h4, h6⟩, h5, h7⟩
    · rintro ⟨⟨h1, h2, h3, h4, h6⟩, h5, h7⟩
      exact ⟨h1, ⟨h2, h3, h4, h5⟩, h6, h7⟩
theorem lesD_eq (Ls : List Lr) (Xs : List Le) : lesD Ls 0 Xs = (lesW 0 Xs && seatsW Xs Ls) := by
  rw [Bool.eq_iff_iff, lesD_iff, Bool.and_eq_true]
  unfold seatsW
  rw [List.all_eq_true]
  constructor
  · rintro ⟨h1, h2⟩
    have hn := ris_nodup (lesW_ris Xs 0 h1).2
    refine ⟨h1, fun t ht => ?_⟩
    obtain ⟨x, hx, rfl⟩ := List.mem_map.1 ht
    rw [seatB_mk2 hn hx]
    exact h2 x hx
  · rintro ⟨h1, h2⟩
    have hn := ris_nodup (lesW_ris Xs 0 h1).2
    refine ⟨h1, fun x hx => ?_⟩
    rw [← seatB_mk2 hn hx]
    exact h2 _ (List.mem_map_of_mem hx)
theorem rightW_eq (Xs : List Le) (Ls : List Lr) : rightW Xs Ls = (rightB (idsL Ls) && (lesD Ls 0 Xs && locksW Xs Ls)) := by
  unfold rightW
  rw [lesD_eq, Bool.and_assoc]
end Go.Proofs.YtjmgokjljmmmgaaGreat
/- Stage 21: the document's Arcs. -/
namespace Go.Proofs.YtjmgokjljmmmgaaGreat
open Go.RowKit

/-- a block of things, as a list -/
theorem rowsOf {α : Type} {cs : α → List Value} {K : Nat} (hK : ∀ x, (cs x).length = K) {w : World} {b : Nat} {e : TypeId} (l : List α) (hh : w.heap[b]? = some (.cells (flats cs l).toArray e)) : RowsAt w K cs (.slice (some ⟨b, 0, none⟩) l.length l.length) l := by
  have hb : b < w.heap.size := by
    rcases Nat.lt_or_ge b w.heap.size with h | h
    · exact h
    · rw [Array.getElem?_eq_none h] at hh
      cases hh
  refine ⟨_, l.length, rfl, Nat.le_refl _, fun _ => ⟨b, 0, rfl, hb, fun j x hj i u hu => ?_⟩⟩
  have h := flats_at hK l j x hj i u hu
  unfold World.cell?
  simp only [hh, Nat.zero_add]
  simpa using h
theorem csArc_one (x : Arc16) : ∀ u ∈ csArc x, u.oneCell' = true := by
  intro u hu
  simp [csArc] at hu
  rcases hu with rfl | rfl <;> rfl
theorem info_arc : (Tryz.prog.info? 54).map (fun i => (i.zero, i.size, i.bytes)) = some (some (.agg #[.int .i64 0, .int .i64 0]), 2, 16) := by kernel_rfl
theorem awX_none {Ls : List Lr} {x : Le} (h : nxX x = none) : awX Ls x = none := by
  unfold awX
  rw [h]
  rfl
theorem awX_some {Ls : List Lr} {x : Le} {id : Int} (h : nxX x = some id) : awX Ls x = lkF Ls id := by
  unfold awX
  rw [h]
  rfl
/-- for which lock a lease waits: nobody's, or the one at a place -/
theorem wt_cases (Ls : List Lr) (x : Le) : (wtI Ls x = -1 ∧ awX Ls x = none) ∨ ∃ id, id ∈ idsL Ls ∧ wtI Ls x = plcL (idsL Ls) id ∧ awX Ls x = lkF Ls id := by
  cases h : nxX x with
  | none => exact .inl ⟨by unfold wtI; rw [h], awX_none h⟩
  | some id =>
    by_cases hi : id ∈ idsL Ls
    · exact .inr ⟨id, hi, by unfold wtI; rw [h], awX_some h⟩
    · exact .inl ⟨by unfold wtI; rw [h]; exact plc_none hi, (awX_some h).trans (lkF_none hi)⟩
end Go.Proofs.YtjmgokjljmmmgaaGreat
/- A list of numbers that the call has gathered, sorted and without repetitions: what the library's contracts give. -/
namespace Go.Proofs.YtjmgokjljmmmgaaGreat
open Go.RowKit Go.Sort

/-! ### Lists that rise -/
theorem rise_ext : ∀ {l r : List Int}, l.Pairwise (· < ·) → r.Pairwise (· < ·) → (∀ m, m ∈ l ↔ m ∈ r) → l = r
  | [], [], _, _, _ => rfl
  | [], y :: r, _, _, h => absurd ((h y).2 (by simp)) (by simp)
  | x :: l, [], _, _, h => absurd ((h x).1 (by simp)) (by simp)
  | x :: l, y :: r, hl, hr, h => by
    rw [List.pairwise_cons] at hl hr
    have e : x = y := by
      have h1 := (h x).1 (by simp)
      have h2 := (h y).2 (by simp)
      rw [List.mem_cons] at h1 h2
      rcases h1 with h1 | h1
      · exact h1
      · rcases h2 with h2 | h2
        · exact h2.symm
        · have := hl.1 _ h2
          have := hr.1 _ h1
          omega
    subst e
    have : l = r := rise_ext hl.2 hr.2 fun m => by
      have := h m
      rw [List.mem_cons, List.mem_cons] at this
      constructor
      · intro hm
        have h3 := hl.1 _ hm
        rcases this.1 (.inr hm) with rfl | h4
        · omega
        · exact h4
      · intro hm
        have h3 := hr.1 _ hm
        rcases this.2 (.inr hm) with rfl | h4
        · omega
        · exact h4
    rw [this]

theorem sorted_ms (zs : List Int) : (zs.mergeSort fun x y => decide (x ≤ y)).Pairwise (· ≤ ·) := by
  have := List.pairwise_mergeSort (le := fun x y : Int => decide (x ≤ y)) (fun a b c h1 h2 => by simp at *; omega) (fun a b => by simp; omega) zs
  exact this.imp fun h => by simpa using h

theorem compact_rise {zs : List Int} (h : zs.Pairwise (· ≤ ·)) : (Lib.compact zs).Pairwise (· < ·) := by
  unfold Lib.compact Lib.compactUpTo
  rw [List.pairwise_map]
  have h1 : (List.range zs.length).Pairwise (· < ·) := List.pairwise_lt_range
  have h2 := h1.filter (Lib.keeps zs.toArray)
  refine List.Pairwise.imp_of_mem (fun {i j} hi hj hij => ?_) h2
  have hjm := List.mem_filter.1 hj
  have hjl : j < zs.length := List.mem_range.1 hjm.1
  have hk := hjm.2
  unfold Lib.keeps at hk
  rw [decide_eq_true_eq] at hk
  rcases hk with hk | hk
  · omega
  · have g : ∀ a b, a ≤ b → b < zs.length → zs.toArray[a]! ≤ zs.toArray[b]! := by
      intro a b hab hb
      rcases Nat.lt_or_ge a b with hlt | hge
      · have := List.pairwise_iff_getElem.1 h a b (by omega) hb hlt
        simpa [getElem!_pos, show a < zs.length by omega, hb] using this
      · have : a = b := by omega
        subst this
        exact Int.le_refl _
    have h3 := g i (j - 1) (by omega) (by omega)
    have h4 := g (j - 1) j (by omega) hjl
    omega

theorem compact_mem (zs : List Int) (m : Int) : m ∈ Lib.compact zs ↔ m ∈ zs := by
  unfold Lib.compact Lib.compactUpTo
  rw [List.mem_map]
  constructor
  · rintro ⟨i, hi, rfl⟩
    have := List.mem_range.1 (List.mem_filter.1 hi).1
    simp [getElem!_pos, this]
  · intro hm
    obtain ⟨i, hi, rfl⟩ := List.getElem_of_mem hm
    have key : ∀ n, ∀ i (hi : i < zs.length), i < n → ∃ a, a ∈ (List.range zs.length).filter (Lib.keeps zs.toArray) ∧ zs.toArray[a]! = zs[i] := by
      intro n
      induction n with
      | zero => intro i hi h; omega
      | succ n ih =>
        intro i hi h
        by_cases hk : Lib.keeps zs.toArray i = true
        · exact ⟨i, List.mem_filter.2 ⟨List.mem_range.2 hi, hk⟩, by simp [getElem!_pos, hi]⟩
        · unfold Lib.keeps at hk
          rw [decide_eq_true_eq] at hk
          have h0 : i ≠ 0 := fun e => hk (.inl e)
          have h1 : zs.toArray[i]! = zs.toArray[i - 1]! := by
            by_cases e : zs.toArray[i]! = zs.toArray[i - 1]!
            · exact e
            · exact absurd (.inr e) hk
          obtain ⟨a, ha, he⟩ := ih (i - 1) (by omega) (by omega)
          refine ⟨a, ha, ?_⟩
          rw [he]
          simp [getElem!_pos, hi, show i - 1 < zs.length by omega] at h1
          exact h1.symm
    exact key (i + 1) i hi (by omega)

/-! ### In memory -/
theorem below_row {B blk off n : Nat} {a w : World} {d : Array Int} {os : Array Obj} (h : Below B a w) (hb : B ≤ blk) (hz : B ≤ w.heap.size) : Below B a (grow (putRow (Value.int .i64) (Sort.ahead w n) blk off d) os) := by
  refine h.trans ⟨rfl, rfl, rfl, by simp, fun k hk => ?_⟩
  rw [heap_grow_old _ _ (by simp; omega)]
  have : blk ≠ k := by omega
  simp [putRow, mapBlock, Sort.ahead, Array.getElem?_modify, this]
theorem below_row' {B blk off n : Nat} {a w : World} {d : Array Int} (h : Below B a w) (hb : B ≤ blk) (hz : B ≤ w.heap.size) : Below B a (putRow (Value.int .i64) (Sort.ahead w n) blk off d) := by
  have := below_row (n := n) (off := off) (d := d) (os := #[]) h hb hz
  rwa [grow_empty] at this
theorem ints_of_holds {w : World} {blk cap : Nat} {zs : List Int} {d : Array Int} (hH : Holds (Value.int .i64) w blk 0 d) (hb : blk < w.heap.size) (hd : ∀ j x, zs[j]? = some x → j < d.size ∧ d[j]! = x) (hc : zs.length ≤ cap) : IntsAt w (.slice (some ⟨blk, 0, none⟩) zs.length cap) zs := by
  refine ⟨_, cap, rfl, hc, fun _ => ⟨blk, 0, rfl, hb, fun j x hj => ?_⟩⟩
  obtain ⟨h1, h2⟩ := hd j x hj
  have := (hH j h1).1
  rw [h2] at this
  exact this
/-- a list that the call has gathered, of at least one -/
theorem OwnI.holds {w : World} {B : Nat} {v : Value} {l : List Int} (h : OwnI w B v l) (h0 : 0 < l.length) :
    ∃ g cap, v = .slice (some ⟨g, 0, none⟩) l.length cap ∧ B ≤ g ∧ g < w.heap.size ∧ l.length ≤ cap ∧ Holds (Value.int .i64) w g 0 l.toArray := by
  rcases h.2 with ⟨rfl, he⟩ | ⟨g, cap, cur, rfl, hg, hh, hnc, hcp, hcs, htake⟩
  · omega
  · refine ⟨g, cap, rfl, hg, (Array.getElem?_eq_some_iff.1 hh).1, hnc, fun j hj => ?_⟩
    have hj' : j < l.length := by simpa using hj
    refine ⟨?_, by simp [World.frozen?, hh]⟩
    have h1 := flats_at csI_len l j l[j] (List.getElem?_eq_getElem hj') 0 (.int .i64 l[j]) rfl
    rw [Nat.mul_one, Nat.add_zero, ← htake, List.getElem?_take_of_lt (by omega)] at h1
    simp only [World.cell?, hh, Nat.zero_add]
    simp [hj'] at h1 ⊢
    exact h1

/-- behind the sort and Compact -/
theorem ints_compact {w : World} {g cap n q : Nat} {os : Array Obj} {l : List Int} (hH : Holds (Value.int .i64) w g 0 l.toArray) (hg : g < w.heap.size) (hc : l.length ≤ cap) :
    IntsAt (putRow (Value.int .i64) (Sort.ahead (grow (putRow (Value.int .i64) (Sort.ahead w n) g 0 (l.mergeSort fun x y => decide (x ≤ y)).toArray) os) q) g 0 (Lib.compact (l.mergeSort fun x y => decide (x ≤ y)) ++ List.replicate ((l.mergeSort fun x y => decide (x ≤ y)).length - (Lib.compact (l.mergeSort fun x y => decide (x ≤ y))).length) 0).toArray)
      (.slice (some ⟨g, 0, none⟩) (Lib.compact (l.mergeSort fun x y => decide (x ≤ y))).length cap) (Lib.compact (l.mergeSort fun x y => decide (x ≤ y))) := by
  have hlen : (l.mergeSort fun x y => decide (x ≤ y)).length = l.length := List.length_mergeSort l
  generalize (l.mergeSort fun x y => decide (x ≤ y)) = s at *
  have hcl := Lib.compact_length_le s
  have H1 : Holds (Value.int .i64) (grow (putRow (Value.int .i64) (Sort.ahead w n) g 0 s.toArray) os) g 0 s.toArray :=
    holds_grow _ _ _ _ _ _ (by simpa using hg) (holds_putRow _ _ _ _ l.toArray _ (holds_ahead _ _ _ _ _ _ hH) (by simpa using hlen))
  have H2 := holds_putRow (Value.int .i64) (Sort.ahead (grow (putRow (Value.int .i64) (Sort.ahead w n) g 0 s.toArray) os) q) g 0 s.toArray (Lib.compact s ++ List.replicate (s.length - (Lib.compact s).length) 0).toArray (holds_ahead _ _ _ _ _ _ H1) (by simp; omega)
  refine ints_of_holds H2 (by simp; omega) (fun j x hj => ?_) (by omega)
  have hjl := (List.getElem?_eq_some_iff.1 hj).1
  refine ⟨by simp; omega, ?_⟩
  rw [getElem!_pos _ _ (by simp; omega)]
  rw [List.getElem?_eq_getElem hjl] at hj
  simp [List.getElem_append_left hjl]
  exact Option.some.inj hj
theorem holds_sorted {w : World} {g n : Nat} {os : Array Obj} {l : List Int} (hH : Holds (Value.int .i64) w g 0 l.toArray) (hg : g < w.heap.size) :
    Holds (Value.int .i64) (grow (putRow (Value.int .i64) (Sort.ahead w n) g 0 (l.mergeSort fun x y => decide (x ≤ y)).toArray) os) g 0 (l.mergeSort fun x y => decide (x ≤ y)).toArray :=
  holds_grow _ _ _ _ _ _ (by simpa using hg) (holds_putRow _ _ _ _ l.toArray _ (holds_ahead _ _ _ _ _ _ hH) (by simp))
end Go.Proofs.YtjmgokjljmmmgaaGreat
/- Stage 17's program: plain mathematics of what is asked and told, one number behind the other. -/
namespace Go.Proofs.YtjmgokjljmmmgaaGreat

/-- one number behind the other is asked, till it is so of one -/
def runS {σ : Type} (f : σ → Int → σ × Bool) : σ → List Int → σ × Bool
  | s, [] => (s, false)
  | s, x :: l => if (f s x).2 then ((f s x).1, true) else runS f (f s x).1 l
theorem runS_cons {σ : Type} (f : σ → Int → σ × Bool) (s : σ) (x : Int) (l : List Int) : runS f s (x :: l) = if (f s x).2 then ((f s x).1, true) else runS f (f s x).1 l := rfl
theorem runS_no {σ : Type} (f : σ → Int → σ × Bool) (s : σ) (l : List Int) (k : Nat) (h : k < l.length) (hf : (f s l[k]).2 = false) : runS f s (l.drop k) = runS f (f s l[k]).1 (l.drop (k + 1)) := by
  rw [List.drop_eq_getElem_cons h, runS_cons, hf]
  simp
theorem runS_yes {σ : Type} (f : σ → Int → σ × Bool) (s : σ) (l : List Int) (k : Nat) (h : k < l.length) (hf : (f s l[k]).2 = true) : runS f s (l.drop k) = ((f s l[k]).1, true) := by
  rw [List.drop_eq_getElem_cons h, runS_cons, hf]
  simp
theorem runS_end {σ : Type} (f : σ → Int → σ × Bool) (s : σ) (l : List Int) : runS f s (l.drop l.length) = (s, false) := by
  rw [List.drop_length]
  rfl
theorem runS_each {σ : Type} (g : σ → Int → σ) : ∀ (l : List Int) (s : σ), runS (fun s x => (g s x, false)) s l = (l.foldl g s, false)
  | [], _ => rfl
  | x :: l, s => by
    have := runS_each g l (g s x)
    rw [runS_cons]
    simpa using this
theorem runS_any (p : Int → Bool) : ∀ (l : List Int), (runS (fun (_ : Unit) x => ((), p x)) () l).2 = l.any p
  | [] => rfl
  | x :: l => by
    have := runS_any p l
    rw [runS_cons]
    cases h : p x <;> simp_all
theorem any_in (l : List Int) (n : Int) : l.any (fun m => m == n) = inL l n := by
  unfold inL
  rw [Bool.eq_iff_iff, List.any_eq_true, decide_eq_true_iff]
  constructor
  · rintro ⟨x, h1, h2⟩
    have := eq_of_beq h2
    rwa [← this]
  · intro h
    exact ⟨n, h, by simp⟩
theorem any_not (a b : List Int) : (!a.any fun x => !inL b x) = withinB a b := by
  rw [Bool.eq_iff_iff, within_iff, List.not_any_eq_all_not, List.all_eq_true]
  constructor
  · intro h x hx
    have := h x hx
    rw [Bool.not_not] at this
    exact inL_iff.1 this
  · intro h x hx
    rw [Bool.not_not]
    exact inL_iff.2 (h x hx)
/-- does it not rise -/
def rgt (a n : Int) : Int × Bool := (n, !decide (a < n))
theorem ris_two {a x : Int} {l : List Int} : risL (a :: x :: l) ↔ a < x ∧ risL (x :: l) := by
  unfold risL
  rw [List.pairwise_cons]
  constructor
  · rintro ⟨h1, h2⟩
    exact ⟨h1 x (by simp), h2⟩
  · rintro ⟨h1, h2⟩
    refine ⟨fun y hy => ?_, h2⟩
    rcases List.mem_cons.1 hy with rfl | hy
    · exact h1
    · have := (List.pairwise_cons.1 h2).1 y hy
      omega
theorem runS_right : ∀ (l : List Int) (a : Int), (runS rgt a l).2 = !rightB (a :: l)
  | [], a => by
    have : risL [a] := List.pairwise_singleton _ _
    simp [runS, rightB, this]
  | x :: l, a => by
    have ih := runS_right l x
    rw [runS_cons]
    show (if (!decide (a < x)) = true then (x, true) else runS rgt x l).2 = _
    by_cases h : a < x
    · have e : rightB (a :: x :: l) = rightB (x :: l) := by
        unfold rightB
        exact decide_eq_decide.2 (ris_two.trans (and_iff_right h))
      rw [e, ← ih]
      simp [h]
    · have e : rightB (a :: x :: l) = false := by
        unfold rightB
        exact decide_eq_false fun hr => h (ris_two.1 hr).1
      rw [e]
      simp [h]
/-- the least above n of those that were told -/
def abS (n : Int) (s : Int × Bool) (m : Int) : Int × Bool := if n < m ∧ (s.2 = false ∨ m < s.1) then (m, true) else s
def AbI (n : Int) (p : List Int) (s : Int × Bool) : Prop := (s = (0, false) ∧ ∀ x ∈ p, x ≤ n) ∨ (s.2 = true ∧ s.1 ∈ p ∧ n < s.1 ∧ ∀ x ∈ p, n < x → s.1 ≤ x)
theorem AbI.step {n : Int} {p : List Int} {s : Int × Bool} (h : AbI n p s) (m : Int) : AbI n (p ++ [m]) (abS n s m) := by
  unfold abS
  obtain ⟨a, b⟩ := s
  by_cases hc : n < m ∧ (b = false ∨ m < a)
  · rw [if_pos hc]
    refine .inr ⟨rfl, by simp, hc.1, fun x hx hn => ?_⟩
    rcases List.mem_append.1 hx with hx | hx
    · rcases h with ⟨e, h⟩ | ⟨e, h1, h2, h3⟩
      · have := h x hx; omega
      · have h4 := h3 x hx hn
        have h5 : m < a := hc.2.resolve_left fun e2 => by simp only at e; rw [e2] at e; cases e
        simp only at h4 ⊢
        omega
    · rw [List.mem_singleton.1 hx]
      exact Int.le_refl _
  · rw [if_neg hc]
    rcases h with ⟨e, h⟩ | ⟨e, h1, h2, h3⟩
    · refine .inl ⟨e, fun x hx => ?_⟩
      rcases List.mem_append.1 hx with hx | hx
      · exact h x hx
      · rw [List.mem_singleton.1 hx]
        cases e
        exact Int.not_lt.1 fun h => hc ⟨h, .inl rfl⟩
    · refine .inr ⟨e, List.mem_append_left _ h1, h2, fun x hx hn => ?_⟩
      rcases List.mem_append.1 hx with hx | hx
      · exact h3 x hx hn
      · rw [List.mem_singleton.1 hx] at hn ⊢
        exact Int.not_lt.1 fun h => hc ⟨hn, .inr h⟩
theorem AbI.fold {n : Int} : ∀ (l p : List Int) (s : Int × Bool), AbI n p s → AbI n (p ++ l) (l.foldl (abS n) s)
  | [], p, s, h => by simpa using h
  | x :: l, p, s, h => by
    have := AbI.fold l (p ++ [x]) _ (h.step x)
    rw [List.append_assoc] at this
    exact this
theorem AbI.is {n : Int} {l : List Int} {s : Int × Bool} (h : AbI n l s) : s = abvL l n := by
  unfold abvL
  rcases h with ⟨e, h⟩ | ⟨e, h1, h2, h3⟩
  · have hf : (setL l).find? (fun x => decide (n < x)) = none := by
      rw [List.find?_eq_none]
      intro x hx
      have := h x ((setL_mem l x).1 hx)
      simp; omega
    rw [hf, e]
  · obtain ⟨a, b⟩ := s
    simp only at e h1 h2 h3
    subst e
    obtain ⟨k, hk, e⟩ := List.getElem_of_mem ((setL_mem l a).2 h1)
    have hr := setL_ris l
    have hf := ris_find (n := n) hr hk (by omega) fun i hi => by
      have h4 := List.pairwise_iff_getElem.1 hr i k (by omega) hk hi
      have h5 := h3 _ ((setL_mem l _).1 (List.getElem_mem (show i < (setL l).length by omega)))
      omega
    rw [hf, e]
theorem abv_fold (l : List Int) (n : Int) : l.foldl (abS n) (0, false) = abvL l n := (AbI.fold l [] (0, false) (.inl ⟨rfl, fun _ h => by cases h⟩)).is
/-- those that are wanted -/
def pkS (p : Int → Bool) (t : List Int) (x : Int) : List Int := if p x then t ++ [x] else t
theorem pk_fold (p : Int → Bool) : ∀ (l t : List Int), l.foldl (pkS p) t = t ++ l.filter p
  | [], t => by simp
  | x :: l, t => by
    have := pk_fold p l (pkS p t x)
    rw [List.foldl_cons, this]
    unfold pkS
    cases h : p x <;> simp [h]
theorem pick_pos (a b : List Int) : (setL a).filter (inL b) = andL a b := by
  unfold andL pickL
  congr 1
  funext x
  cases inL b x <;> rfl
theorem pick_neg (a b : List Int) : ((setL a).filter fun x => !inL b x) = lessL a b := by
  unfold lessL pickL
  congr 1
  funext x
  cases inL b x <;> rfl
theorem inL_set (b : List Int) (x : Int) : inL (setL b) x = inL b x := by
  unfold inL
  exact decide_eq_decide.2 (setL_mem b x)
theorem or_cat (a b : List Int) : setL ([a, b].flatten) = orL a b := by
  unfold orL
  simp
theorem set_sort (l : List Int) : Lib.compact (l.mergeSort fun x y => decide (x ≤ y)) = setL l := by
  refine rise_ext (compact_rise (sorted_ms l)) (setL_ris l) fun m => ?_
  rw [compact_mem, List.mem_mergeSort, setL_mem]
end Go.Proofs.YtjmgokjljmmmgaaGreat
/- Stage 17's program: some: a function that is handed on is asked one number of a list behind the other. -/
namespace Go.Proofs.YtjmgokjljmmmgaaGreat
open Go.RowKit

/-- what a handed function keeps: s, in the blocks F -/
structure KeepJ {σ : Type} (J : σ → (Nat → Prop) → World → Prop) : Prop where
  lt : ∀ {s F w}, J s F w → ∀ k, F k → k < w.heap.size
  out : ∀ {s F w w'}, J s F w → w.heap.size ≤ w'.heap.size → (∀ k, F k → w'.heap[k]? = w.heap[k]?) → J s F w'
theorem KeepJ.kept {σ : Type} {J : σ → (Nat → Prop) → World → Prop} (T : KeepJ J) {s : σ} {F : Nat → Prop} {w w' : World} (h : J s F w) (hb : Below w.heap.size w w') : J s F w' := T.out h hb.size fun k hk => hb.block k (T.lt h k hk)

set_option maxHeartbeats 1000000 in
theorem iSome_any {σ : Type} {J : σ → (Nat → Prop) → World → Prop} (f : σ → Int → σ × Bool) (g : FuncId) (q : Value) (eg : ∀ args w, (callFunc g args).run Tryz.prog w = .ok (.enter g args) w)
    (va : Value) (l : List Int) (w : World) (hl : IntsAt w va l) (hlen : l.length ≤ 1000000) (s0 : σ) (F0 : Nat → Prop) (hF : OffV F0 va l.length) (hJ : J s0 F0 w) (R : Nat → σ → Prop) (hR0 : R 0 s0) (hRs : ∀ k s x, R k s → R (k + 1) (f s x).1)
    (hT : ∀ s F w' x k, x ∈ l → k < l.length → R k s → J s F w' → Only F0 w w' → Calls Tryz.prog g #[.int .i64 x, q] w' fun e w'' => e = .returned (.bool (f s x).2) ∧ ∃ F', J (f s x).1 F' w'' ∧ Mv F F' w' w'') :
    Calls Tryz.prog 52 #[va, .func (.func g) #[] #[q]] w fun e w' => e = .returned (.bool (runS f s0 l).2) ∧ ∃ F', J (runS f s0 l).1 F' w' ∧ Mv F0 F' w w' := by
  obtain ⟨r, hr⟩ : ∃ r, runS f s0 l = r := ⟨_, rfl⟩
  rw [hr]
  have HR := Lib.hid hr
  have HT := Lib.hid hT
  have HRS := Lib.hid hRs
  have HR0 := Lib.hid hR0
  have HJ := Lib.hid hJ
  have HF := Lib.hid hF
  have HL := Lib.hid hl
  have HLE := Lib.hid hlen
  obtain ⟨a, c, rfl⟩ := hl.form
  clear hr hT hJ hF hl hRs hR0
  go_enter Tryz.func52, Tryz.ntmps52
  go_wp2
  refine wp_scope_goto 0 (fun n a' w' => ∃ (j : Nat) (z : Int) (s : σ) (F : Nat → Prop), n = l.length - j ∧ z = j ∧ j ≤ l.length ∧ runS f s (l.drop j) = r ∧ R j s ∧ J s F w' ∧ Mv F0 F w w' ∧ ∃ u2 u3 u6 u7 u8 u9 u10 u11 u12 u13 u14 u15 u16 u17, a' = { tmps := #[.slice a l.length c, .func (.func g) #[] #[q], u2, u3, .bool false, .int .i64 z, u6, u7, u8, u9, u10, u11, u12, u13, u14, u15, u16, u17], defers := [] }) rfl rfl ?_ ?_
  · rintro n a' w' ⟨j, _, s, F, rfl, rfl, hj, hrun, hrk, hj2, hmv, u2, u3, u6, u7, u8, u9, u10, u11, u12, u13, u14, u15, u16, u17, rfl⟩ K hK
    have HK := Lib.hid hK
    have HJ2 := Lib.hid hj2
    have HM := Lib.hid hmv
    have HRU := Lib.hid hrun
    have HRK := Lib.hid hrk
    clear hK hj2 hmv hrun hrk
    by_cases hlt : j < l.length
    · have hrow := (HL.out.rows.only HM.out.only HF.out).ints
      obtain ⟨gb, o, cc, e, hlc, _, p0⟩ := hrow.spot j hlt
      cases e
      have hx := HT.out s F w' l[j] j (List.getElem_mem hlt) hlt HRK.out HJ2.out HM.out.only
      have hrn := HRS.out j s l[j] HRK.out
      have hno := runS_no f s l j hlt
      have hyes := runS_yes f s l j hlt
      generalize l[j] = x at *
      obtain ⟨s', b, hsb⟩ : ∃ s' b, f s x = (s', b) := ⟨_, _, rfl⟩
      rw [hsb] at hx hno hyes hrn
      have HRN := Lib.hid hrn
      have HX := Lib.hid hx
      have HN := Lib.hid hno
      have HY := Lib.hid hyes
      have j0 : (0 : Int) ≤ (j : Int) := by omega
      have j1 : (j : Int) < (l.length : Int) := by omega
      clear hx hno hyes hsb hrow hrn
      cases b with
      | false =>
        go_wp2_with (go_at_fn g; (with_reducible refine HX.out.mono ?_); rintro e w1 ⟨rfl, F', hj1, hm1⟩; have HJ3 := Lib.hid hj1; have HM3 := Lib.hid hm1; clear hj1 hm1)
        go_step3
        exact ⟨rfl, HK.out (l.length - (j + 1)) _ _ (by omega) ⟨j + 1, _, s', F', rfl, by omega, by omega, (HN.out trivial).symm.trans HRU.out, HRN.out, HJ3.out, HM.out.trans HM3.out, _, _, _, _, _, _, _, _, _, _, _, _, _, _,  rfl⟩⟩
      | true =>
        go_wp2_with (go_at_fn g; (with_reducible refine HX.out.mono ?_); rintro e w1 ⟨rfl, F', hj1, hm1⟩; have HJ3 := Lib.hid hj1; have HM3 := Lib.hid hm1; clear hj1 hm1)
        simp only [Exit.jump]
        go_ret
        have hrr := (HY.out trivial).symm.trans HRU.out
        rw [← hrr]
        exact ⟨rfl, F', HJ3.out, HM.out.trans HM3.out⟩
    · have e : j = l.length := by omega
      subst e
      have hrr := HRU.out
      rw [runS_end] at hrr
      have HRR := Lib.hid hrr
      clear hrr hlt
      go_wp2
      simp only [Exit.jump]
      go_ret
      rw [← HRR.out]
      exact ⟨rfl, F, HJ2.out, HM.out⟩
  · intro K hpass
    go_wp2
    go_step3
    rename_i hback
    exact hback _ _ (hpass (l.length - 0) _ _ ⟨0, _, s0, F0, rfl, rfl, by omega, HR.out, HR0.out, HJ.out, Mv.refl _ _, _, _, _, _, _, _, _, _, _, _, _, _, _, _,  rfl⟩)
end Go.Proofs.YtjmgokjljmmmgaaGreat
/- Stage 17's program: each: a function that is handed on is told one number of a list behind the other. -/
namespace Go.Proofs.YtjmgokjljmmmgaaGreat
open Go.RowKit

/-- what is told, and the box b in which the function (tv) lies that is told -/
def EaJ {σ : Type} (J : σ → (Nat → Prop) → World → Prop) (b : Nat) (tv : Value) (s : σ) (F : Nat → Prop) (w : World) : Prop := ∃ F1, J s F1 w ∧ ¬ F1 b ∧ (∀ k, F k ↔ F1 k ∨ k = b) ∧ Blk w b [tv]

end Go.Proofs.YtjmgokjljmmmgaaGreat
/- Stage 17's program: Right, Has, Above: what is asked and told of a list. -/
namespace Go.Proofs.YtjmgokjljmmmgaaGreat
open Go.RowKit

/-- one box -/
def BoJ (b : Nat) (s : Value) (F : Nat → Prop) (w : World) : Prop := Blk w b [s] ∧ ∀ k, F k ↔ k = b
theorem bo_keep {σ : Type} (b : Nat) (v : σ → Value) : KeepJ fun (s : σ) F w => BoJ b (v s) F w where
  lt := by
    rintro s F w ⟨h1, h2⟩ k hk
    rw [(h2 k).1 hk]
    exact h1.lt
  out := by
    rintro s F w w' ⟨h1, h2⟩ _ he
    exact ⟨h1.same (he b ((h2 b).2 rfl)), h2⟩

set_option maxHeartbeats 1000000 in
theorem iRight1_any (b : Nat) (s x : Int) (F : Nat → Prop) (w : World) (h : BoJ b (.int .i64 s) F w) :
    Calls Tryz.prog 53 #[.int .i64 x, .pointer (some ⟨b, 0, none⟩)] w fun e w' => e = .returned (.bool (rgt s x).2) ∧ ∃ F', BoJ b (.int .i64 (rgt s x).1) F' w' ∧ Mv F F' w w' := by
  obtain ⟨h1, h2⟩ := h
  have HS : Hid (∀ v, Blk (w.setCell ⟨b, 0, none⟩ v) b [v]) := Lib.hid fun v => h1.set 0 v
  have H2 := Lib.hid h2
  have c0 := h1.cell 0 rfl
  have z0 := h1.free 0 rfl
  clear h1 h2
  unfold rgt
  go_enter Tryz.func53, Tryz.ntmps53
  go_wp2
  go_ret
  exact ⟨rfl, F, ⟨HS.out _, H2.out⟩, (Only.refl _ _).set _ _ ((H2.out b).2 rfl), fun k hk => .inl hk⟩

/-- the list without its first number, as the model cuts it -/
theorem from17 (a : Option Addr) (n c : Nat) (hk : 1 ≤ n) (hn : n ≤ c) : ∃ a4 c4, (∀ w', (Instr.sliceAt 22 (.slice a n c) (some (.int .i64 1)) none none).run Tryz.prog w' = .ok (.slice a4 (n - 1) c4) w') ∧
    (∀ (w' : World) (l : List Int), l.length = n → RowsAt w' 1 csI (.slice a n c) l → RowsAt w' 1 csI (.slice a4 (n - 1) c4) (l.drop 1)) ∧ ∀ k, (Value.slice a4 (n - 1) c4).ownBlock = some k → (Value.slice a n c).ownBlock = some k := by
  have h1 : (1 : Int) ≤ (n : Int) := by omega
  by_cases hck : c = 1
  · have hc0 : n = 1 := by omega
    refine ⟨a, 0, fun w' => ?_, fun w' l hl h => ?_, fun k h => by cases a <;> simp [Value.ownBlock] at h ⊢; exact h⟩
    · simp [go_sem, hck, hc0, sliced]
    · have := restAt13 h 1 (by omega) a (fun h => by omega)
      rwa [hck, Nat.sub_self] at this
  · refine ⟨a.map (fun x => x.add 1), c - 1, fun w' => ?_, fun w' l hl h => ?_, fun k h => ?_⟩
    · simp [go_sem, sliced, h1]
      exact fun h => absurd h hck
    · exact restAt13 h 1 (by omega) _ (fun _ g o e => by subst e; simp [Addr.add])
    · cases a with
      | none => simp [Value.ownBlock] at h
      | some a => simpa [Value.ownBlock, Addr.add] using h

set_option maxHeartbeats 1000000 in
theorem iRight_any (va : Value) (l : List Int) (w : World) (ha : IntsAt w va l) (hl : l.length ≤ 1000000) :
    Calls Tryz.prog 23 #[va] w fun e w' => e = .returned (.bool (rightB l)) ∧ Below w.heap.size w w' := by
  have hmf : ∀ (fn : Fn) (first cap : Array Value) (w : World), (Instr.makeFunc fn first cap).run Tryz.prog w = .ok (.func fn first cap) w := fun _ _ _ _ => rfl
  cases l with
  | nil =>
    obtain ⟨a, c, rfl⟩ := ha.form
    have e : rightB [] = true := by decide
    rw [e]
    clear ha
    go_enter Tryz.func23, Tryz.ntmps23
    go_wp2
    go_ret
    exact ⟨rfl, Below.refl _ _⟩
  | cons x t =>
    obtain ⟨g, o, c, e, hlc, hg, p0⟩ := ha.spot 0 (by simp)
    subst e
    have hal := (Below.refl w.heap.size w).alloc (Nat.le_refl _) (.cells #[.int .i64 x] 3)
    have hX := Blk.new w [.int .i64 x] 3
    obtain ⟨a4, c4, hsl, hrows, how⟩ := from17 (some ⟨g, o, none⟩) (x :: t).length c (by simp) hlc
    have hr := (hrows _ (x :: t) rfl (ha.below hal).rows).ints
    have hS := iSome_any (J := fun (s : Int) F w' => BoJ w.heap.size (.int .i64 s) F w') rgt 53 (.pointer (some ⟨w.heap.size, 0, none⟩)) (fun _ _ => by kernel_rfl) _ t _ hr (by simp at hl; omega) x
      (fun k => k = w.heap.size) (fun h0 k hk hf => by have := ha.rows.lt (by simp) k (how k hk); omega) ⟨hX, fun k => Iff.rfl⟩ (fun _ _ => True) trivial (fun _ _ _ _ => trivial)
      (fun s F w' y k hx _ _ hj ho => iRight1_any _ s y F w' hj)
    rw [runS_right, List.length_cons, Nat.add_sub_cancel] at hS
    rw [List.length_cons, Nat.add_sub_cancel] at hsl
    have HS := Lib.hid hS
    have HAL := Lib.hid hal
    generalize rightB (x :: t) = r at *
    replace p0 : w.cell? ⟨g, o, none⟩ = some (.int .i64 x) := by simpa using p0
    rw [List.length_cons] at *
    clear hal hX hS ha hr hrows how hg
    generalize t.length = n at *
    have n0 : (0 : Int) ≤ (n : Int) := by omega
    have n1 : ¬ ((n : Int) + 1 = 0) := by omega
    go_enter Tryz.func23, Tryz.ntmps23
    go_wp2_with (go_at_call 52; (with_reducible refine HS.out.mono ?_); rintro e w1 ⟨rfl, F', h1, hm⟩; have HM := Lib.hid hm; clear h1 hm)
    go_ret
    exact ⟨by simp, HAL.out.trans (HM.out.only.below (fun k hk => by omega) HAL.out.size)⟩
end Go.Proofs.YtjmgokjljmmmgaaGreat
/- Stage 17's program: Above; pick. -/
namespace Go.Proofs.YtjmgokjljmmmgaaGreat
open Go.RowKit

/-- three boxes: n, is there one (ok), the least -/
def AbJ (n : Int) (bn bo bl : Nat) (s : Int × Bool) (F : Nat → Prop) (w : World) : Prop := Blk w bn [.int .i64 n] ∧ Blk w bo [.bool s.2] ∧ Blk w bl [.int .i64 s.1] ∧ ∀ k, F k ↔ k = bn ∨ k = bo ∨ k = bl
theorem ab_keep (n : Int) (bn bo bl : Nat) : KeepJ (AbJ n bn bo bl) where
  lt := by
    rintro s F w ⟨h1, h2, h3, h4⟩ k hk
    rcases (h4 k).1 hk with rfl | rfl | rfl
    · exact h1.lt
    · exact h2.lt
    · exact h3.lt
  out := by
    rintro s F w w' ⟨h1, h2, h3, h4⟩ _ he
    exact ⟨h1.same (he _ ((h4 _).2 (.inl rfl))), h2.same (he _ ((h4 _).2 (.inr (.inl rfl)))), h3.same (he _ ((h4 _).2 (.inr (.inr rfl)))), h4⟩

end Go.Proofs.YtjmgokjljmmmgaaGreat
/- Stage 17's program: pick: the numbers that are wanted, in a list of one's own. -/
namespace Go.Proofs.YtjmgokjljmmmgaaGreat
open Go.RowKit

theorem OwnI.same17 {w w' : World} {B : Nat} {v : Value} {l : List Int} (h : OwnI w B v l) (he : ∀ k, v.ownBlock = some k → w'.heap[k]? = w.heap[k]?) : OwnI w' B v l := by
  refine ⟨h.1, ?_⟩
  rcases h.2 with h0 | ⟨g, cap, cur, rfl, hg, hh, rest⟩
  · exact .inl h0
  · exact .inr ⟨g, cap, cur, rfl, hg, (he g rfl).trans hh, rest⟩
theorem OwnI.cells17 {w : World} {B : Nat} {v : Value} {l : List Int} (h : OwnI w B v l) : ∀ k, v.ownBlock = some k → B ≤ k ∧ k < w.heap.size ∧ ∃ cur, w.heap[k]? = some (.cells cur 3) := by
  intro k hk
  rcases h.2 with ⟨rfl, _⟩ | ⟨g, cap, cur, rfl, hg, hh, _⟩
  · simp [Value.ownBlock] at hk
  · simp [Value.ownBlock] at hk
    subst hk
    exact ⟨hg, lt_of_block hh, cur, hh⟩
theorem hset1p {w : World} {b : Nat} {x : Value} {t : TypeId} (h : w.heap[b]? = some (.cells #[x] t)) (x' : Value) : (w.setCell ⟨b, 0, none⟩ x').heap[b]? = some (.cells #[x'] t) := by
  unfold World.setCell
  simp only [Array.getElem?_modify, if_pos, h, Option.map_some]
  rfl
/-- numbers that were picked, in the box q -/
def JP (q : Nat) (t : List Int) (F : Nat → Prop) (w : World) : Prop := ∃ v, w.heap[q]? = some (.cells #[v] 22) ∧ OwnI w 0 v t ∧ ∀ k, F k ↔ k = q ∨ v.ownBlock = some k
theorem jp_keep (q : Nat) : KeepJ (JP q) where
  lt := by
    rintro t F w ⟨v, h1, h2, h3⟩ k hk
    rcases (h3 k).1 hk with rfl | h
    · exact lt_of_block h1
    · exact (OwnI.cells17 h2 k h).2.1
  out := by
    rintro t F w w' ⟨v, h1, h2, h3⟩ _ he
    exact ⟨v, (he q ((h3 q).2 (.inl rfl))).trans h1, OwnI.same17 h2 fun k hk => he k ((h3 k).2 (.inr hk)), h3⟩
theorem jp_ne {q : Nat} {w : World} {v u : Value} {l : List Int} (hr : w.heap[q]? = some (.cells #[u] 22)) (h : OwnI w 0 v l) : v.ownBlock ≠ some q := fun e => by
  obtain ⟨_, _, cur, hc⟩ := OwnI.cells17 h q e
  rw [hr] at hc
  cases hc
/-- beside the box bw of the function that is asked whether a number is wanted -/
def PkJ (bw : Nat) (tv : Value) (bp : Nat) (t : List Int) (F : Nat → Prop) (w : World) : Prop := ∃ Fp, Blk w bw [tv] ∧ ¬ Fp bw ∧ JP bp t Fp w ∧ ∀ k, F k ↔ Fp k ∨ k = bw
theorem pk_keep (bw : Nat) (tv : Value) (bp : Nat) : KeepJ (PkJ bw tv bp) where
  lt := by
    rintro t F w ⟨Fp, h1, h2, h3, h4⟩ k hk
    rcases (h4 k).1 hk with h | rfl
    · exact (jp_keep bp).lt h3 k h
    · exact h1.lt
  out := by
    rintro t F w w' ⟨Fp, h1, h2, h3, h4⟩ hz he
    exact ⟨Fp, h1.same (he bw ((h4 bw).2 (.inr rfl))), h2, (jp_keep bp).out h3 hz fun k hk => he k ((h4 k).2 (.inl hk)), h4⟩

end Go.Proofs.YtjmgokjljmmmgaaGreat
