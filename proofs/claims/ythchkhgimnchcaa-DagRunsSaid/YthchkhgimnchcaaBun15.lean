/- Texts of this proof, joined: PlanH; TkD; BtA; BtB; BtC; AppK; AppArc. -/
import Derived.Test.YthchkhgimnchcaaBun14
import Derived.Laws.BitsAllLaws
import Derived.Shelf.Abstract
import Derived.Deep.AppendLies
/- The walks of package plan: which aisles a way goes through. -/
namespace Go.Proofs.Ythchkhgimnchcaa
open Go.RowKit Go.Sort

/-! ### Mathematics -/
theorem putR_rise (n : Int) : ∀ (l : List Int) (d : Bool), l.Pairwise (· < ·) → (putR n l d).Pairwise (· < ·)
  | [], d, _ => by cases d <;> simp [putR]
  | x :: l, d, h => by
    rw [List.pairwise_cons] at h
    have ih := putR_rise n l (d || decide (n ≤ x)) h.2
    have hm := fun m => putR_mem n l (d || decide (n ≤ x)) m
    unfold putR
    generalize putR n l (d || decide (n ≤ x)) = R at *
    by_cases h1 : d = false ∧ n ≤ x
    · obtain ⟨rfl, h1⟩ := h1
      have hR : ∀ m ∈ R, x < m := by
        intro m hmR
        rcases (hm m).1 hmR with ⟨h2, _⟩ | ⟨h2, _⟩
        · simp [h1] at h2
        · exact h.1 m h2
      rw [if_pos ⟨rfl, h1⟩]
      by_cases h3 : x = n
      · rw [if_neg (by simp [h3])]
        subst h3
        simp only [List.append_nil, List.singleton_append, List.pairwise_cons]
        exact ⟨hR, ih⟩
      · rw [if_pos h3]
        simp only [List.cons_append, List.nil_append, List.pairwise_cons, List.mem_cons]
        refine ⟨fun m hmm => ?_, hR, ih⟩
        rcases hmm with rfl | hmm
        · omega
        · have := hR m hmm; omega
    · rw [if_neg h1]
      by_cases h3 : x = n
      · rw [if_neg (by simp [h3])]
        simpa using ih
      · rw [if_pos h3]
        simp only [List.cons_append, List.nil_append, List.pairwise_cons]
        refine ⟨fun m hmR => ?_, ih⟩
        rcases (hm m).1 hmR with ⟨h2, rfl⟩ | ⟨h2, _⟩
        · simp at h2
          omega
        · exact h.1 m h2
theorem crs7_rise (hit : Ais → Bool) (l : List Ais) : (crs7 hit l).Pairwise (· < ·) := by
  unfold crs7
  have key : ∀ (l : List Ais) (out : List Int), out.Pairwise (· < ·) → (l.foldl (fun out a => if hit a = true then putR a.id out false else out) out).Pairwise (· < ·) := by
    intro l
    induction l with
    | nil => intro out h; exact h
    | cons a l ih =>
      intro out h
      rw [List.foldl_cons]
      refine ih _ ?_
      split
      · exact putR_rise _ _ _ h
      · exact h
  exact key l [] List.Pairwise.nil
/-- the IDs of those that are hit -/
def hids (hit : Ais → Bool) (l : List Ais) : List Int := (l.filter hit).map Ais.id
theorem crs7_sorted (hit : Ais → Bool) (l : List Ais) : Lib.compact ((hids hit l).mergeSort fun x y => decide (x ≤ y)) = crs7 hit l := by
  refine rise_ext (compact_rise (sorted_ms _)) (crs7_rise hit l) fun m => ?_
  rw [compact_mem, List.mem_mergeSort, crs7_mem]
  unfold hids
  rw [List.mem_map]
  constructor
  · rintro ⟨a, h1, h2⟩
    rw [List.mem_filter] at h1
    exact ⟨a, h1.1, h1.2, h2⟩
  · rintro ⟨a, h1, h2, h3⟩
    exact ⟨a, List.mem_filter.2 ⟨h1, h2⟩, h3⟩
theorem hids_next (hit : Ais → Bool) (l : List Ais) (k : Nat) (h : k < l.length) : hids hit (l.take (k + 1)) = hids hit (l.take k) ++ (if hit (pa l k) = true then [(pa l k).id] else []) := by
  unfold hids
  rw [List.take_succ_eq_append_getElem h, List.filter_append, List.map_append, pa_get l k h]
  congr 1
  by_cases hh : hit l[k] = true <;> simp [hh]
theorem hids_len (hit : Ais → Bool) (l : List Ais) (k : Nat) : (hids hit (l.take k)).length ≤ l.length := by
  unfold hids
  rw [List.length_map]
  exact Nat.le_trans (List.length_filter_le _ _) (by simp; omega)
theorem meet_ex (a b : Ais) : meetB a b = true ↔ ∃ x y, hasB a x y = true ∧ hasB b x y = true := by
  rw [meet_is, decide_eq_true_eq]
  constructor
  · intro h
    refine ⟨max a.lx b.lx, max a.ly b.ly, ?_, ?_⟩ <;> unfold hasB <;> rw [decide_eq_true_eq] <;> omega
  · rintro ⟨x, y, h1, h2⟩
    unfold hasB at h1 h2
    rw [decide_eq_true_eq] at h1 h2
    omega
/-- the block between two corners -/
def blk (a b : Int × Int) : Ais := ⟨0, min a.1 b.1, min a.2 b.2, max a.1 b.1, max a.2 b.2⟩
theorem hit_is (a b : Int × Int) (how : Int) (A : Ais) : hitB (rway a b how) A = (meetB A (blk a (trn how a b)) || meetB A (blk (trn how a b) b)) := by
  rw [Bool.eq_iff_iff, Bool.or_eq_true, meet_ex, meet_ex]
  unfold hitB
  rw [List.any_eq_true]
  obtain ⟨a1, a2⟩ := a
  obtain ⟨b1, b2⟩ := b
  by_cases hh : how = 1
  · subst hh
    simp only [mem_y, onY, btw, trn, if_pos, blk]
    constructor
    · rintro ⟨⟨x, y⟩, h1 | h1, h2⟩
      · exact .inl ⟨x, y, h2, by unfold hasB; rw [decide_eq_true_eq]; simp only at *; omega⟩
      · exact .inr ⟨x, y, h2, by unfold hasB; rw [decide_eq_true_eq]; simp only at *; omega⟩
    · rintro (⟨x, y, h1, h2⟩ | ⟨x, y, h1, h2⟩)
      · refine ⟨(x, y), .inl ?_, h1⟩
        unfold hasB at h2
        rw [decide_eq_true_eq] at h2
        simp only at *
        omega
      · refine ⟨(x, y), .inr ?_, h1⟩
        unfold hasB at h2
        rw [decide_eq_true_eq] at h2
        simp only at *
        omega
  · simp only [mem_x hh, onX, btw, trn, if_neg hh, blk]
    constructor
    · rintro ⟨⟨x, y⟩, h1 | h1, h2⟩
      · exact .inl ⟨x, y, h2, by unfold hasB; rw [decide_eq_true_eq]; simp only at *; omega⟩
      · exact .inr ⟨x, y, h2, by unfold hasB; rw [decide_eq_true_eq]; simp only at *; omega⟩
    · rintro (⟨x, y, h1, h2⟩ | ⟨x, y, h1, h2⟩)
      · refine ⟨(x, y), .inl ?_, h1⟩
        unfold hasB at h2
        rw [decide_eq_true_eq] at h2
        simp only at *
        omega
      · refine ⟨(x, y), .inr ?_, h1⟩
        unfold hasB at h2
        rw [decide_eq_true_eq] at h2
        simp only at *
        omega

/-! ### Sorted, and each once -/
theorem psort_any (a w : World) (B : Nat) (v : Value) (l : List Int) (hB : Below B a w) (hz : B ≤ w.heap.size) (h : OwnI w B v l) (hl : l.length ≤ 1000000) :
    Calls Try.prog 27 #[v] w fun e w' => e = .returned (.tuple #[]) ∧
      Calls Try.prog 81 #[v] w' fun e w'' => ∃ u, e = .returned u ∧ IntsAt w'' u (Lib.compact (l.mergeSort fun x y => decide (x ≤ y))) ∧ Below B a w'' := by
  by_cases h0 : l.length = 0
  · obtain ⟨p, c, rfl⟩ := h.ints.form
    have hnil : l = [] := List.eq_nil_of_length_eq_zero h0
    have hc : Lib.compact (l.mergeSort fun x y => decide (x ≤ y)) = [] := List.eq_nil_of_length_eq_zero (by have h1 := Lib.compact_length_le (l.mergeSort fun x y => decide (x ≤ y)); rw [List.length_mergeSort] at h1; omega)
    rw [h0, hc]
    refine (Try.slices_Sort_int_none p c w).mono ?_
    rintro e w1 ⟨rfl, rfl⟩
    refine ⟨rfl, (Try.slices_Compact_int_empty p c w1).mono ?_⟩
    rintro e w2 ⟨rfl, rfl⟩
    refine ⟨_, rfl, ?_, hB⟩
    have := h.ints
    rw [hnil] at this
    exact this
  · obtain ⟨g, cap, rfl, hBg, hg, hcap, hH⟩ := h.holds (by omega)
    have hlen : (l.mergeSort fun x y => decide (x ≤ y)).length = l.length := List.length_mergeSort l
    refine (Try.slices_Sort_int g 0 cap l w hH hg (by omega)).mono ?_
    rintro e w1 ⟨rfl, n, os, rfl⟩
    refine ⟨rfl, ?_⟩
    have hS := holds_sorted (n := n) (os := os) hH hg
    have hC := Try.slices_Compact_int g 0 cap (l.mergeSort fun x y => decide (x ≤ y)) _ hS (by omega) (by omega)
    have hI := fun q => ints_compact (n := n) (q := q) (os := os) hH hg hcap
    have hB1 := below_row (n := n) (off := 0) (d := (l.mergeSort fun x y => decide (x ≤ y)).toArray) (os := os) hB hBg hz
    rw [hlen] at hC
    refine hC.mono ?_
    rintro e w2 ⟨rfl, q, rfl⟩
    refine ⟨_, rfl, ?_, below_row' hB1 hBg (by have := hB1.size; simp; omega)⟩
    have := hI q
    rw [hlen] at this
    exact this

end Go.Proofs.Ythchkhgimnchcaa
/- Stage 22: the program's Same and SameRules. -/
namespace Go.Proofs.Ythchkhgimnchcaa
open Go.RowKit

theorem ownGe {α : Type} {w : World} {B : Nat} {e : TypeId} {K : Nat} {cs : α → List Value} {v : Value} {l : List α} (h : OwnR w B e K cs v l) : ∀ g, v.ownBlock = some g → B ≤ g := by
  intro g hg
  rcases h.2 with ⟨rfl, _⟩ | ⟨g', cap, cur, rfl, hg', _⟩
  · simp [Value.ownBlock] at hg
  · simp [Value.ownBlock] at hg
    omega
set_option maxHeartbeats 4000000 in
set_option maxRecDepth 100000 in
theorem tClone_any (x : Sp) (w : World) (ha : IntsAt w x.v x.aft) (hl : x.aft.length ≤ 1000) :
    Calls Try.prog 22 #[spv x] w fun e w' => ∃ y : Sp, e = .returned (spv y) ∧ IntsAt w' y.v y.aft ∧ sameS y x = true ∧ y.aft = x.aft ∧ Below w.heap.size w w' := by
  have G := Lib.hid fun w h => cloneI_any x.v x.aft w h (by omega)
  have hsame : ∀ a' c', sameS { x with a := a', c := c' } x = true := fun a' c' => by simp [sameS, plainB]
  have HS := Lib.hid hsame
  clear hsame
  obtain ⟨id, prio, sk, ge, fx, fy, tx, ty, a, c, l⟩ := x
  dsimp only [Sp.v, spv] at *
  have hal1 := (Below.refl w.heap.size w).alloc (Nat.le_refl _) (.cells #[.int .i64 id, .int .i64 prio, .int .u64 sk, .int .u64 ge, .int .i64 fx, .int .i64 fy, .int .i64 tx, .int .i64 ty, .slice a l.length c] 41)
  have hX := boxS w id prio sk ge fx fy tx ty (.slice a l.length c)
  have hI := ha.below hal1
  obtain ⟨W1, hW1⟩ : ∃ W1, w.alloc (.cells #[.int .i64 id, .int .i64 prio, .int .u64 sk, .int .u64 ge, .int .i64 fx, .int .i64 fy, .int .i64 tx, .int .i64 ty, .slice a l.length c] 41) = W1 := ⟨_, rfl⟩
  have hsz : W1.heap.size = w.heap.size + 1 := by rw [← hW1]; simp
  rw [hW1] at hal1 hX hI
  have hal2 := (Below.refl W1.heap.size W1).alloc (Nat.le_refl _) (.cells #[.int .i64 0, .int .i64 0, .int .u64 0, .int .u64 0, .int .i64 0, .int .i64 0, .int .i64 0, .int .i64 0, .slice none 0 0] 41)
  have hY := boxS W1 0 0 0 0 0 0 0 0 (.slice none 0 0)
  rw [hsz] at hY
  have HX := Lib.hid (hX.kept hal2)
  have HY := Lib.hid hY
  have HI := Lib.hid (hI.below hal2)
  have HB := Lib.hid (hal1.trans (hal2.mono hal1.size))
  rw [← hW1] at HX HY HI HB
  have c6 := HX.out.cell 8 rfl
  clear hal1 hX hI hal2 hY hsz hW1 ha
  go_enter Try.func22, Try.ntmps22
  go_wp2_with (go_at_call 32; (with_reducible refine (G.out _ HI.out).mono ?_); rintro e w1 ⟨v', rfl, ho, hb1⟩; obtain ⟨a', c', e⟩ := RowsAt.form (OwnR.rows csI_len ho); subst e; have HO := Lib.hid ho; replace HX := Lib.hid (HX.out.kept hb1); replace HY := Lib.hid (HY.out.kept hb1); replace HB := Lib.hid (HB.out.trans (hb1.mono HB.out.size)); clear hb1 c6 ho; have f8 := HX.out.free 8 rfl; have e8 := HX.out.cell 8 rfl; have HX2 := Lib.hid (HX.out.set 8 (.slice a' l.length c')); have HY2 := Lib.hid (HY.out.away ⟨w.heap.size, 8, none⟩ (.slice a' l.length c') (by simp)); have c0 := HX2.out.cell 0 rfl; have c1 := HX2.out.cell 1 rfl; have c2 := HX2.out.cell 2 rfl; have c3 := HX2.out.cell 3 rfl; have c4 := HX2.out.cell 4 rfl; have c5 := HX2.out.cell 5 rfl; have c6 := HX2.out.cell 6 rfl; have c7 := HX2.out.cell 7 rfl; have c8 := HX2.out.cell 8 rfl; have y0 := HY2.out.cell 0 rfl; have z0 := HY2.out.free 0 rfl; have y1 := HY2.out.cell 1 rfl; have z1 := HY2.out.free 1 rfl; have y2 := HY2.out.cell 2 rfl; have z2 := HY2.out.free 2 rfl; have y3 := HY2.out.cell 3 rfl; have z3 := HY2.out.free 3 rfl; have y4 := HY2.out.cell 4 rfl; have z4 := HY2.out.free 4 rfl; have y5 := HY2.out.cell 5 rfl; have z5 := HY2.out.free 5 rfl; have y6 := HY2.out.cell 6 rfl; have z6 := HY2.out.free 6 rfl; have y7 := HY2.out.cell 7 rfl; have z7 := HY2.out.free 7 rfl; have y8 := HY2.out.cell 8 rfl; have z8 := HY2.out.free 8 rfl)
  have hge := ownGe HO.out
  have hn1 : (Value.slice a' l.length c').ownBlock ≠ some w.heap.size := fun e => by have := hge _ e; simp at this <;> omega
  have hn2 : (Value.slice a' l.length c').ownBlock ≠ some (w.heap.size + 1) := fun e => by have := hge _ e; simp at this <;> omega
  have hb1 := HB.out.setCell (p := ⟨w.heap.size, 8, none⟩) (Nat.le_refl _) (.slice a' l.length c')
  have hl1 : w.heap.size ≤ w.heap.size + 1 := by omega
  refine bodyPost_ret (v := .agg #[.int .i64 id, .int .i64 prio, .int .u64 sk, .int .u64 ge, .int .i64 fx, .int .i64 fy, .int .i64 tx, .int .i64 ty, .slice a' l.length c']) ?_ rfl ⟨⟨id, prio, sk, ge, fx, fy, tx, ty, a', c', l⟩, rfl, ?_, HS.out a' c', rfl, ?_⟩
  · simp [results, Try.results22, go_sem, y0, y1, y2, y3, y4, y5, y6, y7, y8]
  · exact OwnI.ints ((((((((((HO.out.away _ _ hn1).away _ _ hn2).away _ _ hn2).away _ _ hn2).away _ _ hn2).away _ _ hn2).away _ _ hn2).away _ _ hn2).away _ _ hn2).away _ _ hn2)
  · exact ((((((((hb1.setCell hl1 _).setCell hl1 _).setCell hl1 _).setCell hl1 _).setCell hl1 _).setCell hl1 _).setCell hl1 _).setCell hl1 _).setCell hl1 _
end Go.Proofs.Ythchkhgimnchcaa
/- Stage 23's program: all: of each one of a list a function that is handed on is asked. -/
namespace Go.Proofs.Ythchkhgimnchcaa
open Go.RowKit

/-- specs in memory -/
def SpsAt (w : World) (v : Value) (L : List Sp) : Prop := RowsAt w 9 csSp v L ∧ ∀ x ∈ L, IntsAt w x.v x.aft
section
variable {w w' : World} {v : Value} {L : List Sp}
theorem SpsAt.kept (h : SpsAt w v L) (hb : Below w.heap.size w w') : SpsAt w' v L := ⟨RowsAt.kept h.1 hb, fun x hx => (h.2 x hx).below hb⟩
theorem SpsAt.form (h : SpsAt w v L) : ∃ a c, v = .slice a L.length c := RowsAt.form h.1
theorem SpsAt.spot (h : SpsAt w v L) (k : Nat) (hk : k < L.length) : ∃ g o cc id prio sk ge fx fy tx ty a c l, L[k] = ⟨id, prio, sk, ge, fx, fy, tx, ty, a, c, l⟩ ∧ v = .slice (some ⟨g, o, none⟩) L.length cc ∧ L.length ≤ cc ∧
    w.cell? ⟨g, o + k * 9, none⟩ = some (.int .i64 id) ∧ w.cell? ⟨g, o + k * 9 + 1, none⟩ = some (.int .i64 prio) ∧ w.cell? ⟨g, o + k * 9 + 2, none⟩ = some (.int .u64 sk) ∧ w.cell? ⟨g, o + k * 9 + 3, none⟩ = some (.int .u64 ge) ∧
    w.cell? ⟨g, o + k * 9 + 4, none⟩ = some (.int .i64 fx) ∧ w.cell? ⟨g, o + k * 9 + 5, none⟩ = some (.int .i64 fy) ∧ w.cell? ⟨g, o + k * 9 + 6, none⟩ = some (.int .i64 tx) ∧ w.cell? ⟨g, o + k * 9 + 7, none⟩ = some (.int .i64 ty) ∧
    w.cell? ⟨g, o + k * 9 + 8, none⟩ = some (.slice a l.length c) ∧ IntsAt w (.slice a l.length c) l := by
  obtain ⟨g, o, cc, e, hc, _, hx⟩ := RowsAt.spot h.1 k hk
  have hi := h.2 _ (List.getElem_mem hk)
  generalize L[k] = x at *
  obtain ⟨id, prio, sk, ge, fx, fy, tx, ty, a, c, l⟩ := x
  exact ⟨g, o, cc, id, prio, sk, ge, fx, fy, tx, ty, a, c, l, rfl, e, hc, hx 0 _ rfl, hx 1 _ rfl, hx 2 _ rfl, hx 3 _ rfl, hx 4 _ rfl, hx 5 _ rfl, hx 6 _ rfl, hx 7 _ rfl, hx 8 _ rfl, hi⟩
end
theorem all_drop {α : Type} (p : α → Bool) (l : List α) (j : Nat) (h : j < l.length) : (l.drop j).all p = (p l[j] && (l.drop (j + 1)).all p) := by
  rw [List.drop_eq_getElem_cons h, List.all_cons]

set_option maxHeartbeats 1000000 in
theorem allI_any (p : Int → Bool) (g : FuncId) (q : Value) (eg : ∀ args w, (callFunc g args).run Try.prog w = .ok (.enter g args) w)
    (va : Value) (l : List Int) (w : World) (hl : IntsAt w va l) (hlen : l.length ≤ 1000000)
    (hT : ∀ w' x, x ∈ l → Below w.heap.size w w' → Calls Try.prog g #[.int .i64 x, q] w' fun e w'' => e = .returned (.bool (p x)) ∧ Below w'.heap.size w' w'') :
    Calls Try.prog 45 #[va, .func (.func g) #[] #[q]] w fun e w' => e = .returned (.bool (l.all p)) ∧ Below w.heap.size w w' := by
  obtain ⟨r, hr⟩ : ∃ r, l.all p = r := ⟨_, rfl⟩
  rw [hr]
  have HR := Lib.hid hr
  have HT := Lib.hid hT
  have HL := Lib.hid hl
  have HLE := Lib.hid hlen
  obtain ⟨a, c, rfl⟩ := hl.form
  clear hr hT hl
  go_enter Try.func45, Try.ntmps45
  go_wp2
  refine wp_scope_goto 0 (fun n a' w' => ∃ (j : Nat) (z : Int), n = l.length - j ∧ z = j ∧ j ≤ l.length ∧ (l.drop j).all p = r ∧ Below w.heap.size w w' ∧ ∃ u2 u3 u6 u7 u8 u9 u10 u11 u12 u13 u14 u15 u16 u17 u18, a' = { tmps := #[.slice a l.length c, .func (.func g) #[] #[q], u2, u3, .bool false, .int .i64 z, u6, u7, u8, u9, u10, u11, u12, u13, u14, u15, u16, u17, u18], defers := [] }) rfl rfl ?_ ?_
  · rintro n a' w' ⟨j, _, rfl, rfl, hj, hrun, hmv, u2, u3, u6, u7, u8, u9, u10, u11, u12, u13, u14, u15, u16, u17, u18, rfl⟩ K hK
    have HK := Lib.hid hK
    have HM := Lib.hid hmv
    have HRU := Lib.hid hrun
    clear hK hmv hrun
    by_cases hlt : j < l.length
    · obtain ⟨gb, o, cc, e, hlc, _, p0⟩ := (HL.out.below HM.out).spot j hlt
      cases e
      have hx := HT.out w' l[j] (List.getElem_mem hlt) HM.out
      have hd := all_drop p l j hlt
      generalize l[j] = x at *
      obtain ⟨b, hsb⟩ : ∃ b, p x = b := ⟨_, rfl⟩
      rw [hsb] at hx hd
      have HX := Lib.hid hx
      have HD := Lib.hid hd
      have j0 : (0 : Int) ≤ (j : Int) := by omega
      have j1 : (j : Int) < (l.length : Int) := by omega
      have j2 : ((j : Int) == (l.length : Int)) = false := beq_noI (by omega)
      clear hx hd hsb
      cases b with
      | true =>
        go_wp2_with (go_at_fn g; (with_reducible refine HX.out.mono ?_); rintro e w1 ⟨rfl, hm1⟩; have HM3 := Lib.hid (HM.out.trans (hm1.mono HM.out.size)); clear hm1)
        go_step3
        exact ⟨rfl, HK.out (l.length - (j + 1)) _ _ (by omega) ⟨j + 1, _, rfl, by omega, by omega, by have := HD.out; rw [Bool.true_and] at this; exact this.symm.trans HRU.out, HM3.out, _, _, _, _, _, _, _, _, _, _, _, _, _, _, _,  rfl⟩⟩
      | false =>
        have HF := Lib.hid (show false = r by rw [← HRU.out, HD.out, Bool.false_and])
        go_wp2_with (go_at_fn g; (with_reducible refine HX.out.mono ?_); rintro e w1 ⟨rfl, hm1⟩; have HM3 := Lib.hid (HM.out.trans (hm1.mono HM.out.size)); clear hm1)
        simp only [Exit.jump]
        go_ret
        exact ⟨ret_b HF.out, HM3.out⟩
    · have e : j = l.length := by omega
      subst e
      have hrr := HRU.out
      rw [List.drop_length] at hrr
      have HF := Lib.hid (show true = r from hrr)
      clear hrr hlt
      go_wp2
      simp only [Exit.jump]
      go_ret
      exact ⟨ret_b HF.out, HM.out⟩
  · intro K hpass
    go_wp2
    go_step3
    rename_i hback
    exact hback _ _ (hpass (l.length - 0) _ _ ⟨0, _, rfl, rfl, by omega, HR.out, Below.refl _ _, _, _, _, _, _, _, _, _, _, _, _, _, _, _, _,  rfl⟩)

set_option maxHeartbeats 1000000 in
theorem allS_any (p : Sp → Bool) (g : FuncId) (q : Value) (eg : ∀ args w, (callFunc g args).run Try.prog w = .ok (.enter g args) w)
    (va : Value) (l : List Sp) (w : World) (hl : SpsAt w va l) (hlen : l.length ≤ 1000000)
    (hT : ∀ w' x, x ∈ l → IntsAt w' x.v x.aft → Below w.heap.size w w' → Calls Try.prog g #[q, spv x] w' fun e w'' => e = .returned (.bool (p x)) ∧ Below w'.heap.size w' w'') :
    Calls Try.prog 35 #[va, .func (.func g) #[q] #[]] w fun e w' => e = .returned (.bool (l.all p)) ∧ Below w.heap.size w w' := by
  obtain ⟨r, hr⟩ : ∃ r, l.all p = r := ⟨_, rfl⟩
  rw [hr]
  have HR := Lib.hid hr
  have HT := Lib.hid hT
  have HL := Lib.hid hl
  have HLE := Lib.hid hlen
  obtain ⟨a, c, rfl⟩ := hl.form
  clear hr hT hl
  go_enter Try.func35, Try.ntmps35
  go_wp2
  refine wp_scope_goto 0 (fun n a' w' => ∃ (j : Nat) (z : Int), n = l.length - j ∧ z = j ∧ j ≤ l.length ∧ (l.drop j).all p = r ∧ Below w.heap.size w w' ∧ ∃ u2 u3 u6 u7 u8 u9 u10 u11 u12 u13 u14 u15 u16 u17 u18, a' = { tmps := #[.slice a l.length c, .func (.func g) #[q] #[], u2, u3, .bool false, .int .i64 z, u6, u7, u8, u9, u10, u11, u12, u13, u14, u15, u16, u17, u18], defers := [] }) rfl rfl ?_ ?_
  · rintro n a' w' ⟨j, _, rfl, rfl, hj, hrun, hmv, u2, u3, u6, u7, u8, u9, u10, u11, u12, u13, u14, u15, u16, u17, u18, rfl⟩ K hK
    have HK := Lib.hid hK
    have HM := Lib.hid hmv
    have HRU := Lib.hid hrun
    clear hK hmv hrun
    by_cases hlt : j < l.length
    · obtain ⟨gb, o, cc, id, prio, sk, ge, fx, fy, tx, ty, a8, c8, l8, he, e, hlc, p0, p1, p2, p3, p4, p5, p6, p7, p8, hi8⟩ := (HL.out.kept HM.out).spot j hlt
      cases e
      have hx := HT.out w' l[j] (List.getElem_mem hlt) (by rw [he]; exact hi8) HM.out
      have hd := all_drop p l j hlt
      rw [he] at hx hd
      dsimp only [spv] at hx
      obtain ⟨b, hsb⟩ : ∃ b, p ⟨id, prio, sk, ge, fx, fy, tx, ty, a8, c8, l8⟩ = b := ⟨_, rfl⟩
      rw [hsb] at hx hd
      have HX := Lib.hid hx
      have HD := Lib.hid hd
      have j0 : (0 : Int) ≤ (j : Int) := by omega
      have j1 : (j : Int) < (l.length : Int) := by omega
      have j2 : ((j : Int) == (l.length : Int)) = false := beq_noI (by omega)
      clear hx hd hsb he hi8
      cases b with
      | true =>
        go_wp2_with (go_at_fn g; (with_reducible refine HX.out.mono ?_); rintro e w1 ⟨rfl, hm1⟩; have HM3 := Lib.hid (HM.out.trans (hm1.mono HM.out.size)); clear hm1)
        go_step3
        exact ⟨rfl, HK.out (l.length - (j + 1)) _ _ (by omega) ⟨j + 1, _, rfl, by omega, by omega, by have := HD.out; rw [Bool.true_and] at this; exact this.symm.trans HRU.out, HM3.out, _, _, _, _, _, _, _, _, _, _, _, _, _, _, _,  rfl⟩⟩
      | false =>
        have HF := Lib.hid (show false = r by rw [← HRU.out, HD.out, Bool.false_and])
        go_wp2_with (go_at_fn g; (with_reducible refine HX.out.mono ?_); rintro e w1 ⟨rfl, hm1⟩; have HM3 := Lib.hid (HM.out.trans (hm1.mono HM.out.size)); clear hm1)
        simp only [Exit.jump]
        go_ret
        exact ⟨ret_b HF.out, HM3.out⟩
    · have e : j = l.length := by omega
      subst e
      have hrr := HRU.out
      rw [List.drop_length] at hrr
      have HF := Lib.hid (show true = r from hrr)
      clear hrr hlt
      go_wp2
      simp only [Exit.jump]
      go_ret
      exact ⟨ret_b HF.out, HM.out⟩
  · intro K hpass
    go_wp2
    go_step3
    rename_i hback
    exact hback _ _ (hpass (l.length - 0) _ _ ⟨0, _, rfl, rfl, by omega, HR.out, Below.refl _ _, _, _, _, _, _, _, _, _, _, _, _, _, _, _, _,  rfl⟩)
end Go.Proofs.Ythchkhgimnchcaa
/- Stage 23's program: namesOf: who has which ID. -/
namespace Go.Proofs.Ythchkhgimnchcaa
open Go.RowKit Go.Maps

/-- who has which ID: the maps' blocks -/
abbrev nmv (bk bs : Nat) : Value := .agg #[.map (some bk), .map (some bs)]
structure NmAt (w : World) (bk bs : Nat) (K : List Tk) (L : List Sp) : Prop where
  kn : ∃ m, MapI w bk m (stO K)
  sp : ∃ m, MapI w bs m (cntG (idsO L))
theorem NmAt.kept {w w' : World} {bk bs : Nat} {K : List Tk} {L : List Sp} (h : NmAt w bk bs K L) (hb : Below w.heap.size w w') : NmAt w' bk bs K L := by
  obtain ⟨⟨m, h1⟩, ⟨m2, h2⟩⟩ := h
  exact ⟨⟨m, h1.kept hb⟩, ⟨m2, h2.kept hb⟩⟩
theorem tks_spot {w : World} {v : Value} {K : List Tk} (h : RowsAt w 14 csTk v K) (k : Nat) (hk : k < K.length) : ∃ g o cc id prio sk ge fx fy tx ty a c l st seq si lo ba bc bu, K[k] = ⟨⟨id, prio, sk, ge, fx, fy, tx, ty, a, c, l⟩, st, seq, si, lo, ba, bc, bu⟩ ∧ v = .slice (some ⟨g, o, none⟩) K.length cc ∧ K.length ≤ cc ∧
    w.cell? ⟨g, o + k * 14, none⟩ = some (.int .i64 id) ∧ w.cell? ⟨g, o + k * 14 + 1, none⟩ = some (.int .i64 prio) ∧ w.cell? ⟨g, o + k * 14 + 2, none⟩ = some (.int .u64 sk) ∧ w.cell? ⟨g, o + k * 14 + 3, none⟩ = some (.int .u64 ge) ∧ w.cell? ⟨g, o + k * 14 + 4, none⟩ = some (.int .i64 fx) ∧ w.cell? ⟨g, o + k * 14 + 5, none⟩ = some (.int .i64 fy) ∧ w.cell? ⟨g, o + k * 14 + 6, none⟩ = some (.int .i64 tx) ∧ w.cell? ⟨g, o + k * 14 + 7, none⟩ = some (.int .i64 ty) ∧ w.cell? ⟨g, o + k * 14 + 8, none⟩ = some (.slice a l.length c) ∧ w.cell? ⟨g, o + k * 14 + 9, none⟩ = some (.int .i64 st) ∧ w.cell? ⟨g, o + k * 14 + 10, none⟩ = some (.int .i64 seq) ∧ w.cell? ⟨g, o + k * 14 + 11, none⟩ = some (.int .i64 si) ∧ w.cell? ⟨g, o + k * 14 + 12, none⟩ = some (.int .i64 lo) ∧ w.cell? ⟨g, o + k * 14 + 13, none⟩ = some (.slice ba bu.length bc) := by
  obtain ⟨g, o, cc, e, hc, _, hx⟩ := RowsAt.spot h k hk
  generalize K[k] = x at *
  obtain ⟨⟨id, prio, sk, ge, fx, fy, tx, ty, a, c, l⟩, st, seq, si, lo, ba, bc, bu⟩ := x
  exact ⟨g, o, cc, id, prio, sk, ge, fx, fy, tx, ty, a, c, l, st, seq, si, lo, ba, bc, bu, rfl, e, hc, hx 0 _ rfl, hx 1 _ rfl, hx 2 _ rfl, hx 3 _ rfl, hx 4 _ rfl, hx 5 _ rfl, hx 6 _ rfl, hx 7 _ rfl, hx 8 _ rfl, hx 9 _ rfl, hx 10 _ rfl, hx 11 _ rfl, hx 12 _ rfl, hx 13 _ rfl⟩
theorem nm_start (w : World) : Blk ((((w.alloc (.cells #[.map none, .map none] 72)).alloc (.map #[] 0)).alloc (.map #[] 0)).alloc (.cells #[.map (some (w.heap.size + 1)), .map (some (w.heap.size + 1 + 1))] 72)) (w.heap.size + 1 + 1 + 1) [.map (some (w.heap.size + 1)), .map (some (w.heap.size + 1 + 1))] ∧
    MapI ((((w.alloc (.cells #[.map none, .map none] 72)).alloc (.map #[] 0)).alloc (.map #[] 0)).alloc (.cells #[.map (some (w.heap.size + 1)), .map (some (w.heap.size + 1 + 1))] 72)) (w.heap.size + 1) 0 (fun _ => none) ∧
    MapI ((((w.alloc (.cells #[.map none, .map none] 72)).alloc (.map #[] 0)).alloc (.map #[] 0)).alloc (.cells #[.map (some (w.heap.size + 1)), .map (some (w.heap.size + 1 + 1))] 72)) (w.heap.size + 1 + 1) 0 (fun _ => none) ∧
    Blk ((((w.alloc (.cells #[.map none, .map none] 72)).alloc (.map #[] 0)).alloc (.map #[] 0)).alloc (.cells #[.map (some (w.heap.size + 1)), .map (some (w.heap.size + 1 + 1))] 72)) w.heap.size [.map none, .map none] ∧
    Below w.heap.size w ((((w.alloc (.cells #[.map none, .map none] 72)).alloc (.map #[] 0)).alloc (.map #[] 0)).alloc (.cells #[.map (some (w.heap.size + 1)), .map (some (w.heap.size + 1 + 1))] 72)) := by
  have b1 := (Below.refl w.heap.size w).alloc (Nat.le_refl _) (.cells #[.map none, .map none] 72)
  have f1 := Blk.new w [.map none, .map none] 72
  have s1 : (w.alloc (.cells #[.map none, .map none] 72)).heap.size = w.heap.size + 1 := by simp
  generalize w.alloc (.cells #[.map none, .map none] 72) = W1 at *
  generalize w.heap.size = n at *
  have b2 := (Below.refl W1.heap.size W1).alloc (Nat.le_refl _) (.map #[] 0)
  have f2 := MapI.new W1
  have s2 : (W1.alloc (.map #[] 0)).heap.size = n + 1 + 1 := by simp [s1]
  rw [s1] at f2
  generalize W1.alloc (.map #[] 0) = W2 at *
  have b3 := (Below.refl W2.heap.size W2).alloc (Nat.le_refl _) (.map #[] 0)
  have f3 := MapI.new W2
  have s3 : (W2.alloc (.map #[] 0)).heap.size = n + 1 + 1 + 1 := by simp [s2]
  rw [s2] at f3
  generalize W2.alloc (.map #[] 0) = W3 at *
  have b4 := (Below.refl W3.heap.size W3).alloc (Nat.le_refl _) (.cells #[.map (some (n + 1)), .map (some (n + 1 + 1))] 72)
  have f4 := Blk.new W3 [.map (some (n + 1)), .map (some (n + 1 + 1))] 72
  rw [s3] at f4
  have c3 := b3.trans (b4.mono b3.size)
  have c2 := b2.trans (c3.mono b2.size)
  have hs : n ≤ W1.heap.size := by omega
  exact ⟨f4, f2.kept c3, f3.kept b4, f1.kept c2, b1.trans (c2.mono hs)⟩

set_option maxHeartbeats 4000000 in
set_option maxRecDepth 100000 in
theorem namesOf_any (vk vl : Value) (K : List Tk) (L : List Sp) (w : World) (hk : RowsAt w 14 csTk vk K) (hl : SpsAt w vl L) (hkl : K.length ≤ 1000) (hll : L.length ≤ 1000) (hK : ∀ t ∈ K, I64 t.sp.id ∧ I64 t.st) (hL : ∀ x ∈ L, I64 x.id) :
    Calls Try.prog 34 #[vk, vl] w fun e w' => ∃ bk bs, e = .returned (nmv bk bs) ∧ NmAt w' bk bs K L ∧ Below w.heap.size w w' := by
  obtain ⟨va, vc, rfl⟩ := RowsAt.form hk
  obtain ⟨la, lc, rfl⟩ := hl.form
  have HK := Lib.hid hk
  have HL := Lib.hid hl
  have HK64 := Lib.hid hK
  have HL64 := Lib.hid hL
  obtain ⟨hN, hM1, hM2, hZ, hB⟩ := nm_start w
  have HN := Lib.hid hN
  have HM1 := Lib.hid hM1
  have HM2 := Lib.hid hM2
  have HZ := Lib.hid hZ
  have HB := Lib.hid hB
  have hmk : ∀ w : World, (Instr.makeMap 27 none).run Try.prog w = .ok (.map (some w.heap.size)) (w.alloc (.map #[] 0)) := fun w => by kernel_rfl
  clear hk hl hK hL hN hM1 hM2 hZ hB
  go_enter Try.func34, Try.ntmps34
  go_upto_region 2 with (fail)
  generalize (((w.alloc (.cells #[.map none, .map none] 72)).alloc (.map #[] 0)).alloc (.map #[] 0)).alloc (.cells #[.map (some (w.heap.size + 1)), .map (some (w.heap.size + 1 + 1))] 72) = W1 at *
  obtain ⟨nb, hnb⟩ : ∃ nb, nb = w.heap.size + 1 + 1 + 1 := ⟨_, rfl⟩
  obtain ⟨sb, hsb⟩ : ∃ sb, sb = w.heap.size + 1 + 1 := ⟨_, rfl⟩
  obtain ⟨mb, hmb⟩ : ∃ mb, mb = w.heap.size + 1 := ⟨_, rfl⟩
  rw [← hnb, ← hsb, ← hmb] at HN
  rw [← hmb] at HM1
  rw [← hsb] at HM2
  rw [← hnb]
  have HWM := Lib.hid (show w.heap.size < mb ∧ w.heap.size < sb ∧ w.heap.size < nb ∧ mb ≠ sb ∧ nb ≠ mb ∧ nb ≠ sb by omega)
  clear hnb hsb hmb hmk
  go_wp2
  go_loopw [17] (fun i wr => ∃ k m : Nat, k ≤ K.length ∧ m ≤ k ∧ i = .int .i64 k ∧ MapI wr mb m (stO (K.take k)) ∧ Only (fun x => x = mb) W1 wr) (fun i _ => K.length - (intOf i).toNat)
  case atStart => exact ⟨0, 0, Nat.zero_le _, Nat.le_refl _, rfl, HM1.out, Only.refl _ _⟩
  case round =>
    obtain ⟨k, m, hk, hmk, rfl, hmi, ho⟩ := hrel
    have hBr : Below w.heap.size w wr := HB.out.trans ((ho.mono (F' := fun k => w.heap.size ≤ k) fun k e => by have := HWM.out; omega).below (fun k hk => hk) HB.out.size)
    have hNr := HN.out.only ho (fun e => HWM.out.2.2.2.2.1 e)
    by_cases hlt : k < K.length
    · obtain ⟨g, o, cc, id, prio, sk, ge, fx, fy, tx, ty, a, c, l, st, seq, si, lo, ba, bc, bu, he, e, hlc, p0, p1, p2, p3, p4, p5, p6, p7, p8, p9, p10, p11, p12, p13⟩ := tks_spot (RowsAt.kept HK.out hBr) k hlt
      cases e
      have hx64 := HK64.out _ (List.getElem_mem hlt)
      have hst := stO_take K k hlt
      rw [he] at hx64 hst
      dsimp only at hx64 hst
      have hal := (Below.refl wr.heap.size wr).alloc (Nat.le_refl _) (.cells #[.int .i64 id, .int .i64 prio, .int .u64 sk, .int .u64 ge, .int .i64 fx, .int .i64 fy, .int .i64 tx, .int .i64 ty, .slice a l.length c, .int .i64 st, .int .i64 seq, .int .i64 si, .int .i64 lo, .slice ba bu.length bc] 43)
      have hX := Blk.new wr [.int .i64 id, .int .i64 prio, .int .u64 sk, .int .u64 ge, .int .i64 fx, .int .i64 fy, .int .i64 tx, .int .i64 ty, .slice a l.length c, .int .i64 st, .int .i64 seq, .int .i64 si, .int .i64 lo, .slice ba bu.length bc] 43
      have x0 := hX.cell 0 rfl
      have x9 := hX.cell 9 rfl
      have hN5 := hNr.kept hal
      have g0 := hN5.cell 0 rfl
      have hm5 := hmi.kept hal
      have hlk := hm5.look hx64.1
      have k1 : (k : Int) < (K.length : Int) := by omega
      have k0 : (0 : Int) ≤ (k : Int) := by omega
      have HMI := Lib.hid hmi
      have HM5 := Lib.hid hm5
      have HO := Lib.hid ho
      have HAL := Lib.hid hal
      have HX64 := Lib.hid hx64
      obtain ⟨so, hso⟩ : ∃ so, stO (K.take k) id = so := ⟨_, rfl⟩
      rw [hso] at hlk hst
      have HSO := Lib.hid hso
      cases so with
      | some s =>
        simp only [Option.getD_some, Option.isSome_some, if_true] at hlk hst
        have HST := Lib.hid hst
        clear hmi hm5 ho hal hX hN5 hNr hBr hst hx64 he hso
        go_wp2
        go_roundw
        case rel => exact ⟨k + 1, m, by omega, by omega, by go_num, by rw [HST.out]; exact HM5.out, HO.out.trans (Only.of_below HAL.out)⟩
        case measure => simp [intOf]; omega
      | none =>
        simp only [Option.getD_none, Option.isSome_none, if_false, Bool.false_eq_true] at hlk hst
        obtain ⟨w7, hrun, h7, g7⟩ := hm5.put (by omega) hx64.1 st hx64.2
        rw [hso, Option.isSome_none, if_neg (by decide), ← hst] at h7
        have H7 := Lib.hid h7
        have G7 := Lib.hid g7
        clear hmi hm5 ho hal hX hN5 hNr hBr hst hx64 he hso h7 g7
        go_wp2
        go_roundw
        case rel => exact ⟨k + 1, m + 1, by omega, by omega, by go_num, H7.out, (HO.out.trans (Only.of_below HAL.out)).grownN G7.out fun b e => by injection e with e; exact .inl e.symm⟩
        case measure => simp [intOf]; omega
    · have hke : k = K.length := by omega
      subst hke
      rw [List.take_length] at hmi
      have hsb2 := HM2.out.same (ho.block sb HM2.out.lt fun e => HWM.out.2.2.2.1 e.symm)
      have hZr := HZ.out.only ho (fun e => by have := HWM.out; omega)
      have HMI := Lib.hid hmi
      have HSB := Lib.hid hsb2
      have HZ2 := Lib.hid hZr
      have HN2 := Lib.hid hNr
      have HB2 := Lib.hid hBr
      generalize wr = W2 at *
      clear hmi ho hsb2 hZr hNr hBr HN HZ HB HM1 HM2 HK HK64 hlt hk
      go_wp2
      go_loopw [42] (fun i wr => ∃ k m : Nat, k ≤ L.length ∧ m ≤ k ∧ i = .int .i64 k ∧ MapI wr sb m (cntG (idsO (L.take k))) ∧ Only (fun x => x = sb) W2 wr) (fun i _ => L.length - (intOf i).toNat)
      case atStart => exact ⟨0, 0, Nat.zero_le _, Nat.le_refl _, rfl, HSB.out, Only.refl _ _⟩
      case round =>
        obtain ⟨k, m2, hk, hmk2, rfl, hmi, ho⟩ := hrel
        have hBr : Below w.heap.size w wr := HB2.out.trans ((ho.mono (F' := fun k => w.heap.size ≤ k) fun k e => by have := HWM.out; omega).below (fun k hk => hk) HB2.out.size)
        have hNr := HN2.out.only ho (fun e => HWM.out.2.2.2.2.2 e)
        by_cases hlt : k < L.length
        · obtain ⟨g, o, cc, id, prio, sk, ge, fx, fy, tx, ty, a, c, l, he, e, hlc, p0, p1, p2, p3, p4, p5, p6, p7, p8, hi8⟩ := (HL.out.kept hBr).spot k hlt
          cases e
          have hx64 := HL64.out _ (List.getElem_mem hlt)
          have hst := idsO_take L k hlt
          rw [he] at hx64 hst
          dsimp only at hx64 hst
          have hal := (Below.refl wr.heap.size wr).alloc (Nat.le_refl _) (.cells #[.int .i64 id, .int .i64 prio, .int .u64 sk, .int .u64 ge, .int .i64 fx, .int .i64 fy, .int .i64 tx, .int .i64 ty, .slice a l.length c] 41)
          have hX := Blk.new wr [.int .i64 id, .int .i64 prio, .int .u64 sk, .int .u64 ge, .int .i64 fx, .int .i64 fy, .int .i64 tx, .int .i64 ty, .slice a l.length c] 41
          have x0 := hX.cell 0 rfl
          have hN5 := hNr.kept hal
          have g1 := hN5.cell 1 rfl
          have hm5 := hmi.kept hal
          have hlk := hm5.look1 hx64
          rw [cntG_getD] at hlk
          have hc1 : (idsO (L.take k)).count id ≤ 1000 := by
            have := List.count_le_length (a := id) (l := idsO (L.take k))
            rw [idsO_len, List.length_take] at this
            omega
          have hup := cntG_snoc (idsO (L.take k)) id
          rw [← hst] at hup
          generalize (idsO (L.take k)).count id = q at *
          have q1 : (q : Int) ≤ 1000 := by omega
          have q0 : (0 : Int) ≤ (q : Int) := by omega
          have k1 : (k : Int) < (L.length : Int) := by omega
          have k0 : (0 : Int) ≤ (k : Int) := by omega
          obtain ⟨w7, hrun, h7, g7⟩ := hm5.put (by omega) hx64 ((q : Int) + 1) (by unfold I64; omega)
          rw [← hup] at h7
          have hm7 : (if (cntG (idsO (L.take k)) id).isSome then m2 else m2 + 1) ≤ k + 1 := by split <;> omega
          generalize (if (cntG (idsO (L.take k)) id).isSome then m2 else m2 + 1) = m3 at *
          have H7 := Lib.hid h7
          have G7 := Lib.hid g7
          have HO := Lib.hid ho
          have HAL := Lib.hid hal
          clear hmi hm5 ho hal hX hN5 hNr hBr hst hx64 he h7 g7 hup hi8 hc1
          go_wp2
          go_roundw
          case rel => exact ⟨k + 1, m3, by omega, by omega, by go_num, H7.out, (HO.out.trans (Only.of_below HAL.out)).grownN G7.out fun b e => by injection e with e; exact .inl e.symm⟩
          case measure => simp [intOf]; omega
        · have hke : k = L.length := by omega
          subst hke
          rw [List.take_length] at hmi
          have hZq := HZ2.out.only ho fun e => by have := HWM.out; omega
          have hkq := HMI.out.same (ho.block mb HMI.out.lt fun e => HWM.out.2.2.2.1 e)
          have z0 := hZq.cell 0 rfl
          have z1 := hZq.cell 1 rfl
          have y0 := hZq.free 0 rfl
          have y1 := hZq.free 1 rfl
          have g0 := hNr.cell 0 rfl
          have g1 := hNr.cell 1 rfl
          have HZq := Lib.hid hZq
          have HKQ := Lib.hid hkq
          have HSQ := Lib.hid hmi
          have HBq := Lib.hid hBr
          clear hk hlt hmi ho hBr hZq hkq hNr
          go_wp2
          have hF := (HZq.out.set 0 (.map (some mb))).set 1 (.map (some sb))
          simp only [List.set_cons_zero, List.set_cons_succ] at hF
          have f0 := hF.cell 0 rfl
          have f1 := hF.cell 1 rfl
          have he : ∀ b, b ≠ w.heap.size → ((wr.setCell ⟨w.heap.size, 0, none⟩ (.map (some mb))).setCell ⟨w.heap.size, 1, none⟩ (.map (some sb))).heap[b]? = wr.heap[b]? := fun b hb => by
            rw [Below.heap_setCell _ _ _ _ (by exact hb), Below.heap_setCell _ _ _ _ (by exact hb)]
          have hbz := (HBq.out.setCell (p := ⟨w.heap.size, 0, none⟩) (Nat.le_refl _) (.map (some mb))).setCell (p := ⟨w.heap.size, 1, none⟩) (Nat.le_refl _) (.map (some sb))
          exact bodyPost_ret (v := nmv mb sb) (by simp [results, Try.results34, go_sem, f0, f1]) rfl ⟨mb, sb, rfl, ⟨⟨_, HKQ.out.same (he mb (by have := HWM.out; omega))⟩, ⟨_, HSQ.out.same (he sb (by have := HWM.out; omega))⟩⟩, hbz⟩
end Go.Proofs.Ythchkhgimnchcaa
/- Stage 23's program: which may be admitted, one by one. -/
namespace Go.Proofs.Ythchkhgimnchcaa
open Go.RowKit Go.Maps

/-- the boxes of names and a spec -/
theorem nm_box (w : World) (bk bs : Nat) (id prio sk ge fx fy tx ty : Int) (a : Option Addr) (l : List Int) (c : Nat) : Blk ((w.alloc (.cells #[.map (some bk), .map (some bs)] 72)).alloc (.cells #[.int .i64 id, .int .i64 prio, .int .u64 sk, .int .u64 ge, .int .i64 fx, .int .i64 fy, .int .i64 tx, .int .i64 ty, .slice a l.length c] 41)) w.heap.size [.map (some bk), .map (some bs)] ∧ Blk ((w.alloc (.cells #[.map (some bk), .map (some bs)] 72)).alloc (.cells #[.int .i64 id, .int .i64 prio, .int .u64 sk, .int .u64 ge, .int .i64 fx, .int .i64 fy, .int .i64 tx, .int .i64 ty, .slice a l.length c] 41)) (w.heap.size + 1) [.int .i64 id, .int .i64 prio, .int .u64 sk, .int .u64 ge, .int .i64 fx, .int .i64 fy, .int .i64 tx, .int .i64 ty, .slice a l.length c] ∧ Below w.heap.size w ((w.alloc (.cells #[.map (some bk), .map (some bs)] 72)).alloc (.cells #[.int .i64 id, .int .i64 prio, .int .u64 sk, .int .u64 ge, .int .i64 fx, .int .i64 fy, .int .i64 tx, .int .i64 ty, .slice a l.length c] 41)) := by
  have b1 := (Below.refl w.heap.size w).alloc (Nat.le_refl _) (.cells #[.map (some bk), .map (some bs)] 72)
  have f1 := Blk.new w [.map (some bk), .map (some bs)] 72
  have s1 : (w.alloc (.cells #[.map (some bk), .map (some bs)] 72)).heap.size = w.heap.size + 1 := by simp
  generalize w.alloc (.cells #[.map (some bk), .map (some bs)] 72) = W1 at *
  have b2 := (Below.refl W1.heap.size W1).alloc (Nat.le_refl _) (.cells #[.int .i64 id, .int .i64 prio, .int .u64 sk, .int .u64 ge, .int .i64 fx, .int .i64 fy, .int .i64 tx, .int .i64 ty, .slice a l.length c] 41)
  have f2 := Blk.new W1 [.int .i64 id, .int .i64 prio, .int .u64 sk, .int .u64 ge, .int .i64 fx, .int .i64 fy, .int .i64 tx, .int .i64 ty, .slice a l.length c] 41
  rw [s1] at f2
  exact ⟨f1.kept b2, f2, b1.trans (b2.mono b1.size)⟩

set_option maxHeartbeats 2000000 in
theorem isNew_any (x : Sp) (bk bs : Nat) (K : List Tk) (L : List Sp) (w : World) (h : NmAt w bk bs K L) (hi : I64 x.id) :
    Calls Try.prog 36 #[nmv bk bs, spv x] w fun e w' => e = .returned (.bool (newB K L x)) ∧ Below w.heap.size w w' := by
  have hn : newB K L x = (!(stO K x.id).isSome && decide ((idsO L).count x.id = 1)) := rfl
  obtain ⟨r, hr⟩ : ∃ r, newB K L x = r := ⟨_, rfl⟩
  rw [hr] at hn ⊢
  obtain ⟨id, prio, sk, ge, fx, fy, tx, ty, a, c, l⟩ := x
  dsimp only [nmv, spv] at *
  obtain ⟨hX, hY, hB⟩ := nm_box w bk bs id prio sk ge fx fy tx ty a l c
  obtain ⟨⟨m1, h1⟩, ⟨m2, h2⟩⟩ := h.kept hB
  have l1 := h1.look hi
  have l2 := h2.look1 hi
  rw [cntG_getD] at l2
  have c0 := hX.cell 0 rfl
  have c1 := hX.cell 1 rfl
  have d0 := hY.cell 0 rfl
  generalize (idsO L).count id = q at *
  generalize stO K id = so at *
  have HB := Lib.hid hB
  clear hX hY hB h h1 h2 hr
  cases so with
  | some s =>
    simp only [Option.isSome_some, Bool.not_true, Bool.false_and, Option.getD_some] at hn l1
    have HF := Lib.hid hn.symm
    clear hn
    go_enter Try.func36, Try.ntmps36
    go_wp2
    go_ret
    exact ⟨ret_b HF.out, HB.out⟩
  | none =>
    simp only [Option.isSome_none, Bool.not_false, Bool.true_and, Option.getD_none] at hn l1
    by_cases hq : q = 1
    · subst hq
      have HF := Lib.hid (show true = r by rw [hn]; rfl)
      clear hn
      go_enter Try.func36, Try.ntmps36
      go_wp2
      go_ret
      exact ⟨ret_b HF.out, HB.out⟩
    · have HF := Lib.hid (show false = r by rw [hn]; simp [hq])
      have j1 : ¬ (q : Int) = 1 := by omega
      have j2 : ((q : Int) == 1) = false := beq_noI j1
      clear hn hq
      go_enter Try.func36, Try.ntmps36
      go_wp2
      go_ret
      exact ⟨ret_b HF.out, HB.out⟩

set_option maxHeartbeats 2000000 in
theorem named1_any (id : Int) (b bk bs : Nat) (K : List Tk) (L : List Sp) (w : World) (hX : Blk w b [.map (some bk), .map (some bs)]) (h : NmAt w bk bs K L) (hi : I64 id) :
    Calls Try.prog 46 #[.int .i64 id, .pointer (some ⟨b, 0, none⟩)] w fun e w' => e = .returned (.bool (namedI K L id)) ∧ Below w.heap.size w w' := by
  have hn : namedI K L id = ((stO K id).isSome || decide (0 < (idsO L).count id)) := rfl
  obtain ⟨r, hr⟩ : ∃ r, namedI K L id = r := ⟨_, rfl⟩
  rw [hr] at hn ⊢
  obtain ⟨⟨m1, h1⟩, ⟨m2, h2⟩⟩ := h
  have l1 := h1.look hi
  have l2 := h2.look1 hi
  rw [cntG_getD] at l2
  have c0 := hX.cell 0 rfl
  have c1 := hX.cell 1 rfl
  generalize (idsO L).count id = q at *
  generalize stO K id = so at *
  clear hX h1 h2 hr
  cases so with
  | some s =>
    simp only [Option.isSome_some, Bool.true_or, Option.getD_some] at hn l1
    have HF := Lib.hid hn.symm
    clear hn
    go_enter Try.func46, Try.ntmps46
    go_wp2
    go_ret
    exact ⟨ret_b HF.out, Below.refl _ _⟩
  | none =>
    simp only [Option.isSome_none, Bool.false_or, Option.getD_none] at hn l1
    by_cases hq : 0 < q
    · have HF := Lib.hid (show true = r by rw [hn]; simp [hq])
      have j1 : (0 : Int) < (q : Int) := by omega
      clear hn hq
      go_enter Try.func46, Try.ntmps46
      go_wp2
      go_ret
      first
        | exact ⟨ret_b HF.out, Below.refl _ _⟩
        | exact ⟨ret_b ((decide_eq_true (by omega)).trans HF.out), Below.refl _ _⟩
    · have HF := Lib.hid (show false = r by rw [hn]; simp [hq])
      have e : q = 0 := by omega
      subst e
      clear hn hq
      go_enter Try.func46, Try.ntmps46
      go_wp2
      go_ret
      first
        | exact ⟨ret_b HF.out, Below.refl _ _⟩
        | exact ⟨ret_b ((decide_eq_false (by omega)).trans HF.out), Below.refl _ _⟩

set_option maxHeartbeats 2000000 in
theorem come1_any (id : Int) (b bk bs : Nat) (K : List Tk) (L : List Sp) (w : World) (hX : Blk w b [.map (some bk), .map (some bs)]) (h : NmAt w bk bs K L) (hi : I64 id) :
    Calls Try.prog 47 #[.int .i64 id, .pointer (some ⟨b, 0, none⟩)] w fun e w' => e = .returned (.bool (comeI K id)) ∧ Below w.heap.size w w' := by
  have hn : comeI K id = (!decide ((stO K id).getD 0 = 5) && !decide ((stO K id).getD 0 = 6)) := rfl
  obtain ⟨r, hr⟩ : ∃ r, comeI K id = r := ⟨_, rfl⟩
  rw [hr] at hn ⊢
  obtain ⟨⟨m1, h1⟩, ⟨m2, h2⟩⟩ := h
  have l1 := h1.look1 hi
  have c0 := hX.cell 0 rfl
  generalize (stO K id).getD 0 = s at *
  clear hX h1 h2 hr
  by_cases e5 : s = 5
  · subst e5
    have HF := Lib.hid (show false = r by rw [hn]; rfl)
    clear hn
    go_enter Try.func47, Try.ntmps47
    go_wp2
    go_ret
    exact ⟨ret_b HF.out, Below.refl _ _⟩
  by_cases e6 : s = 6
  · subst e6
    have HF := Lib.hid (show false = r by rw [hn]; rfl)
    clear hn e5
    go_enter Try.func47, Try.ntmps47
    go_wp2
    go_ret
    exact ⟨ret_b HF.out, Below.refl _ _⟩
  have HF := Lib.hid (show (s != 5 && s != 6) = r by rw [hn]; simp [e5, e6])
  have j5 : (s == 5) = false := beq_noI e5
  have j6 : (s == 6) = false := beq_noI e6
  clear hn
  go_enter Try.func47, Try.ntmps47
  go_wp2
  go_ret
  exact ⟨ret_b HF.out, Below.refl _ _⟩

set_option maxHeartbeats 2000000 in
theorem over1_any (id : Int) (b bk bs : Nat) (K : List Tk) (L : List Sp) (w : World) (hX : Blk w b [.map (some bk), .map (some bs)]) (h : NmAt w bk bs K L) (hi : I64 id) :
    Calls Try.prog 49 #[.int .i64 id, .pointer (some ⟨b, 0, none⟩)] w fun e w' => e = .returned (.bool (overI K id)) ∧ Below w.heap.size w w' := by
  have hn : overI K id = decide ((stO K id).getD 0 = 4) := rfl
  obtain ⟨r, hr⟩ : ∃ r, overI K id = r := ⟨_, rfl⟩
  rw [hr] at hn ⊢
  obtain ⟨⟨m1, h1⟩, ⟨m2, h2⟩⟩ := h
  have l1 := h1.look1 hi
  have c0 := hX.cell 0 rfl
  generalize (stO K id).getD 0 = s at *
  clear hX h1 h2 hr
  by_cases e4 : s = 4
  · subst e4
    have HF := Lib.hid (show true = r by rw [hn]; rfl)
    clear hn
    go_enter Try.func49, Try.ntmps49
    go_wp2
    go_ret
    exact ⟨ret_b HF.out, Below.refl _ _⟩
  have HF := Lib.hid (show false = r by rw [hn]; simp [e4])
  have j4 : (s == 4) = false := beq_noI e4
  clear hn
  go_enter Try.func49, Try.ntmps49
  go_wp2
  go_ret
  exact ⟨ret_b HF.out, Below.refl _ _⟩

set_option maxHeartbeats 2000000 in
theorem isNamed_any (x : Sp) (bk bs : Nat) (K : List Tk) (L : List Sp) (w : World) (h : NmAt w bk bs K L) (hx : IntsAt w x.v x.aft) (hl : x.aft.length ≤ 1000000) (hi : ∀ n ∈ x.aft, I64 n) :
    Calls Try.prog 37 #[nmv bk bs, spv x] w fun e w' => e = .returned (.bool (namedB K L x)) ∧ Below w.heap.size w w' := by
  have hn : x.aft.all (namedI K L) = namedB K L x := rfl
  obtain ⟨r, hr⟩ : ∃ r, namedB K L x = r := ⟨_, rfl⟩
  rw [hr] at hn ⊢
  obtain ⟨id, prio, sk, ge, fx, fy, tx, ty, a, c, l⟩ := x
  dsimp only [nmv, spv, Sp.v] at *
  obtain ⟨hX, hY, hB⟩ := nm_box w bk bs id prio sk ge fx fy tx ty a l c
  have hA := fun w' (hb : Below w.heap.size w w') (hX : Blk w' w.heap.size [.map (some bk), .map (some bs)]) => allI_any (namedI K L) 46 (.pointer (some ⟨w.heap.size, 0, none⟩)) (fun _ _ => by kernel_rfl) (.slice a l.length c) l w' (hx.below hb) hl
    (fun w'' y hy hb2 => named1_any y w.heap.size bk bs K L w'' (hX.kept hb2) ((h.kept hb).kept hb2) (hi y hy))
  rw [hn] at hA
  have HA := Lib.hid (hA _ hB hX)
  have hmf : ∀ (fn : Fn) (first cap : Array Value) (w : World), (Instr.makeFunc fn first cap).run Try.prog w = .ok (.func fn first cap) w := fun _ _ _ _ => rfl
  have d6 := hY.cell 8 rfl
  have HB := Lib.hid hB
  clear hA hX hY hB h hx hl hi hn hr
  go_enter Try.func37, Try.ntmps37
  go_wp2_with (go_at_call 45; (with_reducible refine HA.out.mono ?_); rintro e w1 ⟨rfl, hb⟩; have HB1 := Lib.hid (HB.out.trans (hb.mono HB.out.size)); clear hb)
  go_ret
  exact ⟨rfl, HB1.out⟩

set_option maxHeartbeats 2000000 in
theorem isCome_any (x : Sp) (bk bs : Nat) (K : List Tk) (L : List Sp) (w : World) (h : NmAt w bk bs K L) (hx : IntsAt w x.v x.aft) (hl : x.aft.length ≤ 1000000) (hi : ∀ n ∈ x.aft, I64 n) :
    Calls Try.prog 38 #[nmv bk bs, spv x] w fun e w' => e = .returned (.bool (comeB K x)) ∧ Below w.heap.size w w' := by
  have hn : x.aft.all (comeI K) = comeB K x := rfl
  obtain ⟨r, hr⟩ : ∃ r, comeB K x = r := ⟨_, rfl⟩
  rw [hr] at hn ⊢
  obtain ⟨id, prio, sk, ge, fx, fy, tx, ty, a, c, l⟩ := x
  dsimp only [nmv, spv, Sp.v] at *
  obtain ⟨hX, hY, hB⟩ := nm_box w bk bs id prio sk ge fx fy tx ty a l c
  have hA := fun w' (hb : Below w.heap.size w w') (hX : Blk w' w.heap.size [.map (some bk), .map (some bs)]) => allI_any (comeI K) 47 (.pointer (some ⟨w.heap.size, 0, none⟩)) (fun _ _ => by kernel_rfl) (.slice a l.length c) l w' (hx.below hb) hl
    (fun w'' y hy hb2 => come1_any y w.heap.size bk bs K L w'' (hX.kept hb2) ((h.kept hb).kept hb2) (hi y hy))
  rw [hn] at hA
  have HA := Lib.hid (hA _ hB hX)
  have hmf : ∀ (fn : Fn) (first cap : Array Value) (w : World), (Instr.makeFunc fn first cap).run Try.prog w = .ok (.func fn first cap) w := fun _ _ _ _ => rfl
  have d6 := hY.cell 8 rfl
  have HB := Lib.hid hB
  clear hA hX hY hB h hx hl hi hn hr
  go_enter Try.func38, Try.ntmps38
  go_wp2_with (go_at_call 45; (with_reducible refine HA.out.mono ?_); rintro e w1 ⟨rfl, hb⟩; have HB1 := Lib.hid (HB.out.trans (hb.mono HB.out.size)); clear hb)
  go_ret
  exact ⟨rfl, HB1.out⟩

set_option maxHeartbeats 2000000 in
theorem isFree_any (x : Sp) (bk bs : Nat) (K : List Tk) (L : List Sp) (w : World) (h : NmAt w bk bs K L) (hx : IntsAt w x.v x.aft) (hl : x.aft.length ≤ 1000000) (hi : ∀ n ∈ x.aft, I64 n) :
    Calls Try.prog 40 #[nmv bk bs, spv x] w fun e w' => e = .returned (.bool (freeB K x)) ∧ Below w.heap.size w w' := by
  have hn : x.aft.all (overI K) = freeB K x := rfl
  obtain ⟨r, hr⟩ : ∃ r, freeB K x = r := ⟨_, rfl⟩
  rw [hr] at hn ⊢
  obtain ⟨id, prio, sk, ge, fx, fy, tx, ty, a, c, l⟩ := x
  dsimp only [nmv, spv, Sp.v] at *
  obtain ⟨hX, hY, hB⟩ := nm_box w bk bs id prio sk ge fx fy tx ty a l c
  have hA := fun w' (hb : Below w.heap.size w w') (hX : Blk w' w.heap.size [.map (some bk), .map (some bs)]) => allI_any (overI K) 49 (.pointer (some ⟨w.heap.size, 0, none⟩)) (fun _ _ => by kernel_rfl) (.slice a l.length c) l w' (hx.below hb) hl
    (fun w'' y hy hb2 => over1_any y w.heap.size bk bs K L w'' (hX.kept hb2) ((h.kept hb).kept hb2) (hi y hy))
  rw [hn] at hA
  have HA := Lib.hid (hA _ hB hX)
  have hmf : ∀ (fn : Fn) (first cap : Array Value) (w : World), (Instr.makeFunc fn first cap).run Try.prog w = .ok (.func fn first cap) w := fun _ _ _ _ => rfl
  have d6 := hY.cell 8 rfl
  have HB := Lib.hid hB
  clear hA hX hY hB h hx hl hi hn hr
  go_enter Try.func40, Try.ntmps40
  go_wp2_with (go_at_call 45; (with_reducible refine HA.out.mono ?_); rintro e w1 ⟨rfl, hb⟩; have HB1 := Lib.hid (HB.out.trans (hb.mono HB.out.size)); clear hb)
  go_ret
  exact ⟨rfl, HB1.out⟩

end Go.Proofs.Ythchkhgimnchcaa
/- One struct behind a list of one's own: the builtin's law with its side conditions met. FOR ALL LATER STAGES. -/
namespace Go.Proofs.Ythchkhgimnchcaa
open Go.RowKit

theorem appK {α : Type} {cs : α → List Value} {K : Nat} (hlen : ∀ x, (cs x).length = K) (hK0 : 0 < K) (hone : ∀ x, ∀ u ∈ cs x, u.oneCell' = true) (e ts : TypeId) (i : TypeInfo) (z : Value) (bytes : Nat) (ht : Try.prog.underlying ts = some (.slice e)) (hi : Try.prog.info? e = some i) (hz : i.zero = some z) (hsize : i.size = K) (hby : i.bytes = bytes) (hzs : z.cells.size = K) (hb : bytes ≤ 1000)
    {ops : Array Oper} {rest : List Oper} {o : Oper} {a : Act} {Q : Exit → Act → World → Prop} {B : Nat} {w : World} {x : α} {v : Value} {l : List α} (hown : OwnR w B e K cs v l) (hB : B ≤ w.heap.size) (hl : l.length ≤ 1000000)
    (hgd : o.guard = none) (s y : Operand) (ho : o.op = .call { callee := .builtin .append, args := #[s, y], argTypes := #[ts, ts] }) (hs : a.eval s = v) (hx : a.eval y = .slice (some ⟨w.heap.size, 0, none⟩) 1 1)
    (hK : ∀ v' w', OwnR w' B e K cs v' (l ++ [x]) → Below B w w' → Only (fun k => v.ownBlock = some k) w w' → (∀ k, v'.ownBlock = some k → v.ownBlock = some k ∨ w.heap.size ≤ k) → wpList Try.prog ops Q rest (a.put o.dst v') w') : wpList Try.prog ops Q (o :: rest) a (w.alloc (.cells (cs x).toArray e)) := by
  have ha := (Below.refl B w).alloc hB (.cells (cs x).toArray e)
  have h1 := OwnR.alloc hown (.cells (cs x).toArray e)
  have h2 : B ≤ (w.alloc (.cells (cs x).toArray e)).heap.size := Nat.le_trans hB ha.size
  refine wpList_append_lies _ hgd s y ts ho B e i z K bytes ht hi hz hsize hby hzs hK0 v l.length (flats cs l) hs h1 ⟨w.heap.size, 0, none⟩ 1 1 (cs x) hx (by rw [hlen]; omega) (World.news_of_block (cs := (cs x).toArray) (t := e) (fr := (0, 0)) (heap_alloc_new w _)) (hone x) (by omega) (by unfold maxLen; omega) (by
    have h3 : (l.length + 1) * bytes ≤ 1000001 * 1000 := Nat.mul_le_mul (by omega) hb
    omega) h2 (w.heap.size + 1) (by simp) fun g cap w' k1 k2 k3 _ => ?_
  exact hK _ w' (OwnR.snoc k1 rfl rfl) (OwnR.below h1 ha h2 k2) ((Only.of_below ((Below.refl w.heap.size w).alloc (Nat.le_refl _) _)).trans (Only.grown k2 fun k hk => hk)) fun k hk => by
    simp [Value.ownBlock] at hk
    subst hk
    exact k3.imp (fun h => h) fun h => by omega
end Go.Proofs.Ythchkhgimnchcaa
/- One arc behind a list of one's own. FOR ALL LATER STAGES. -/
namespace Go.Proofs.Ythchkhgimnchcaa
open Go.RowKit

theorem csArc_one (x : Arc16) : ∀ u ∈ csArc x, u.oneCell' = true := by
  intro u hu
  simp [csArc] at hu
  rcases hu with rfl | rfl <;> rfl
theorem info_arc : (Try.prog.info? 103).map (fun i => (i.zero, i.size, i.bytes)) = some (some (.agg #[.int .i64 0, .int .i64 0]), 2, 16) := by kernel_rfl
theorem appArc {ops : Array Oper} {rest : List Oper} {o : Oper} {a : Act} {Q : Exit → Act → World → Prop} {B : Nat} {w : World} (x : Arc16) {v : Value} {l : List Arc16} (hown : OwnR w B 103 2 csArc v l) (hB : B ≤ w.heap.size) (hl : l.length ≤ 1000000)
    (hgd : o.guard = none) (s y : Operand) (ho : o.op = .call { callee := .builtin .append, args := #[s, y], argTypes := #[101, 101] }) (hs : a.eval s = v) (hx : a.eval y = .slice (some ⟨w.heap.size, 0, none⟩) 1 1)
    (hK : ∀ v' w', OwnR w' B 103 2 csArc v' (l ++ [x]) → Below B w w' → wpList Try.prog ops Q rest (a.put o.dst v') w') : wpList Try.prog ops Q (o :: rest) a (w.alloc (.cells #[.int .i64 x.src, .int .i64 x.dst] 103)) := by
  obtain ⟨i, hi, hz, hs1, hb1⟩ := info_parts info_arc
  exact appK csArc_len (by decide) csArc_one 103 101 i _ 16 Try.underlying101 hi hz hs1 hb1 rfl (by decide) hown hB hl hgd s y ho hs hx fun v' w' h1 h2 _ _ => hK v' w' h1 h2
end Go.Proofs.Ythchkhgimnchcaa
