/- Texts of this proof, joined: TkA; PlanA; PlanB; PlanC; TkB; TkC; ArrEq; SkillMathB; PlanD; PlanE; PlanF; PlanG. -/
import Derived.Test.YthchkhgimnchcaaBun13
import Derived.BigQuiet
import Derived.Stop.BytesEq
import Derived.Lib.TrailingZeros
/- Stage 22: the program's Check: bounds that are asked by a goto. -/
namespace Go.Proofs.Ythchkhgimnchcaa
open Go.RowKit

/-- a list of things in new memory -/
theorem rowsLit {α : Type} {cs : α → List Value} {K : Nat} (hK : ∀ x, (cs x).length = K) (w : World) (l : List α) (e : TypeId) (n : Nat) (hn : n = l.length) : RowsAt (w.alloc (.cells (flats cs l).toArray e)) K cs (.slice (some ⟨w.heap.size, 0, none⟩) n n) l := by
  subst hn
  refine ⟨_, l.length, rfl, Nat.le_refl _, fun _ => ⟨w.heap.size, 0, rfl, by simp, fun j x hj i u hu => ?_⟩⟩
  have h := flats_at hK l j x hj i u hu
  rw [World.cell?_alloc_at _ _ _ _ rfl]
  simpa using h
abbrev bdv (b : Bd) : Value := .agg #[.int .i64 b.n, .int .i64 b.lo, .int .i64 b.hi]
theorem csBd_one (x : Bd) : ∀ u ∈ csBd x, u.oneCell' = true := by
  intro u hu
  simp [csBd] at hu
  rcases hu with rfl | rfl | rfl <;> rfl
theorem info_bd : (Try.prog.info? 98).map (fun i => (i.zero, i.size, i.bytes)) = some (some (.agg #[.int .i64 0, .int .i64 0, .int .i64 0]), 3, 24) := by kernel_rfl

set_option maxHeartbeats 1000000 in
theorem tOfID_any (n : Int) (w : World) : Calls Try.prog 62 #[.int .i64 n] w fun e w' => e = .returned (.agg #[.int .i64 n, .int .i64 1, .int .i64 999]) ∧ Below w.heap.size w w' := by
  have hX := Blk.new w [.int .i64 0, .int .i64 0, .int .i64 0] 98
  have c0 := hX.cell 0 rfl
  have c1 := hX.cell 1 rfl
  have c2 := hX.cell 2 rfl
  have z0 := hX.free 0 rfl
  have z1 := hX.free 1 rfl
  have z2 := hX.free 2 rfl
  have HB := Lib.hid ((Below.refl w.heap.size w).alloc (Nat.le_refl _) (.cells #[.int .i64 n, .int .i64 1, .int .i64 999] 98))
  clear hX
  go_enter Try.func62, Try.ntmps62
  go_wp2
  refine bodyPost_ret (v := .agg #[.int .i64 n, .int .i64 1, .int .i64 999]) ?_ rfl ⟨rfl, HB.out⟩
  simp [results, Try.results62, go_sem]
set_option maxHeartbeats 1000000 in
theorem tOfPart_any (n : Int) (w : World) : Calls Try.prog 63 #[.int .i64 n] w fun e w' => e = .returned (.agg #[.int .i64 n, .int .i64 (-1000), .int .i64 1000]) ∧ Below w.heap.size w w' := by
  have hX := Blk.new w [.int .i64 0, .int .i64 0, .int .i64 0] 98
  have c0 := hX.cell 0 rfl
  have c1 := hX.cell 1 rfl
  have c2 := hX.cell 2 rfl
  have z0 := hX.free 0 rfl
  have z1 := hX.free 1 rfl
  have z2 := hX.free 2 rfl
  have HB := Lib.hid ((Below.refl w.heap.size w).alloc (Nat.le_refl _) (.cells #[.int .i64 n, .int .i64 (-1000), .int .i64 1000] 98))
  clear hX
  go_enter Try.func63, Try.ntmps63
  go_wp2
  refine bodyPost_ret (v := .agg #[.int .i64 n, .int .i64 (-1000), .int .i64 1000]) ?_ rfl ⟨rfl, HB.out⟩
  simp [results, Try.results63, go_sem]

theorem kept_take {l : List Bd} {k : Nat} (hk : k < l.length) (h : (l.take k).all Bd.ok = true) (h2 : l[k].ok = true) : (l.take (k + 1)).all Bd.ok = true := by
  rw [List.take_succ_eq_append_getElem hk, List.all_append, h]
  simp [h2]
theorem kept_no {l : List Bd} {k : Nat} (hk : k < l.length) (h2 : l[k].ok = false) : l.all Bd.ok = false := by
  rw [List.all_eq_false]
  exact ⟨_, List.getElem_mem hk, by rw [h2]; exact Bool.false_ne_true⟩
theorem frame_of22 {A : Act} {F : (Nat → Value) → Act} (h : A = F (fun i => A.tmps.getD i undef)) : ∃ f, A = F f := ⟨_, h⟩

set_option maxHeartbeats 4000000 in
set_option maxRecDepth 100000 in
theorem tKept_any (va : Value) (l : List Bd) (w : World) (ha : RowsAt w 3 csBd va l) (hl : l.length ≤ 1000) :
    Calls Try.prog 61 #[va] w fun e w' => e = .returned (.bool (l.all Bd.ok)) ∧ Below w.heap.size w w' := by
  obtain ⟨r, hr⟩ : ∃ r, l.all Bd.ok = r := ⟨_, rfl⟩
  rw [hr]
  have HR := Lib.hid hr
  have HA := Lib.hid ha
  have HL := Lib.hid hl
  obtain ⟨a, c, rfl⟩ := RowsAt.form ha
  clear ha hr hl
  go_enter Try.func61, Try.ntmps61
  go_wp2
  refine wp_scope_goto 0 (fun n a' w' => ∃ (k : Nat) (z : Int), z = k ∧ n = l.length - k ∧ k ≤ l.length ∧ (l.take k).all Bd.ok = true ∧ Below w.heap.size w w' ∧ ∃ f : Nat → Value, a' = { tmps := #[.slice a l.length c, f 1, .bool false, .int .i64 z, f 4, f 5, f 6, f 7, f 8, f 9, f 10, f 11, f 12, f 13, f 14, f 15, f 16, f 17, f 18, f 19, f 20, f 21, f 22, f 23, f 24, f 25, f 26], defers := [] }) rfl rfl ?_ ?_
  · rintro n a' w' ⟨k, _, rfl, rfl, hk, hyes, hB, f, rfl⟩ K hK
    have HK := Lib.hid hK
    have HB := Lib.hid hB
    have k0 : (0 : Int) ≤ (k : Int) := by omega
    have k2 : (k : Int) ≤ 1000 := by have := HL.out; omega
    clear hK hB
    by_cases hlt : k < l.length
    · obtain ⟨g, o, cc, e, hlc, hg, hx⟩ := RowsAt.spot (HA.out.kept HB.out) k hlt
      cases e
      have k1 : (k : Int) < (l.length : Int) := by omega
      have ky := kept_take hlt hyes
      have kn := fun h => HR.out.symm.trans (kept_no hlt h)
      obtain ⟨b, hb⟩ : ∃ b, l[k] = b := ⟨_, rfl⟩
      rw [hb] at ky kn hx
      obtain ⟨n, lo, hi⟩ := b
      have p0 := hx 0 _ rfl
      have p1 := hx 1 _ rfl
      have p2 := hx 2 _ rfl
      dsimp only at p0 p1 p2
      rw [Nat.add_zero] at p0
      have hX := Blk.new w' [.int .i64 n, .int .i64 lo, .int .i64 hi] 98
      have d0 := hX.cell 0 rfl
      have d1 := hX.cell 1 rfl
      have d2 := hX.cell 2 rfl
      have HB1 := Lib.hid (HB.out.alloc HB.out.size (.cells #[.int .i64 n, .int .i64 lo, .int .i64 hi] 98))
      have hcase : (n < lo) ∨ (¬ n < lo ∧ hi < n) ∨ (¬ n < lo ∧ ¬ hi < n) := by omega
      unfold Bd.ok at ky kn
      dsimp only at ky kn
      clear hx hX hyes hb
      rcases hcase with h1 | ⟨h1, h2⟩ | ⟨h1, h2⟩
      · have e := kn (inB_no (by omega))
        subst e
        clear ky kn
        go_wp2
        simp only [Exit.jump]
        go_ret
        exact ⟨rfl, HB1.out⟩
      · have e := kn (inB_no (by omega))
        subst e
        clear ky kn
        go_wp2
        simp only [Exit.jump]
        go_ret
        exact ⟨rfl, HB1.out⟩
      · have KY := Lib.hid (ky (inB_yes (by omega) (by omega)))
        clear ky kn
        go_wp2
        go_step3
        exact ⟨rfl, HK.out (l.length - (k + 1)) _ _ (by omega) ⟨k + 1, _, by go_num, rfl, by omega, KY.out, HB1.out, frame_of22 rfl⟩⟩
    · have e : k = l.length := by omega
      subst e
      rw [List.take_length] at hyes
      have e := HR.out.symm.trans hyes
      subst e
      clear hyes hlt
      go_wp2
      simp only [Exit.jump]
      go_ret
      exact ⟨rfl, HB.out⟩
  · intro K hpass
    go_wp2
    go_step3
    rename_i hback
    exact hback _ _ (hpass _ _ _ ⟨0, _, rfl, rfl, by omega, rfl, Below.refl _ _, frame_of22 rfl⟩)
end Go.Proofs.Ythchkhgimnchcaa
/- The walks of package plan: its small functions. -/
namespace Go.Proofs.Ythchkhgimnchcaa
open Go.RowKit

theorem meet_is (a b : Ais) : meetB a b = decide (max a.lx b.lx ≤ min a.hx b.hx ∧ max a.ly b.ly ≤ min a.hy b.hy) := by
  unfold meetB hasB
  rw [← Bool.decide_and]
  apply decide_eq_decide.2
  omega

/-- both corners within the floor, in their order -/
def floorB (a : Ais) : Bool := decide (a.lx ≤ a.hx ∧ a.ly ≤ a.hy) && smallB a.lx a.ly 1000 && smallB a.hx a.hy 1000
theorem big_small (x y : Int) : decide (max (sz x) (sz y) ≤ 1000) = smallB x y 1000 := by
  unfold smallB sz fx
  apply decide_eq_decide.2
  omega

/-- where a way turns -/
def trn (h : Int) (a b : Int × Int) : Int × Int := if h = 1 then (a.1, b.2) else (b.1, a.2)
theorem pord_lt {a b : Nat} {x y : Int} (ha : Fl a x) (hb : Fl b y) : (FloatKind.f64.format.order a b == some .lt) = decide (x < y) := by
  rw [order_whole ha hb]
  rcases Int.lt_trichotomy x y with h | h | h
  · rw [show compare x y = .lt from Int.compare_eq_lt.2 h, decide_eq_true h]; rfl
  · rw [show compare x y = .eq from Int.compare_eq_eq.2 h, decide_eq_false (by omega)]; rfl
  · rw [show compare x y = .gt from Int.compare_eq_gt.2 h, decide_eq_false (by omega)]; rfl
theorem pord_gt {a b : Nat} {x y : Int} (ha : Fl a x) (hb : Fl b y) : (FloatKind.f64.format.order a b == some .gt) = decide (y < x) := by
  rw [order_whole ha hb]
  rcases Int.lt_trichotomy x y with h | h | h
  · rw [show compare x y = .lt from Int.compare_eq_lt.2 h, decide_eq_false (by omega)]; rfl
  · rw [show compare x y = .eq from Int.compare_eq_eq.2 h, decide_eq_false (by omega)]; rfl
  · rw [show compare x y = .gt from Int.compare_eq_gt.2 h, decide_eq_true h]; rfl
def sgn (x : Int) : Int := if x < 0 then -1 else if 0 < x then 1 else 0
end Go.Proofs.Ythchkhgimnchcaa
/- The walks of package plan: which aisle has a point, each two of a list. -/
namespace Go.Proofs.Ythchkhgimnchcaa
open Go.RowKit

theorem meet_pt (a : Ais) (x y : Int) : meetB a ⟨0, min x x, min y y, max x x, max y y⟩ = hasB a x y := by
  rw [meet_is]
  unfold hasB
  apply decide_eq_decide.2
  simp only
  omega

/-- a block of five cells -/
structure Cell5 (w : World) (b : Nat) (a : Ais) : Prop where
  c0 : w.cell? ⟨b, 0, none⟩ = some (.int .i64 a.id)
  c1 : w.cell? ⟨b, 1, none⟩ = some (.int .i64 a.lx)
  c2 : w.cell? ⟨b, 2, none⟩ = some (.int .i64 a.ly)
  c3 : w.cell? ⟨b, 3, none⟩ = some (.int .i64 a.hx)
  c4 : w.cell? ⟨b, 4, none⟩ = some (.int .i64 a.hy)
theorem Cell5.new (w : World) (a : Ais) (t : TypeId) : Cell5 (w.alloc (.cells #[.int .i64 a.id, .int .i64 a.lx, .int .i64 a.ly, .int .i64 a.hx, .int .i64 a.hy] t)) w.heap.size a :=
  ⟨by go_simp, by go_simp, by go_simp, by go_simp, by go_simp⟩
theorem Cell5.below {w w1 : World} {b B : Nat} {a : Ais} (h : Cell5 w b a) (hb : Below B w w1) (hB : b < B) : Cell5 w1 b a :=
  ⟨by rw [hb.cell hB]; exact h.c0, by rw [hb.cell hB]; exact h.c1, by rw [hb.cell hB]; exact h.c2, by rw [hb.cell hB]; exact h.c3, by rw [hb.cell hB]; exact h.c4⟩
theorem Cell5.kept {w w1 : World} {b : Nat} {a : Ais} (h : Cell5 w b a) (hb : Below w.heap.size w w1) : Cell5 w1 b a :=
  h.below hb (World.block_lt_of_cell? w _ h.c0)
theorem Cell5.alloc {w : World} {b : Nat} {a : Ais} (h : Cell5 w b a) (o : Obj) : Cell5 (w.alloc o) b a :=
  h.kept ((Below.refl _ _).alloc (Nat.le_refl _) _)

end Go.Proofs.Ythchkhgimnchcaa
/- The walks of package plan: whether aisles are a plan. -/
namespace Go.Proofs.Ythchkhgimnchcaa
open Go.RowKit

open Classical in
noncomputable def eachB (l : List Ais) : Bool := decide (∀ p q, p < q → q < l.length → meetB (pa l p) (pa l q) = false)
open Classical in
theorem eachB_yes {l : List Ais} (h : ∀ p q, p < q → q < l.length → meetB (pa l p) (pa l q) = false) : eachB l = true := decide_eq_true h
open Classical in
theorem eachB_no {l : List Ais} {p q : Nat} (h1 : p < q) (h2 : q < l.length) (h : meetB (pa l p) (pa l q) = true) : eachB l = false := decide_eq_false fun hh => by
  rw [hh p q h1 h2] at h
  cases h
theorem frame_of' {A : Act} {F : (Nat → Value) → Act} (h : A = F (fun i => A.tmps.getD i undef)) : ∃ f, A = F f := ⟨_, h⟩

theorem sq_le (L : Nat) (i : Nat) (h : i < L) : (L - (i + 1)) * (L + 2) + (L + 2) ≤ (L - i) * (L + 2) := by
  have : L - i = (L - (i + 1)) + 1 := by omega
  rw [this, Nat.add_mul]
  omega

/-- the ID ahead of the k-th -/
def pid (l : List Ais) (k : Nat) : Int := if k = 0 then 0 else (pa l (k - 1)).id
def stepB (l : List Ais) (k : Nat) : Bool := decide (pid l k < (pa l k).id ∧ (pa l k).id ≤ 999) && floorB (pa l k)
theorem pid_succ (l : List Ais) (k : Nat) : pid l (k + 1) = (pa l k).id := by unfold pid; rw [if_neg (by omega)]; rfl
theorem floor_iff (a : Ais) : floorB a = true ↔ valA a ∧ smallA a 1000 = true := by
  unfold floorB smallB valA
  rw [small_iff]
  simp only [Bool.and_eq_true, decide_eq_true_eq]
  omega
theorem right_of {l : List Ais} (h1 : l.length ≤ 32) (h2 : ∀ k, k < l.length → stepB l k = true) (h3 : eachB l = true) : rightP l = true := by
  rw [rightP_iff]
  refine ⟨h1, fun k hk => ?_⟩
  have hs : ∀ k, k < l.length → pid l k < (pa l k).id ∧ (pa l k).id ≤ 999 ∧ valA (pa l k) ∧ smallA (pa l k) 1000 = true := by
    intro k hk
    have := h2 k hk
    unfold stepB at this
    rw [Bool.and_eq_true, floor_iff, decide_eq_true_eq] at this
    exact ⟨this.1.1, this.1.2, this.2.1, this.2.2⟩
  have hp : ∀ k, k < l.length → 1 ≤ (pa l k).id := by
    intro k
    induction k with
    | zero => intro hk; have := (hs 0 hk).1; unfold pid at this; rw [if_pos rfl] at this; omega
    | succ k ih => intro hk; have := (hs _ hk).1; rw [pid_succ] at this; have := ih (by omega); omega
  have he : ∀ p q, p < q → q < l.length → meetB (pa l p) (pa l q) = false := by
    intro p q hpq hq
    cases hm : meetB (pa l p) (pa l q) with
    | false => rfl
    | true => rw [eachB_no hpq hq hm] at h3; cases h3
  obtain ⟨g1, g2, g3, g4⟩ := hs k hk
  exact ⟨hp k hk, g2, fun h0 => by unfold pid at g1; rw [if_neg (by omega)] at g1; exact g1, g4, g3, fun p hpk => he p k hpk hk⟩
theorem right_step {l : List Ais} {k : Nat} (hk : k < l.length) (h : stepB l k = false) : rightP l = false := by
  apply rightP_no
  intro hr
  have o := hr.2 k hk
  have : stepB l k = true := by
    unfold stepB
    rw [Bool.and_eq_true, floor_iff, decide_eq_true_eq]
    refine ⟨⟨?_, o.id2⟩, o.val, o.sm⟩
    unfold pid
    have h1 := o.id1
    split
    · omega
    · exact o.up (by omega)
  rw [this] at h
  cases h
theorem right_each {l : List Ais} (h : eachB l = false) : rightP l = false := by
  apply rightP_no
  intro hr
  rw [eachB_yes fun p q hpq hq => (hr.2 q hq).apart p hpq] at h
  cases h
theorem right_long {l : List Ais} (h : ¬ l.length ≤ 32) : rightP l = false := rightP_no fun hr => h hr.1

end Go.Proofs.Ythchkhgimnchcaa
/- Stage 22: the program's Check and Rules. -/
namespace Go.Proofs.Ythchkhgimnchcaa
open Go.RowKit

/-- a row of bounds in new memory -/
def lkBds (l : List Bd) (n : Nat) : Lk := ⟨Nat, ⟨0⟩, fun b => .slice (some ⟨b, 0, none⟩) n n, fun b w => RowsAt w 3 csBd (.slice (some ⟨b, 0, none⟩) n n) l⟩
theorem lkBds_at {P : Program} {o : Oper} {a : Act} {W : World} {G : World → Prop} {l : List Bd} {n : Nat} {t : TypeId} (hn : n = l.length) (he : ∀ k : In W, (execOp a.eval o).run P k.w = .ok (.value (.slice (some ⟨k.w.heap.size, 0, none⟩) n n)) (k.w.alloc (.cells (flats csBd l).toArray t))) : (lkBds l n).at P o a W G :=
  ⟨fun _ _ _ h hb => RowsAt.kept h hb, fun k _ => by
    rw [he k]
    exact ⟨k.w.heap.size, rfl, rowsLit csBd_len k.w l t n hn, (Below.refl W.heap.size _).alloc k.h.size _⟩⟩

set_option maxHeartbeats 8000000 in
set_option maxRecDepth 100000 in
theorem tAfter_any (id : Int) (va : Value) (l : List Int) (w : World) (ha : IntsAt w va l) (_hl : l.length ≤ 9223372036854775807) :
    Calls Try.prog 64 #[.int .i64 id, va] w fun e w' => e = .returned (.bool (aftB id l)) ∧ Below w.heap.size w w' := by
  obtain ⟨r, hr⟩ : ∃ r, aftB id l = r := ⟨_, rfl⟩
  have hw2 : (r = false ∧ (8 < (l.length : Int) ∨ (¬ 8 < (l.length : Int) ∧ rightB l = false) ∨ (¬ 8 < (l.length : Int) ∧ rightB l = true ∧ inL l id = true))) ∨ (¬ 8 < (l.length : Int) ∧ rightB l = true ∧ inL l id = false ∧ idsB l = r) := by
    have h := aft_ways id l (r := if aftB id l = true then 0 else 1) (fun h => by rw [h]; rfl) (fun h => by rw [h]; rfl)
    rw [hr] at h
    rcases h with ⟨h1, h2⟩ | ⟨h1, h2, h3, h4, h5⟩
    · refine .inl ⟨?_, h2⟩
      cases r with
      | false => rfl
      | true => simp at h1
    · refine .inr ⟨h1, h2, h3, ?_⟩
      cases hi : idsB l with
      | false => have := h4 hi; cases r with
        | false => rfl
        | true => simp at this
      | true => have := h5 hi; cases r with
        | false => simp at this
        | true => rfl
  rw [hr]
  have HA := Lib.hid ha
  have GR := Lib.hid fun w h (h8 : ¬ 8 < (l.length : Int)) => iRight_any va l w h (by omega)
  have GN := Lib.hid fun w h (h8 : ¬ 8 < (l.length : Int)) => iHas_any va l id w h (by omega)
  obtain ⟨a, c, rfl⟩ := ha.form
  obtain ⟨rt, hrt⟩ : ∃ rt, rightB l = rt := ⟨_, rfl⟩
  obtain ⟨nn, hnn⟩ : ∃ nn, inL l id = nn := ⟨_, rfl⟩
  rw [hrt] at GR hw2
  rw [hnn] at GN hw2
  have HB := Lib.hid (Below.refl w.heap.size w)
  clear hrt hnn ha hr
  rcases hw2 with ⟨rfl, hw2⟩ | ⟨h8, rfl, rfl, hids⟩
  · rcases hw2 with h8 | ⟨h8, rfl⟩ | ⟨h8, rfl, rfl⟩
    all_goals
      have H8 := Lib.hid h8
      go_enter Try.func64, Try.ntmps64
      go_wp2_with (first
        | (go_at_call 72; (with_reducible refine (GR.out _ (HA.out.below HB.out) H8.out).mono ?_); rintro e w3 ⟨rfl, hb3⟩; replace HB := Lib.hid (HB.out.trans (hb3.mono HB.out.size)); clear hb3)
        | (go_at_call 73; (with_reducible refine (GN.out _ (HA.out.below HB.out) H8.out).mono ?_); rintro e w4 ⟨rfl, hb4⟩; replace HB := Lib.hid (HB.out.trans (hb4.mono HB.out.size)); clear hb4))
      go_ret
      exact ⟨rfl, HB.out⟩
  · have H8 := Lib.hid h8
    have HIDS := Lib.hid hids
    obtain ⟨i0, hi, hz0, hz1, hz2⟩ := info_parts info_bd
    clear hids
    go_enter Try.func64, Try.ntmps64
    go_wp2_with (first
      | (go_at_call 72; (with_reducible refine (GR.out _ (HA.out.below HB.out) H8.out).mono ?_); rintro e w3 ⟨rfl, hb3⟩; replace HB := Lib.hid (HB.out.trans (hb3.mono HB.out.size)); clear hb3)
      | (go_at_call 73; (with_reducible refine (GN.out _ (HA.out.below HB.out) H8.out).mono ?_); rintro e w4 ⟨rfl, hb4⟩; replace HB := Lib.hid (HB.out.trans (hb4.mono HB.out.size)); clear hb4))
    go_loopw [5, 23] (fun sv iv wr => ∃ k : Nat, k ≤ l.length ∧ iv = .int .i64 k ∧ Hid (OwnR wr w.heap.size 98 3 csBd sv ((l.take k).map fun n => ⟨n, 1, 999⟩)) ∧ Hid (Below w.heap.size w wr)) (fun _ iv _ => l.length - (intOf iv).toNat)
    case atStart => exact ⟨0, by omega, rfl, OwnR.nil _ _ _ _ _, HB.out⟩
    case round =>
      obtain ⟨k, hk, rfl, HO, HB2⟩ := hrel
      have k2 : (k : Int) ≤ 1000 := by have := H8.out; omega
      have k0 : (0 : Int) ≤ (k : Int) := by omega
      obtain ⟨aT, cT, e⟩ := RowsAt.form (OwnR.rows csBd_len HO.out)
      subst e
      by_cases hlt : k < l.length
      · obtain ⟨g, o, cc, e, hlc, _, p0⟩ := IntsAt.spot (HA.out.below HB2.out) k hlt
        cases e
        have k1 : (k : Int) < (l.length : Int) := by omega
        have hsu : (l.take (k + 1)).map (fun n => (⟨n, 1, 999⟩ : Bd)) = (l.take k).map (fun n => (⟨n, 1, 999⟩ : Bd)) ++ [⟨l[k], 1, 999⟩] := by
          rw [List.take_succ_eq_append_getElem hlt, List.map_append]
          rfl
        have hdl : ((l.take k).map fun n => (⟨n, 1, 999⟩ : Bd)).length ≤ 1000 := by
          rw [List.length_map, List.length_take]
          have := H8.out
          omega
        have HSU := Lib.hid hsu
        have HDL := Lib.hid hdl
        have HK := Lib.hid hlt
        generalize l[k] = n at *
        have G := Lib.hid fun w => tOfID_any n w
        generalize (l.take k).map (fun n => (⟨n, 1, 999⟩ : Bd)) = D at *
        clear hsu hdl hlt hk
        go_wp2_with (first
          | (go_at_call 62; (with_reducible refine (G.out _).mono ?_); rintro e w5 ⟨rfl, hb5⟩; have HO5 := Lib.hid (OwnR.alloc (OwnR.kept HO.out hb5) (.cells #[.int .i64 n, .int .i64 1, .int .i64 999] 98)); have HB5 := Lib.hid ((HB2.out.trans (hb5.mono HB2.out.size)).alloc (Nat.le_trans HB2.out.size hb5.size) (.cells #[.int .i64 n, .int .i64 1, .int .i64 999] 98)); have HP5 := Lib.hid (rowsLit csBd_len w5 [⟨n, 1, 999⟩] 98 1 rfl); clear hb5)
          | (at_builtin; refine wpList_append_rows csBd_len (by decide) csBd_one rfl _ _ 111 rfl w.heap.size 98 i0 (.agg #[.int .i64 0, .int .i64 0, .int .i64 0]) 24 Try.underlying111 hi hz0 hz1 hz2 rfl _ _ rfl HO5.out _ [⟨n, 1, 999⟩] rfl HP5.out (by have := HDL.out; unfold maxLen; simp; omega) (by have := HDL.out; simp; omega) HB5.out.size ?_; intro v2 w2 o2 g2; have HO6 := Lib.hid o2; have HB6 := Lib.hid (OwnR.below HO5.out HB5.out HB5.out.size g2); clear o2 g2))
        go_roundw
        case rel => exact ⟨k + 1, by have := HK.out; omega, by go_num, by rw [HSU.out]; exact HO6.out, HB6.out⟩
        case measure => have := HK.out; simp [intOf] <;> omega
      · have hke : k = l.length := by omega
        have e : ((l.take k).map fun n => (⟨n, 1, 999⟩ : Bd)).all Bd.ok = r := by
          rw [hke, List.take_length, List.all_map]
          exact HIDS.out
        have G := Lib.hid fun w h => tKept_any (.slice aT ((l.take k).map fun n => (⟨n, 1, 999⟩ : Bd)).length cT) ((l.take k).map fun n => (⟨n, 1, 999⟩ : Bd)) w h (by rw [List.length_map, List.length_take]; have := H8.out; omega)
        rw [e] at G
        have HO7 := Lib.hid (OwnR.rows csBd_len HO.out)
        subst hke
        generalize (l.take l.length).map (fun n => (⟨n, 1, 999⟩ : Bd)) = D at *
        clear e hlt HO
        go_wp2_with (go_at_call 61; (with_reducible refine (G.out _ HO7.out).mono ?_); rintro e w5 ⟨rfl, hb5⟩; have HB5 := Lib.hid (HB2.out.trans (hb5.mono HB2.out.size)); clear hb5)
        go_ret
        exact ⟨rfl, HB5.out⟩

set_option maxHeartbeats 8000000 in
set_option maxRecDepth 100000 in
theorem tCheck_any (x : Sp) (w : World) (ha : IntsAt w x.v x.aft) (hl : x.aft.length ≤ 9223372036854775807) :
    Calls Try.prog 44 #[spv x] w fun e w' => e = .returned (.int .i64 (chk x)) ∧ Below w.heap.size w w' := by
  have hcs := chk_cases x
  have hns : (bdsS x).all Bd.ok = numS x := rfl
  obtain ⟨r, hr⟩ : ∃ r, chk x = r := ⟨_, rfl⟩
  rw [hr] at hcs ⊢
  obtain ⟨ns, hns2⟩ : ∃ ns, numS x = ns := ⟨_, rfl⟩
  rw [hns2] at hns hcs
  have GK := Lib.hid fun w va h => tKept_any va (bdsS x) w h (by simp [bdsS])
  rw [hns] at GK
  obtain ⟨id, prio, sk, ge, fx, fy, tx, ty, a, c, l⟩ := x
  dsimp only [Sp.v, spv] at *
  unfold bdsS at GK
  dsimp only at GK
  have GA := Lib.hid fun w h => tAfter_any id (.slice a l.length c) l w h hl
  obtain ⟨ab, hab⟩ : ∃ ab, aftB id l = ab := ⟨_, rfl⟩
  rw [hab] at GA hcs
  have HX := Lib.hid (boxS w id prio sk ge fx fy tx ty (.slice a l.length c))
  have hAL := (Below.refl w.heap.size w).alloc (Nat.le_refl _) (.cells #[.int .i64 id, .int .i64 prio, .int .u64 sk, .int .u64 ge, .int .i64 fx, .int .i64 fy, .int .i64 tx, .int .i64 ty, .slice a l.length c] 41)
  have HI := Lib.hid (ha.below hAL)
  have HAL := Lib.hid hAL
  have G0 := Lib.hid fun w => tOfID_any id w
  have G1 := Lib.hid fun w => tOfPart_any fx w
  have G2 := Lib.hid fun w => tOfPart_any fy w
  have G3 := Lib.hid fun w => tOfPart_any tx w
  have G4 := Lib.hid fun w => tOfPart_any ty w
  clear hr hns hns2 hab ha hl hAL
  go_enter Try.func44, Try.ntmps44
  go_wp2
  generalize w.alloc (.cells #[.int .i64 id, .int .i64 prio, .int .u64 sk, .int .u64 ge, .int .i64 fx, .int .i64 fy, .int .i64 tx, .int .i64 ty, .slice a l.length c] 41) = W0 at *
  refine wp_region_chain 25 [.calm 22, .own (lkBds [⟨id, 1, 999⟩, ⟨prio, 0, 1048575⟩, ⟨fx, -1000, 1000⟩, ⟨fy, -1000, 1000⟩, ⟨tx, -1000, 1000⟩, ⟨ty, -1000, 1000⟩] 6), .own (Lk.val1 (.bool ns)), .calm 1] [22, 23] rfl (by kernel_rfl) (by simp) (by kernel_rfl) (chainOf_two (by kernel_rfl)) ?_
  simp only [List.take_succ_cons, List.take_zero, List.drop_succ_cons, List.drop_zero]
  refine ⟨by simp, fun M => ?_⟩
  simp only [List.take_succ_cons, List.take_zero, List.drop_succ_cons, List.drop_zero]
  have m0 := fun n : In M.w => n.cell (M.cell (HX.out.cell 0 rfl))
  have m1 := fun n : In M.w => n.cell (M.cell (HX.out.cell 1 rfl))
  have m4 := fun n : In M.w => n.cell (M.cell (HX.out.cell 4 rfl))
  have m5 := fun n : In M.w => n.cell (M.cell (HX.out.cell 5 rfl))
  have m6 := fun n : In M.w => n.cell (M.cell (HX.out.cell 6 rfl))
  have m7 := fun n : In M.w => n.cell (M.cell (HX.out.cell 7 rfl))
  repeat (go_big_quiet_step (first
    | (go_at_call 62; with_reducible exact In.call (G0.out _))
    | (go_at_call 63; with_reducible exact In.call (G1.out _))
    | (go_at_call 63; with_reducible exact In.call (G2.out _))
    | (go_at_call 63; with_reducible exact In.call (G3.out _))
    | (go_at_call 63; with_reducible exact In.call (G4.out _))))
  refine wpQuiet_nil ?_
  clear m0 m1 m4 m5 m6 m7 M
  refine ⟨rfl, lkBds_at (t := 98) rfl (fun k => by simp [go_sem, flats, csBd]), fun x1 A hA => ?_⟩
  simp [Act.put, lkBds] at hA
  subst hA
  refine ⟨rfl, lkSure_at (f := 61) (args := #[.slice (some ⟨x1, 0, none⟩) 6 6]) (fun k => by simp [go_sem]) (fun k hk => GK.out k.w _ hk), fun x2 A hA => ?_⟩
  simp [Act.put, Lk.val1] at hA
  subst hA
  refine ⟨by simp, fun M => ?_⟩
  simp only [List.take_succ_cons, List.take_zero, List.drop_succ_cons, List.drop_zero]
  repeat (go_big_quiet_step (fail))
  refine wpQuiet_nil ?_
  clear M
  refine ⟨rfl, fun w5 hb5 _ => ?_⟩
  have HX5 := Lib.hid (HX.out.kept hb5)
  have HI5 := Lib.hid (HI.out.below hb5)
  have HB5 := Lib.hid (HAL.out.trans (hb5.mono HAL.out.size))
  have c0 := HX5.out.cell 0 rfl
  have c8 := HX5.out.cell 8 rfl
  clear hb5 HX HI HAL
  rcases hcs with ⟨rfl, rfl⟩ | ⟨rfl, rfl, rfl⟩ | ⟨rfl, rfl, rfl⟩
  all_goals
    go_wp2_with (go_at_call 64; (with_reducible refine (GA.out _ HI5.out).mono ?_); rintro e w6 ⟨rfl, hb6⟩; replace HB5 := Lib.hid (HB5.out.trans (hb6.mono HB5.out.size)); clear hb6)
    go_ret
    exact ⟨rfl, HB5.out⟩

end Go.Proofs.Ythchkhgimnchcaa
/- Stage 22: the program's Same: what is plain of a spec and of rules; slices.Equal. -/
namespace Go.Proofs.Ythchkhgimnchcaa
open Go.RowKit

theorem ais_ways (a b : Ais) : (((a.id == b.id) = false) ∨ (a.id = b.id ∧ (a.lx == b.lx) = false) ∨ (a.id = b.id ∧ a.lx = b.lx ∧ (a.ly == b.ly) = false) ∨ (a.id = b.id ∧ a.lx = b.lx ∧ a.ly = b.ly ∧ (a.hx == b.hx) = false) ∨ (a.id = b.id ∧ a.lx = b.lx ∧ a.ly = b.ly ∧ a.hx = b.hx ∧ (a.hy == b.hy) = false)) ∨ a = b := by
  by_cases eid : a.id = b.id
  case neg => exact .inl (by simp [eid])
  by_cases elx : a.lx = b.lx
  case neg => exact .inl (by simp [eid, elx])
  by_cases ely : a.ly = b.ly
  case neg => exact .inl (by simp [eid, elx, ely])
  by_cases ehx : a.hx = b.hx
  case neg => exact .inl (by simp [eid, elx, ely, ehx])
  by_cases ehy : a.hy = b.hy
  case neg => exact .inl (by simp [eid, elx, ely, ehx, ehy])
  exact .inr (by cases a; cases b; simp_all)
end Go.Proofs.Ythchkhgimnchcaa
/- Arrays of ints, held against one another by ==. FOR ALL LATER STAGES. -/
namespace Go.Proofs.Ythchkhgimnchcaa
open Go.RowKit

theorem all_range_ints : ∀ (xs ys : List Int), xs.length = ys.length → ((List.range xs.length).all fun i => xs.getD i 0 == ys.getD i 0) = (xs == ys)
  | [], [], _ => rfl
  | x :: xs, y :: ys, h => by
    have ih := all_range_ints xs ys (by simpa using h)
    rw [List.length_cons, List.range_succ_eq_map, List.all_cons, List.all_map]
    simp only [List.getD_cons_zero, Function.comp_def, List.getD_cons_succ, ih]
    simp [List.cons_beq_cons]
  | [], _ :: _, h => by simp at h
  | _ :: _, [], h => by simp at h

section
variable {P : Program} (w : World)
theorem run_equalIn_ints (d : Nat) (t e : TypeId) (n : Nat) (ht : P.underlying t = some (.array n e)) (he : P.underlying e = some (.int .i64)) (hsz : ∀ w, (sizeOf e).run P w = .ok 1 w)
    (xs ys : List Int) (hx : xs.length = n) (hy : ys.length = n) :
    (Op.equalIn (d + 2) t (.agg (xs.map (Value.int .i64)).toArray) (.agg (ys.map (Value.int .i64)).toArray)).run P w = .ok (xs == ys) w := by
  rw [← all_range_ints xs ys (hx.trans hy.symm), hx, List.range_eq_range', Op.equalIn]
  simp only [Sem.run_bind, run_underlying ht, Result.andThen_ok, hsz, Std.Legacy.Range.forIn_eq_forIn_range', Std.Legacy.Range.size, Nat.sub_zero, Nat.add_sub_cancel, Nat.div_one]
  have hl : ∀ i ∈ List.range' 0 n 1, i < n := fun i hi => by simpa using (List.mem_range'_1.1 hi).2
  generalize List.range' 0 n 1 = l at hl ⊢
  induction l with
  | nil => simp
  | cons i l ih =>
    have hi : i < n := hl i (by simp)
    have px : (part e (xs.map (Value.int .i64)).toArray (i * 1)).run P w = .ok (Value.int .i64 (xs.getD i 0)) w := by
      simp [part, isAgg, run_underlying he, List.getD, List.getElem?_eq_getElem (show i < xs.length by omega)]
    have py : (part e (ys.map (Value.int .i64)).toArray (i * 1)).run P w = .ok (Value.int .i64 (ys.getD i 0)) w := by
      simp [part, isAgg, run_underlying he, List.getD, List.getElem?_eq_getElem (show i < ys.length by omega)]
    have pe : (Op.equalIn (d + 1) e (Value.int .i64 (xs.getD i 0)) (Value.int .i64 (ys.getD i 0))).run P w = .ok (xs.getD i 0 == ys.getD i 0) w := by
      rw [run_equalIn_int w d e .i64 .i64 _ _ he]
    simp only [List.forIn_cons, Sem.run_bind, px, py, pe, Result.andThen_ok, List.all_cons]
    cases hb : (xs.getD i 0 == ys.getD i 0)
    · simp
    · simp only [Bool.not_true, Bool.false_eq_true, if_false, Sem.run_pure, Result.andThen_ok, Bool.true_and]
      exact ih fun j hj => hl j (by simp [hj])
theorem run_eql_ints (t e : TypeId) (n : Nat) (ht : P.underlying t = some (.array n e)) (he : P.underlying e = some (.int .i64)) (hsz : ∀ w, (sizeOf e).run P w = .ok 1 w)
    (xs ys : List Int) (hx : xs.length = n) (hy : ys.length = n) :
    (binOp .eql t (.agg (xs.map (Value.int .i64)).toArray) (.agg (ys.map (Value.int .i64)).toArray)).run P w = .ok (.bool (xs == ys)) w := by
  rw [run_eql_struct, run_equalIn_ints w 9998 t e n ht he hsz xs ys hx hy]
  rfl
end
end Go.Proofs.Ythchkhgimnchcaa
/- Stage 12's program: the lowest bit, counting in eight bytes, reading a text by looking for each sign: plain mathematics. -/
namespace Go.Proofs.Ythchkhgimnchcaa

/-! ### Numbers of a set -/
theorem ofS_testBit (P : Nat → Bool) (j : Nat) : ∀ k, (ofS P k).testBit j = (decide (j < k) && P j)
  | 0 => by simp [ofS]
  | k + 1 => by
    have ih := ofS_testBit P j k
    have hlt := ofS_lt P k
    unfold ofS
    by_cases hp : P k = true
    · rw [if_pos hp, Nat.add_comm, show 2 ^ k + ofS P k = 2 ^ k * 1 + ofS P k by omega, Nat.testBit_two_pow_mul_add 1 hlt]
      by_cases hj : j < k
      · rw [if_pos hj, ih, decide_eq_true hj, decide_eq_true (show j < k + 1 by omega)]
      · rw [if_neg hj]
        by_cases he : j = k
        · subst he
          rw [Nat.sub_self, decide_eq_true (show j < j + 1 by omega), hp]
          rfl
        · rw [decide_eq_false (show ¬ j < k + 1 by omega), Bool.false_and]
          obtain ⟨d, rfl⟩ : ∃ d, j = k + (d + 1) := ⟨j - k - 1, by omega⟩
          rw [show k + (d + 1) - k = d + 1 by omega, Nat.testBit_succ]
          simp
    · rw [if_neg hp, Nat.add_zero, ih]
      by_cases he : j = k
      · subst he
        simp at hp
        simp [hp]
      · by_cases hj : j < k
        · rw [decide_eq_true hj, decide_eq_true (show j < k + 1 by omega)]
        · rw [decide_eq_false hj, decide_eq_false (show ¬ j < k + 1 by omega)]
theorem ofS_or {P Q : Nat → Bool} {n : Nat} (hn : n < 64) (h : ∀ j, j < 64 → Q j = (P j || decide (j = n))) : ofS Q 64 = ofS P 64 ||| 2 ^ n := by
  apply Nat.eq_of_testBit_eq
  intro j
  rw [Nat.testBit_or, ofS_testBit, ofS_testBit, Nat.testBit_two_pow]
  by_cases hj : j < 64
  · rw [decide_eq_true hj, h j hj, Bool.true_and, Bool.true_and]
    by_cases e : j = n
    · subst e; simp
    · rw [decide_eq_false e, decide_eq_false (fun h => e h.symm)]
  · rw [decide_eq_false hj, decide_eq_false (show ¬ n = j by omega)]
    rfl
theorem ofS_none (k : Nat) : ofS (fun _ => false) k = 0 := by
  induction k with
  | zero => rfl
  | succ k ih => unfold ofS; rw [ih]; rfl
theorem lsS_ofS (P : Nat → Bool) : lsS (ofS P 64) 64 = (List.range 64).filter P := by
  unfold lsS
  refine List.filter_congr fun n hn => ?_
  rw [ofS_testBit, decide_eq_true (List.mem_range.1 hn), Bool.true_and]
theorem lsS_zero (k : Nat) : lsS 0 k = [] := by
  unfold lsS
  simp

/-! ### The lowest bit -/
theorem low_and (t m : Nat) : (2 ^ t * (2 * m + 1)) &&& (2 ^ t * (2 * m + 1) - 1) = 2 ^ (t + 1) * m := by
  have hp : 0 < 2 ^ t := Nat.two_pow_pos t
  have e1 : 2 ^ t * (2 * m + 1) = 2 ^ (t + 1) * m + 2 ^ t := by rw [Nat.pow_succ]; grind
  have e2 : 2 ^ t * (2 * m + 1) - 1 = 2 ^ (t + 1) * m + (2 ^ t - 1) := by omega
  have h1 : 2 ^ t < 2 ^ (t + 1) := by rw [Nat.pow_succ]; omega
  have h2 : 2 ^ t - 1 < 2 ^ (t + 1) := by omega
  rw [e2, e1]
  apply Nat.eq_of_testBit_eq
  intro j
  rw [Nat.testBit_and, Nat.testBit_two_pow_mul_add _ h1, Nat.testBit_two_pow_mul_add _ h2, Nat.testBit_two_pow_mul]
  by_cases hj : j < t + 1
  · rw [if_pos hj, if_pos hj, decide_eq_false (show ¬ j ≥ t + 1 by omega), Bool.false_and, Nat.testBit_two_pow, Nat.testBit_two_pow_sub_one]
    by_cases e : t = j
    · rw [decide_eq_true e, decide_eq_false (show ¬ j < t by omega)]; rfl
    · rw [decide_eq_false e]; rfl
  · rw [if_neg hj, if_neg hj, Bool.and_self, decide_eq_true (show j ≥ t + 1 by omega), Bool.true_and]
theorem low_bits (t m j : Nat) : (2 ^ t * (2 * m + 1)).testBit j = (decide (j = t) || (2 ^ (t + 1) * m).testBit j) := by
  have e1 : 2 ^ t * (2 * m + 1) = 2 ^ (t + 1) * m + 2 ^ t := by rw [Nat.pow_succ]; grind
  have h1 : 2 ^ t < 2 ^ (t + 1) := by have := Nat.two_pow_pos t; rw [Nat.pow_succ]; omega
  rw [e1, Nat.testBit_two_pow_mul_add _ h1, Nat.testBit_two_pow_mul]
  by_cases hj : j < t + 1
  · rw [if_pos hj, decide_eq_false (show ¬ j ≥ t + 1 by omega), Bool.false_and, Bool.or_false, Nat.testBit_two_pow]
    exact decide_eq_decide.2 eq_comm
  · rw [if_neg hj, decide_eq_true (show j ≥ t + 1 by omega), Bool.true_and, decide_eq_false (show ¬ j = t by omega), Bool.false_or]
theorem lsS_low (t m : Nat) : ∀ k, lsS (2 ^ t * (2 * m + 1)) k = if t < k then t :: lsS (2 ^ (t + 1) * m) k else lsS (2 ^ (t + 1) * m) k
  | 0 => by rw [if_neg (by omega)]; rfl
  | k + 1 => by
    have ih := lsS_low t m k
    rw [lsS_succ, lsS_succ, ih, low_bits]
    by_cases h : t < k
    · rw [if_pos h, if_pos (show t < k + 1 by omega), decide_eq_false (show ¬ k = t by omega), Bool.false_or]
      rfl
    · rw [if_neg h]
      by_cases e : k = t
      · subst e
        have hz : ∀ j, j < k + 1 → (2 ^ (k + 1) * m).testBit j = false := fun j hj => by
          rw [Nat.testBit_two_pow_mul, decide_eq_false (show ¬ j ≥ k + 1 by omega), Bool.false_and]
        have hn : lsS (2 ^ (k + 1) * m) k = [] := by
          unfold lsS
          rw [List.filter_eq_nil_iff]
          intro j hj
          rw [hz j (by have := List.mem_range.1 hj; omega)]
          simp
        rw [hn, decide_eq_true rfl, Bool.true_or, if_pos rfl, if_pos (show k < k + 1 by omega), hz k (by omega)]
        rfl
      · rw [if_neg (show ¬ t < k + 1 by omega), decide_eq_false e, Bool.false_or]
/-- one round of 'each' -/
theorem low_step (x : Nat) (h0 : x ≠ 0) (hx : x < 2 ^ 64) : Lib.ctz 64 x < 64 ∧ x &&& (x - 1) < x ∧ lsS x 64 = Lib.ctz 64 x :: lsS (x &&& (x - 1)) 64 := by
  have hc : Lib.ctz 64 x = Lib.ctzFrom 64 x := if_neg h0
  obtain ⟨m, hm, hk⟩ := Lib.ctzFrom_spec 64 x (by omega) hx
  rw [hc]
  generalize Lib.ctzFrom 64 x = t at *
  subst hm
  have hp : 0 < 2 ^ t := Nat.two_pow_pos t
  refine ⟨hk, ?_, ?_⟩
  · rw [low_and, Nat.pow_succ]
    have : 2 ^ t * (2 * m + 1) = 2 ^ t * 2 * m + 2 ^ t := by grind
    omega
  · rw [low_and, lsS_low t m 64, if_pos hk]

/-! ### Counting -/
theorem and_byte (q c m d : Nat) (hc : c < 256) (hd : d < 256) : (256 * q + c) &&& (256 * m + d) = 256 * (q &&& m) + (c &&& d) := by
  have hcd : c &&& d < 2 ^ 8 := Nat.and_lt_two_pow _ hd
  apply Nat.eq_of_testBit_eq
  intro j
  have e : (256 : Nat) = 2 ^ 8 := rfl
  rw [e, Nat.testBit_and, Nat.testBit_two_pow_mul_add _ hc, Nat.testBit_two_pow_mul_add _ hd, Nat.testBit_two_pow_mul_add _ hcd]
  by_cases hj : j < 8
  · rw [if_pos hj, if_pos hj, if_pos hj, Nat.testBit_and]
  · rw [if_neg hj, if_neg hj, if_neg hj, Nat.testBit_and]
/-- a byte, k times -/
def rep (d : Nat) : Nat → Nat
  | 0 => 0
  | k + 1 => 256 * rep d k + d
def t1 (c : Nat) : Nat := (c / 2 &&& 85) + (c &&& 85)
def t2 (c : Nat) : Nat := (c / 4 &&& 51) + (c &&& 51)
def t3 (c : Nat) : Nat := (c / 16 + c) &&& 15
def T1 (k x : Nat) : Nat := (x / 2 &&& rep 85 k) + (x &&& rep 85 k)
def T2 (k x : Nat) : Nat := (x / 4 &&& rep 51 k) + (x &&& rep 51 k)
def T3 (k x : Nat) : Nat := (x / 16 + x) &&& rep 15 k
theorem b1 : ∀ c, c < 256 → (128 + c / 2) &&& 85 = c / 2 &&& 85 := by decide +kernel
theorem b2 : ∀ r, r < 4 → ∀ c, c < 256 → (64 * r + c / 4) &&& 51 = c / 4 &&& 51 := by decide +kernel
theorem b3 : ∀ r, r < 5 → ∀ c, c < 120 → (16 * r + (c / 16 + c)) &&& 15 = (c / 16 + c) &&& 15 := by decide +kernel
theorem T1_step (k q c : Nat) (hc : c < 256) : T1 (k + 1) (256 * q + c) = 256 * T1 k q + t1 c := by
  have e1 : (256 * q + c) / 2 = 256 * (q / 2) + (128 * (q % 2) + c / 2) := by omega
  have hl : 128 * (q % 2) + c / 2 < 256 := by omega
  have e2 : (128 * (q % 2) + c / 2) &&& 85 = c / 2 &&& 85 := by
    rcases Nat.mod_two_eq_zero_or_one q with h | h
    · rw [h, Nat.mul_zero, Nat.zero_add]
    · rw [h, Nat.mul_one, b1 c hc]
  unfold T1 t1
  rw [show rep 85 (k + 1) = 256 * rep 85 k + 85 from rfl, e1, and_byte _ _ _ _ hl (by decide), and_byte _ _ _ _ hc (by decide), e2]
  omega
theorem T2_step (k q c : Nat) (hc : c < 256) : T2 (k + 1) (256 * q + c) = 256 * T2 k q + t2 c := by
  have e1 : (256 * q + c) / 4 = 256 * (q / 4) + (64 * (q % 4) + c / 4) := by omega
  have hl : 64 * (q % 4) + c / 4 < 256 := by omega
  have e2 := b2 (q % 4) (by omega) c hc
  unfold T2 t2
  rw [show rep 51 (k + 1) = 256 * rep 51 k + 51 from rfl, e1, and_byte _ _ _ _ hl (by decide), and_byte _ _ _ _ hc (by decide), e2]
  omega
theorem T3_step (k q c : Nat) (hq : q % 16 < 5) (hc : c < 120) : T3 (k + 1) (256 * q + c) = 256 * T3 k q + t3 c := by
  have e1 : (256 * q + c) / 16 + (256 * q + c) = 256 * (q / 16 + q) + (16 * (q % 16) + (c / 16 + c)) := by omega
  have hl : 16 * (q % 16) + (c / 16 + c) < 256 := by omega
  have e2 := b3 (q % 16) hq c hc
  unfold T3 t3
  rw [show rep 15 (k + 1) = 256 * rep 15 k + 15 from rfl, e1, and_byte _ _ _ _ hl (by decide), e2]
/-- how many bits a byte has -/
def pc (c : Nat) : Nat := t3 (t2 (t1 c))
theorem t1_lt : ∀ c, c < 256 → t1 c < 256 := by decide +kernel
theorem t2_lt : ∀ c, c < 256 → t2 (t1 c) < 120 ∧ t2 (t1 c) % 16 < 5 := by decide +kernel
theorem pc_is : ∀ c, c < 256 → pc c = (lsS c 8).length ∧ pc c ≤ 8 := by decide +kernel
def WW (k x : Nat) : Nat := T3 k (T2 k (T1 k x))
theorem T2_mod (k x : Nat) : T2 k (T1 k x) % 16 < 5 := by
  cases k with
  | zero => simp [T2, T1, rep]
  | succ k =>
    have e : x = 256 * (x / 256) + x % 256 := by omega
    have hc : x % 256 < 256 := by omega
    rw [e, T1_step _ _ _ hc, T2_step _ _ _ (t1_lt _ hc)]
    have := (t2_lt _ hc).2
    omega
theorem WW_step (k q c : Nat) (hc : c < 256) : WW (k + 1) (256 * q + c) = 256 * WW k q + pc c := by
  unfold WW pc
  rw [T1_step _ _ _ hc, T2_step _ _ _ (t1_lt _ hc), T3_step _ _ _ (T2_mod _ _) (t2_lt _ hc).1]
theorem cnt_step (q c k : Nat) (hc : c < 256) : (lsS (256 * q + c) (8 + k)).length = (lsS c 8).length + (lsS q k).length := by
  have hb : ∀ j, (256 * q + c).testBit j = if j < 8 then c.testBit j else q.testBit (j - 8) := fun j => Nat.testBit_two_pow_mul_add (i := 8) q hc j
  induction k with
  | zero =>
    rw [show lsS q 0 = [] from rfl, List.length_nil, Nat.add_zero]
    congr 1
    unfold lsS
    refine List.filter_congr fun j hj => ?_
    rw [hb, if_pos (List.mem_range.1 hj)]
  | succ k ih =>
    rw [← Nat.add_assoc, lsS_succ (256 * q + c) (8 + k), lsS_succ q k, List.length_append, List.length_append, ih, hb (8 + k), if_neg (show ¬ 8 + k < 8 by omega), show 8 + k - 8 = k by omega]
    cases q.testBit k <;> simp <;> omega
/-- the eight sums -/
theorem WW_bytes (x : Nat) : ∃ p0 p1 p2 p3 p4 p5 p6 p7 : Nat, p0 ≤ 8 ∧ p1 ≤ 8 ∧ p2 ≤ 8 ∧ p3 ≤ 8 ∧ p4 ≤ 8 ∧ p5 ≤ 8 ∧ p6 ≤ 8 ∧ p7 ≤ 8 ∧
    WW 8 x = 256 * (256 * (256 * (256 * (256 * (256 * (256 * p7 + p6) + p5) + p4) + p3) + p2) + p1) + p0 ∧ (lsS x 64).length = p0 + p1 + p2 + p3 + p4 + p5 + p6 + p7 := by
  have sp : ∀ k y, WW (k + 1) y = 256 * WW k (y / 256) + pc (y % 256) := fun k y => by
    have e : y = 256 * (y / 256) + y % 256 := by omega
    have := WW_step k (y / 256) (y % 256) (by omega)
    rwa [← e] at this
  have sc : ∀ k y, (lsS y (8 + k)).length = pc (y % 256) + (lsS (y / 256) k).length := fun k y => by
    have e : y = 256 * (y / 256) + y % 256 := by omega
    have := cnt_step (y / 256) (y % 256) k (by omega)
    rwa [← e, ← (pc_is (y % 256) (by omega)).1] at this
  have le : ∀ y, pc (y % 256) ≤ 8 := fun y => (pc_is (y % 256) (by omega)).2
  refine ⟨_, _, _, _, _, _, _, _, le x, le (x / 256), le (x / 256 / 256), le (x / 256 / 256 / 256), le (x / 256 / 256 / 256 / 256), le (x / 256 / 256 / 256 / 256 / 256), le (x / 256 / 256 / 256 / 256 / 256 / 256), le (x / 256 / 256 / 256 / 256 / 256 / 256 / 256), ?_, ?_⟩
  · rw [sp, sp, sp, sp, sp, sp, sp, sp]
    rw [show WW 0 (x / 256 / 256 / 256 / 256 / 256 / 256 / 256 / 256) = 0 by simp [WW, T3, rep], Nat.mul_zero, Nat.zero_add]
  · have a1 := sc 56 x
    have a2 := sc 48 (x / 256)
    have a3 := sc 40 (x / 256 / 256)
    have a4 := sc 32 (x / 256 / 256 / 256)
    have a5 := sc 24 (x / 256 / 256 / 256 / 256)
    have a6 := sc 16 (x / 256 / 256 / 256 / 256 / 256)
    have a7 := sc 8 (x / 256 / 256 / 256 / 256 / 256 / 256)
    have a8 := sc 0 (x / 256 / 256 / 256 / 256 / 256 / 256 / 256)
    rw [show lsS (x / 256 / 256 / 256 / 256 / 256 / 256 / 256 / 256) 0 = [] from rfl, List.length_nil] at a8
    simp only [Nat.reduceAdd] at a1 a2 a3 a4 a5 a6 a7 a8
    rw [a1, a2, a3, a4, a5, a6, a7, a8]
    omega
theorem dv8 {v w r : Nat} (h : v = 256 * w + r) (hr : r < 256) : v / 256 = w := by omega
theorem ad8 {z w p z' w' q : Nat} (h : z = 256 * w + p) (h' : z' = 256 * w' + q) : z + z' = 256 * (w + w') + (p + q) := by omega
theorem bd8 {z w p : Nat} (B : Nat) (h : z = 256 * w + p) (hp : p ≤ 8) (hw : w ≤ B) : z ≤ 256 * B + 8 := by omega
theorem md8 {x w p : Nat} (h : x = 256 * w + p) (hp : p < 128) : x % 128 = p := by omega
theorem bds8 {y z1 z2 z3 z4 z5 z6 z7 : Nat} (b0 : y ≤ 578721382704613384) (b1 : z1 ≤ 2260630401189896) (b2 : z2 ≤ 8830587504648) (b3 : z3 ≤ 34494482440) (b4 : z4 ≤ 134744072) (b5 : z5 ≤ 526344) (b6 : z6 ≤ 2056) (b7 : z7 ≤ 8) :
    y < 9000000000000000000 ∧ y + z1 < 9000000000000000000 ∧ y + z1 + (z2 + z3) < 9000000000000000000 ∧ y + z1 + (z2 + z3) + (z4 + z5 + (z6 + z7)) < 9000000000000000000 := by
  refine ⟨by omega, by omega, by omega, by omega⟩
theorem s2_8 {a b : Nat} (h1 : a ≤ 8) (h2 : b ≤ 8) : a + b < 256 := by omega
theorem s4_8 {a b c d : Nat} (h1 : a ≤ 8) (h2 : b ≤ 8) (h3 : c ≤ 8) (h4 : d ≤ 8) : a + b + (c + d) < 256 := by omega
theorem s8_8 {a b c d e f g i : Nat} (h1 : a ≤ 8) (h2 : b ≤ 8) (h3 : c ≤ 8) (h4 : d ≤ 8) (h5 : e ≤ 8) (h6 : f ≤ 8) (h7 : g ≤ 8) (h8 : i ≤ 8) : a + b + (c + d) + (e + f + (g + i)) < 128 := by omega
/-- the last sums -/
theorem sum8 (p0 p1 p2 p3 p4 p5 p6 p7 y : Nat) (h0 : p0 ≤ 8) (h1 : p1 ≤ 8) (h2 : p2 ≤ 8) (h3 : p3 ≤ 8) (h4 : p4 ≤ 8) (h5 : p5 ≤ 8) (h6 : p6 ≤ 8) (h7 : p7 ≤ 8)
    (hy : y = 256 * (256 * (256 * (256 * (256 * (256 * (256 * p7 + p6) + p5) + p4) + p3) + p2) + p1) + p0) :
    ∃ y1 y2 y3, y1 = y + y / 256 ∧ y2 = y1 + y1 / 65536 ∧ y3 = y2 + y2 / 4294967296 ∧ y < 9000000000000000000 ∧ y1 < 9000000000000000000 ∧ y2 < 9000000000000000000 ∧ y3 < 9000000000000000000 ∧ y3 % 128 = p0 + p1 + p2 + p3 + p4 + p5 + p6 + p7 := by
  obtain ⟨z7, e7⟩ : ∃ z, z = p7 := ⟨_, rfl⟩
  obtain ⟨z6, e6⟩ : ∃ z, z = 256 * z7 + p6 := ⟨_, rfl⟩
  obtain ⟨z5, e5⟩ : ∃ z, z = 256 * z6 + p5 := ⟨_, rfl⟩
  obtain ⟨z4, e4⟩ : ∃ z, z = 256 * z5 + p4 := ⟨_, rfl⟩
  obtain ⟨z3, e3⟩ : ∃ z, z = 256 * z4 + p3 := ⟨_, rfl⟩
  obtain ⟨z2, e2⟩ : ∃ z, z = 256 * z3 + p2 := ⟨_, rfl⟩
  obtain ⟨z1, e1⟩ : ∃ z, z = 256 * z2 + p1 := ⟨_, rfl⟩
  rw [← e7, ← e6, ← e5, ← e4, ← e3, ← e2, ← e1] at hy
  have e7' : z7 = 256 * 0 + p7 := by rw [e7, Nat.mul_zero, Nat.zero_add]
  have b7 : z7 ≤ 8 := by rw [e7]; exact h7
  have b6 := bd8 _ e6 h6 b7
  have b5 := bd8 _ e5 h5 b6
  have b4 := bd8 _ e4 h4 b5
  have b3 := bd8 _ e3 h3 b4
  have b2 := bd8 _ e2 h2 b3
  have b1 := bd8 _ e1 h1 b2
  have b0 := bd8 _ hy h0 b1
  obtain ⟨l0, l1, l2, l3⟩ := bds8 b0 b1 b2 b3 b4 b5 b6 b7
  clear b0 b1 b2 b3 b4 b5 b6 b7
  have c0 := ad8 hy e1
  have c1 := ad8 e1 e2
  have c2 := ad8 e2 e3
  have c3 := ad8 e3 e4
  have c4 := ad8 e4 e5
  have c5 := ad8 e5 e6
  have c6 := ad8 e6 e7'
  have g0 := ad8 c0 c2
  have g1 := ad8 c1 c3
  have g2 := ad8 c2 c4
  have g3 := ad8 c3 c5
  have g4 := ad8 c4 c6
  have x0 := ad8 g0 g4
  have q1 : y / 256 = z1 := dv8 hy (Nat.lt_of_le_of_lt h0 (by decide))
  have s0 : p0 + p1 < 256 := s2_8 h0 h1
  have s1 : p1 + p2 < 256 := s2_8 h1 h2
  have s2 : p0 + p1 + (p2 + p3) < 256 := s4_8 h0 h1 h2 h3
  have s3 : p1 + p2 + (p3 + p4) < 256 := s4_8 h1 h2 h3 h4
  have s4 : p2 + p3 + (p4 + p5) < 256 := s4_8 h2 h3 h4 h5
  have s5 : p3 + p4 + (p5 + p6) < 256 := s4_8 h3 h4 h5 h6
  have s6 : p0 + p1 + (p2 + p3) + (p4 + p5 + (p6 + p7)) < 128 := s8_8 h0 h1 h2 h3 h4 h5 h6 h7
  have q2 : (y + z1) / 65536 = z2 + z3 := by
    rw [show (65536 : Nat) = 256 * 256 from rfl, ← Nat.div_div_eq_div_mul, dv8 c0 s0, dv8 c1 s1]
  have q3 : (y + z1 + (z2 + z3)) / 4294967296 = z4 + z5 + (z6 + z7) := by
    rw [show (4294967296 : Nat) = 256 * 256 * 256 * 256 from rfl, ← Nat.div_div_eq_div_mul, ← Nat.div_div_eq_div_mul, ← Nat.div_div_eq_div_mul, dv8 g0 s2, dv8 g1 s3, dv8 g2 s4, dv8 g3 s5]
  refine ⟨y + z1, y + z1 + (z2 + z3), y + z1 + (z2 + z3) + (z4 + z5 + (z6 + z7)), by rw [q1], by rw [q2], by rw [q3], l0, l1, l2, l3, ?_⟩
  rw [md8 x0 s6]
  simp only [Nat.add_assoc]
theorem count_all (x : Nat) : ∃ y y1 y2 y3, WW 8 x = y ∧ y1 = y + y / 256 ∧ y2 = y1 + y1 / 65536 ∧ y3 = y2 + y2 / 4294967296 ∧ y < 9000000000000000000 ∧ y1 < 9000000000000000000 ∧ y2 < 9000000000000000000 ∧ y3 < 9000000000000000000 ∧ y3 % 128 = (lsS x 64).length := by
  obtain ⟨p0, p1, p2, p3, p4, p5, p6, p7, h0, h1, h2, h3, h4, h5, h6, h7, hw, hl⟩ := WW_bytes x
  obtain ⟨y1, y2, y3, e1, e2, e3, l0, l1, l2, l3, hm⟩ := sum8 p0 p1 p2 p3 p4 p5 p6 p7 _ h0 h1 h2 h3 h4 h5 h6 h7 hw
  exact ⟨_, y1, y2, y3, rfl, e1, e2, e3, l0, l1, l2, l3, by rw [hm, hl]⟩

/-! ### Has -/
theorem hasK_andNot (a b : Nat) (ha : a < 2 ^ 64) : hasK a b 64 = decide (b &&& (18446744073709551615 - a) = 0) := by
  have e : 18446744073709551615 - a = 2 ^ 64 - (a + 1) := by omega
  rw [e]
  have hbit : ∀ j, (b &&& (2 ^ 64 - (a + 1))).testBit j = (b.testBit j && (decide (j < 64) && !a.testBit j)) := fun j => by
    rw [Nat.testBit_and, Nat.testBit_two_pow_sub_succ ha]
  by_cases h : b &&& (2 ^ 64 - (a + 1)) = 0
  · rw [decide_eq_true h]
    refine (hasK_iff a b 64).2 fun n hn hbn => ?_
    have := hbit n
    rw [h, Nat.zero_testBit, hbn, decide_eq_true hn] at this
    simpa using this
  · rw [decide_eq_false h]
    cases hk : hasK a b 64 with
    | false => rfl
    | true =>
      refine absurd (Nat.eq_of_testBit_eq fun j => ?_) h
      rw [hbit, Nat.zero_testBit]
      by_cases hj : j < 64
      · cases hbj : b.testBit j with
        | false => rfl
        | true => rw [(hasK_iff a b 64).1 hk j hj hbj]; simp
      · rw [decide_eq_false hj]; simp

/-! ### Reading by looking for each sign -/
/-- the set whose signs stand in a text -/
def inS (s : List UInt8) : Nat := ofS (fun n => decide (sg n ∈ s)) 64
theorem inS_lt (s : List UInt8) : inS s < 2 ^ 64 := ofS_lt _ 64
theorem parK_at (s : List UInt8) : ∀ k, ∀ i (h : i < (parK s k).length), s[i]? = some (sg ((parK s k)[i]))
  | 0, i, h => by simp [parK] at h
  | k + 1, i, h => by
    have ih := parK_at s k
    by_cases hc : s[(parK s k).length]? = some (sg k)
    · have e : parK s (k + 1) = parK s k ++ [k] := by conv => lhs; unfold parK; rw [if_pos hc]
      simp only [e] at h ⊢
      rw [List.length_append] at h
      by_cases hi : i < (parK s k).length
      · rw [List.getElem_append_left hi]
        exact ih i hi
      · have : i = (parK s k).length := by simp at h; omega
        subst this
        rw [hc]
        simp
    · have e : parK s (k + 1) = parK s k := by conv => lhs; unfold parK; rw [if_neg hc]
      simp only [e] at h ⊢
      exact ih i h
theorem parK_map (s : List UInt8) (h : (parK s 64).length = s.length) : s = (parK s 64).map sg := by
  apply List.ext_getElem?
  intro i
  by_cases hi : i < (parK s 64).length
  · rw [parK_at s 64 i hi, List.getElem?_map, List.getElem?_eq_getElem hi]
    rfl
  · rw [List.getElem?_eq_none (by omega), List.getElem?_eq_none (by rw [List.length_map]; omega)]
theorem parK_pre (s : List UInt8) (k : Nat) : ∀ j, ∀ n, n < k → (n ∈ parK s (k + j) ↔ n ∈ parK s k)
  | 0, n, _ => Iff.rfl
  | j + 1, n, hn => by
    rw [← parK_pre s k j n hn, ← Nat.add_assoc]
    conv => lhs; unfold parK
    split
    · rw [List.mem_append]
      simp
      omega
    · rfl
theorem lsS_parK (s : List UInt8) (w : Nat) (hw : ∀ n, n < 64 → (w.testBit n = true ↔ n ∈ parK s 64)) : ∀ k, k ≤ 64 → lsS w k = parK s k
  | 0, _ => by simp [lsS, parK]
  | k + 1, hk => by
    have ih := lsS_parK s w hw k (by omega)
    have h1 := hw k (by omega)
    have h2 := parK_pre s (k + 1) (64 - (k + 1)) k (by omega)
    rw [show k + 1 + (64 - (k + 1)) = 64 by omega] at h2
    rw [lsS_succ, ih]
    by_cases hc : s[(parK s k).length]? = some (sg k)
    · have e : parK s (k + 1) = parK s k ++ [k] := by conv => lhs; unfold parK; rw [if_pos hc]
      rw [e] at h2 ⊢
      rw [if_pos (h1.2 (h2.2 (by simp)))]
    · have e : parK s (k + 1) = parK s k := by conv => lhs; unfold parK; rw [if_neg hc]
      rw [e] at h2 ⊢
      rw [if_neg, List.append_nil]
      intro hb
      have := parK_mem s k k (h2.1 (h1.1 hb))
      omega
theorem par_one : ∀ n, n < 64 → (sg n ∈ ([45] : List UInt8)) = False := fun n hn => by
  have := sg_no n hn
  simp [this]
/-- the answer, told by the text of the set -/
theorem parS_is (s : List UInt8) : parS s = if 64 < s.length then (0, false) else if txtS (inS s) = s then (inS s, true) else (0, false) := by
  by_cases hl : 64 < s.length
  · rw [if_pos hl]
    have := parK_len s 64
    unfold parS
    rw [if_neg (fun h => by rw [h] at hl; simp at hl), if_pos (Or.inl (by omega))]
  · rw [if_neg hl]
    by_cases ht : txtS (inS s) = s
    · rw [if_pos ht]
      have := par_txt (inS s) (inS_lt s)
      rwa [ht] at this
    · rw [if_neg ht]
      unfold parS
      by_cases h45 : s = [45]
      · refine absurd ?_ ht
        have e : inS s = 0 := by
          unfold inS
          rw [ofS_congr (Q := fun _ => false) 64 (fun n hn => by subst h45; rw [decide_eq_false]; rw [par_one n hn]; exact id), ofS_none]
        rw [e, h45]
        decide +kernel
      · rw [if_neg h45]
        by_cases hc : (parK s 64).length < s.length ∨ s = []
        · rw [if_pos hc]
        · refine absurd ?_ ht
          have hlen : (parK s 64).length = s.length := by
            have := parK_fits s 64
            have : ¬ (parK s 64).length < s.length := fun h => hc (Or.inl h)
            omega
          have hmap := parK_map s hlen
          have hin : ∀ n, n < 64 → ((inS s).testBit n = true ↔ n ∈ parK s 64) := fun n hn => by
            unfold inS
            rw [ofS_testBit, decide_eq_true hn, Bool.true_and, decide_eq_true_iff]
            constructor
            · intro h
              rw [hmap] at h
              obtain ⟨m, hm, e⟩ := List.mem_map.1 h
              have h64 := parK_mem s 64 m hm
              rw [← sg_inj m h64 n hn e]
              exact hm
            · intro h
              rw [hmap]
              exact List.mem_map.2 ⟨n, h, rfl⟩
          have hls := lsS_parK s (inS s) hin 64 (Nat.le_refl _)
          unfold txtS txtK
          rw [hls, ← hmap, if_neg (fun h => hc (Or.inr h))]
theorem txtS_nz (w : Nat) (hw : w < 2 ^ 64) (h : w ≠ 0) : txtS w = (lsS w 64).map sg := by
  have : txtK w 64 ≠ [] := fun h0 => by
    have hl : lsS w 64 = [] := by simpa [txtK] using h0
    have e := ofS_list w hw
    rw [hl] at e
    have e2 : ofS (fun n => decide (n ∈ ([] : List Nat))) 64 = 0 := by decide +kernel
    omega
  unfold txtS
  rw [if_neg this]
  rfl
end Go.Proofs.Ythchkhgimnchcaa
/- The walks of package plan: aisles moved. -/
namespace Go.Proofs.Ythchkhgimnchcaa
open Go.RowKit

theorem hsetk {w : World} {b : Nat} {cs : Array Value} {t : TypeId} (h : w.heap[b]? = some (.cells cs t)) (i : Nat) (x : Value) : (w.setCell ⟨b, i, none⟩ x).heap[b]? = some (.cells (cs.setIfInBounds i x) t) := by
  unfold World.setCell
  simp only [Array.getElem?_modify, if_pos, h, Option.map_some]
  rfl
theorem cells5 {w : World} {b : Nat} {u0 u1 u2 u3 u4 : Value} {t : TypeId} (h : w.heap[b]? = some (.cells #[u0, u1, u2, u3, u4] t)) :
    (w.cell? ⟨b, 0, none⟩ = some u0 ∧ w.cell? ⟨b, 1, none⟩ = some u1 ∧ w.cell? ⟨b, 2, none⟩ = some u2 ∧ w.cell? ⟨b, 3, none⟩ = some u3 ∧ w.cell? ⟨b, 4, none⟩ = some u4) ∧
      (w.frozen? ⟨b, 0, none⟩ = false ∧ w.frozen? ⟨b, 1, none⟩ = false ∧ w.frozen? ⟨b, 2, none⟩ = false ∧ w.frozen? ⟨b, 3, none⟩ = false ∧ w.frozen? ⟨b, 4, none⟩ = false) := by
  refine ⟨⟨?_, ?_, ?_, ?_, ?_⟩, ?_, ?_, ?_, ?_, ?_⟩ <;> simp [World.cell?, World.frozen?, h]

end Go.Proofs.Ythchkhgimnchcaa
/- The walks of package plan: the way. -/
namespace Go.Proofs.Ythchkhgimnchcaa
open Go.RowKit

/-! ### The way is two straight ones -/
theorem rway_ne (a b : Int × Int) (how : Int) : rway a b how = a :: (rway a b how).tail := by
  by_cases h : a = b
  · subst h; rw [rway_self]; rfl
  · rw [rway_cons how h]; rfl
theorem trn_self (how : Int) (b : Int × Int) : trn how b b = b := by unfold trn; split <;> rfl
theorem rst_trn {a b : Int × Int} {how : Int} (h : a ≠ trn how a b) : rst b how a = rst (trn how a b) how a ∧ trn how (rst b how a) b = trn how a b ∧ a ≠ b := by
  obtain ⟨a1, a2⟩ := a
  obtain ⟨b1, b2⟩ := b
  unfold trn at *
  by_cases hh : how = 1
  · subst hh
    simp only [if_pos] at *
    have h1 : a2 ≠ b2 := fun e => h (by rw [e])
    unfold rst
    simp [h1]
  · simp only [if_neg hh] at *
    have h1 : a1 ≠ b1 := fun e => h (by rw [e])
    unfold rst
    simp [h1, hh]
theorem rway_split (how : Int) (b : Int × Int) : ∀ n a, gap a (trn how a b) = n → rway a b how = rway a (trn how a b) how ++ (rway (trn how a b) b how).tail := by
  intro n
  induction n with
  | zero =>
    intro a h
    have e := gap_zero h
    rw [← e, rway_self, List.cons_append, List.nil_append]
    exact rway_ne _ _ _
  | succ n ih =>
    intro a h
    have hne : a ≠ trn how a b := fun e => by rw [← e] at h; unfold gap at h; omega
    obtain ⟨h1, h2, h3⟩ := rst_trn hne
    have hg := rst_gap how hne
    rw [rway_cons how h3, rway_cons how hne, ← h1]
    have := ih (rst b how a) (by rw [h2, h1]; omega)
    rw [h2] at this
    rw [this, List.cons_append]
/-- a straight way -/
def strt (a b : Int × Int) : Prop := a.1 = b.1 ∨ a.2 = b.2
theorem sgn_zero : sgn 0 = 0 := rfl
theorem tw_sgn (a b : Int) : tw a b = a + sgn (b - a) := by
  unfold tw sgn
  split <;> (try split) <;> (try split) <;> omega
theorem sgn_keep {a b : Int} (h : a + sgn (b - a) ≠ b) : sgn (b - (a + sgn (b - a))) = sgn (b - a) := by
  rcases Int.lt_trichotomy (b - a) 0 with h1 | h1 | h1
  · have hs : sgn (b - a) = -1 := if_pos h1
    rw [hs] at h ⊢
    exact if_pos (by omega)
  · have hs : sgn (b - a) = 0 := by rw [h1]; rfl
    rw [hs] at h ⊢
    omega
  · have hs : sgn (b - a) = 1 := by unfold sgn; rw [if_neg (by omega), if_pos h1]
    rw [hs] at h ⊢
    unfold sgn
    rw [if_neg (by omega), if_pos (by omega)]
theorem rst_strt {a b : Int × Int} (how : Int) (h : strt a b) (hne : a ≠ b) : rst b how a = (a.1 + sgn (b.1 - a.1), a.2 + sgn (b.2 - a.2)) ∧ strt (rst b how a) b ∧
    (rst b how a ≠ b → sgn (b.1 - (rst b how a).1) = sgn (b.1 - a.1) ∧ sgn (b.2 - (rst b how a).2) = sgn (b.2 - a.2)) := by
  obtain ⟨a1, a2⟩ := a
  obtain ⟨b1, b2⟩ := b
  have hr : rst (b1, b2) how (a1, a2) = (a1 + sgn (b1 - a1), a2 + sgn (b2 - a2)) := by
    unfold strt at h
    simp only at h
    rcases h with rfl | rfl
    · have h2 : a2 ≠ b2 := fun e => hne (by rw [e])
      unfold rst
      rw [if_neg (by simp [h2]), Int.sub_self, sgn_zero, Int.add_zero, tw_sgn]
    · unfold rst
      rw [if_pos (.inl rfl), Int.sub_self, sgn_zero, Int.add_zero, tw_sgn]
  rw [hr]
  refine ⟨rfl, ?_, fun hn => ?_⟩
  · unfold strt at *
    simp only at *
    rcases h with rfl | rfl
    · left; rw [Int.sub_self, sgn_zero, Int.add_zero]
    · right; rw [Int.sub_self, sgn_zero, Int.add_zero]
  · unfold strt at h
    simp only at *
    rcases h with rfl | rfl
    · have e : a1 + sgn (a1 - a1) = a1 := by rw [Int.sub_self, sgn_zero, Int.add_zero]
      rw [e]
      exact ⟨rfl, sgn_keep fun h => hn (by rw [e, h])⟩
    · have e : a2 + sgn (a2 - a2) = a2 := by rw [Int.sub_self, sgn_zero, Int.add_zero]
      rw [e]
      exact ⟨sgn_keep fun h => hn (by rw [e, h]), rfl⟩
theorem sgn_abs (x : Int) : (sgn x).natAbs ≤ 1 := by unfold sgn; split <;> (try split) <;> omega
theorem wdb {x : Int} (h : -1000 ≤ x ∧ x ≤ 1000) : x.natAbs ≤ 1000 := by omega

/-! ### What is gathered -/
theorem hset1c {w : World} {b : Nat} {x : Value} {t : TypeId} (h : w.heap[b]? = some (.cells #[x] t)) (x' : Value) : (w.setCell ⟨b, 0, none⟩ x').heap[b]? = some (.cells #[x'] t) := by
  unfold World.setCell
  simp only [Array.getElem?_modify, if_pos, h, Option.map_some]
  rfl

end Go.Proofs.Ythchkhgimnchcaa
/- The walks of package plan: each step of a straight way; the whole way. -/
namespace Go.Proofs.Ythchkhgimnchcaa
open Go.RowKit

end Go.Proofs.Ythchkhgimnchcaa
/- The walks of package plan: the way, by two straight ones. -/
namespace Go.Proofs.Ythchkhgimnchcaa
open Go.RowKit

theorem ownp_one (w : World) (x y : Int) : OwnP (w.alloc (.cells #[.int .i64 x, .int .i64 y] 39)) w.heap.size 39 (.slice (some ⟨w.heap.size, 0, none⟩) 1 1) [(x, y)] :=
  ⟨rfl, .inr ⟨w.heap.size, 1, _, rfl, Nat.le_refl _, Array.getElem?_push_size, by simp, by simp [maxLen], rfl, rfl⟩⟩

end Go.Proofs.Ythchkhgimnchcaa
