/- Texts of this proof, joined: IsMath; Off; OneI; IsA; IsB; IsC; Chain; ChainO. -/
import Derived.Test.YtmkepmjdckdpgaaBun6
import Derived.Shelf.Abstract
/- Stage 17's program: plain mathematics of what is asked and told, one number behind the other. -/
namespace Go.Proofs.Ytmkepmjdckdpgaa

/-- one number behind the other is asked, till it is so of one -/
def runS {σ : Type} (f : σ → Int → σ × Bool) : σ → List Int → σ × Bool
  | s, [] => (s, false)
  | s, x :: l => if (f s x).2 then ((f s x).1, true) else runS f (f s x).1 l
theorem runS_cons {σ : Type} (f : σ → Int → σ × Bool) (s : σ) (x : Int) (l : List Int) : runS f s (x :: l) = if (f s x).2 then ((f s x).1, true) else runS f (f s x).1 l := rfl
theorem runS_no {σ : Type} (f : σ → Int → σ × Bool) (s : σ) (l : List Int) (k : Nat) (h : k < l.length) (hf : (f s l[k]).2 = false) : runS f s (l.drop k) = runS f (f s l[k]).1 (l.drop (k + 1)) := by
  rw [List.drop_eq_getElem_cons h, runS_cons, hf]
  simp
theorem runS_yes {σ : Type} (f : σ → Int → σ × Bool) (s : σ) (l : List Int) (k : Nat) (h : k < l.length) (hf : (f s l[k]).2 = true) : runS f s (l.drop k) = ((f s l[k]).1, true) := by
  rw [List.drop_eq_getElem_cons h, runS_cons, hf]
  simp
theorem runS_end {σ : Type} (f : σ → Int → σ × Bool) (s : σ) (l : List Int) : runS f s (l.drop l.length) = (s, false) := by
  rw [List.drop_length]
  rfl
theorem runS_each {σ : Type} (g : σ → Int → σ) : ∀ (l : List Int) (s : σ), runS (fun s x => (g s x, false)) s l = (l.foldl g s, false)
  | [], _ => rfl
  | x :: l, s => by
    have := runS_each g l (g s x)
    rw [runS_cons]
    simpa using this
theorem runS_any (p : Int → Bool) : ∀ (l : List Int), (runS (fun (_ : Unit) x => ((), p x)) () l).2 = l.any p
  | [] => rfl
  | x :: l => by
    have := runS_any p l
    rw [runS_cons]
    cases h : p x <;> simp_all
theorem any_in (l : List Int) (n : Int) : l.any (fun m => m == n) = inL l n := by
  unfold inL
  rw [Bool.eq_iff_iff, List.any_eq_true, decide_eq_true_iff]
  constructor
  · rintro ⟨x, h1, h2⟩
    have := eq_of_beq h2
    rwa [← this]
  · intro h
    exact ⟨n, h, by simp⟩
theorem any_not (a b : List Int) : (!a.any fun x => !inL b x) = withinB a b := by
  rw [Bool.eq_iff_iff, within_iff, List.not_any_eq_all_not, List.all_eq_true]
  constructor
  · intro h x hx
    have := h x hx
    rw [Bool.not_not] at this
    exact inL_iff.1 this
  · intro h x hx
    rw [Bool.not_not]
    exact inL_iff.2 (h x hx)
/-- does it not rise -/
def rgt (a n : Int) : Int × Bool := (n, !decide (a < n))
theorem ris_two {a x : Int} {l : List Int} : risL (a :: x :: l) ↔ a < x ∧ risL (x :: l) := by
  unfold risL
  rw [List.pairwise_cons]
  constructor
  · rintro ⟨h1, h2⟩
    exact ⟨h1 x (by simp), h2⟩
  · rintro ⟨h1, h2⟩
    refine ⟨fun y hy => ?_, h2⟩
    rcases List.mem_cons.1 hy with rfl | hy
    · exact h1
    · have := (List.pairwise_cons.1 h2).1 y hy
      omega
theorem runS_right : ∀ (l : List Int) (a : Int), (runS rgt a l).2 = !rightB (a :: l)
  | [], a => by
    have : risL [a] := List.pairwise_singleton _ _
    simp [runS, rightB, this]
  | x :: l, a => by
    have ih := runS_right l x
    rw [runS_cons]
    show (if (!decide (a < x)) = true then (x, true) else runS rgt x l).2 = _
    by_cases h : a < x
    · have e : rightB (a :: x :: l) = rightB (x :: l) := by
        unfold rightB
        exact decide_eq_decide.2 (ris_two.trans (and_iff_right h))
      rw [e, ← ih]
      simp [h]
    · have e : rightB (a :: x :: l) = false := by
        unfold rightB
        exact decide_eq_false fun hr => h (ris_two.1 hr).1
      rw [e]
      simp [h]
/-- the least above n of those that were told -/
def abS (n : Int) (s : Int × Bool) (m : Int) : Int × Bool := if n < m ∧ (s.2 = false ∨ m < s.1) then (m, true) else s
def AbI (n : Int) (p : List Int) (s : Int × Bool) : Prop := (s = (0, false) ∧ ∀ x ∈ p, x ≤ n) ∨ (s.2 = true ∧ s.1 ∈ p ∧ n < s.1 ∧ ∀ x ∈ p, n < x → s.1 ≤ x)
theorem AbI.step {n : Int} {p : List Int} {s : Int × Bool} (h : AbI n p s) (m : Int) : AbI n (p ++ [m]) (abS n s m) := by
  unfold abS
  obtain ⟨a, b⟩ := s
  by_cases hc : n < m ∧ (b = false ∨ m < a)
  · rw [if_pos hc]
    refine .inr ⟨rfl, by simp, hc.1, fun x hx hn => ?_⟩
    rcases List.mem_append.1 hx with hx | hx
    · rcases h with ⟨e, h⟩ | ⟨e, h1, h2, h3⟩
      · have := h x hx; omega
      · have h4 := h3 x hx hn
        have h5 : m < a := hc.2.resolve_left fun e2 => by simp only at e; rw [e2] at e; cases e
        simp only at h4 ⊢
        omega
    · rw [List.mem_singleton.1 hx]
      exact Int.le_refl _
  · rw [if_neg hc]
    rcases h with ⟨e, h⟩ | ⟨e, h1, h2, h3⟩
    · refine .inl ⟨e, fun x hx => ?_⟩
      rcases List.mem_append.1 hx with hx | hx
      · exact h x hx
      · rw [List.mem_singleton.1 hx]
        cases e
        exact Int.not_lt.1 fun h => hc ⟨h, .inl rfl⟩
    · refine .inr ⟨e, List.mem_append_left _ h1, h2, fun x hx hn => ?_⟩
      rcases List.mem_append.1 hx with hx | hx
      · exact h3 x hx hn
      · rw [List.mem_singleton.1 hx] at hn ⊢
        exact Int.not_lt.1 fun h => hc ⟨hn, .inr h⟩
theorem AbI.fold {n : Int} : ∀ (l p : List Int) (s : Int × Bool), AbI n p s → AbI n (p ++ l) (l.foldl (abS n) s)
  | [], p, s, h => by simpa using h
  | x :: l, p, s, h => by
    have := AbI.fold l (p ++ [x]) _ (h.step x)
    rw [List.append_assoc] at this
    exact this
theorem AbI.is {n : Int} {l : List Int} {s : Int × Bool} (h : AbI n l s) : s = abvL l n := by
  unfold abvL
  rcases h with ⟨e, h⟩ | ⟨e, h1, h2, h3⟩
  · have hf : (setL l).find? (fun x => decide (n < x)) = none := by
      rw [List.find?_eq_none]
      intro x hx
      have := h x ((setL_mem l x).1 hx)
      simp; omega
    rw [hf, e]
  · obtain ⟨a, b⟩ := s
    simp only at e h1 h2 h3
    subst e
    obtain ⟨k, hk, e⟩ := List.getElem_of_mem ((setL_mem l a).2 h1)
    have hr := setL_ris l
    have hf := ris_find (n := n) hr hk (by omega) fun i hi => by
      have h4 := List.pairwise_iff_getElem.1 hr i k (by omega) hk hi
      have h5 := h3 _ ((setL_mem l _).1 (List.getElem_mem (show i < (setL l).length by omega)))
      omega
    rw [hf, e]
theorem abv_fold (l : List Int) (n : Int) : l.foldl (abS n) (0, false) = abvL l n := (AbI.fold l [] (0, false) (.inl ⟨rfl, fun _ h => by cases h⟩)).is
/-- those that are wanted -/
def pkS (p : Int → Bool) (t : List Int) (x : Int) : List Int := if p x then t ++ [x] else t
theorem pk_fold (p : Int → Bool) : ∀ (l t : List Int), l.foldl (pkS p) t = t ++ l.filter p
  | [], t => by simp
  | x :: l, t => by
    have := pk_fold p l (pkS p t x)
    rw [List.foldl_cons, this]
    unfold pkS
    cases h : p x <;> simp [h]
theorem pick_pos (a b : List Int) : (setL a).filter (inL b) = andL a b := by
  unfold andL pickL
  congr 1
  funext x
  cases inL b x <;> rfl
theorem pick_neg (a b : List Int) : ((setL a).filter fun x => !inL b x) = lessL a b := by
  unfold lessL pickL
  congr 1
  funext x
  cases inL b x <;> rfl
theorem inL_set (b : List Int) (x : Int) : inL (setL b) x = inL b x := by
  unfold inL
  exact decide_eq_decide.2 (setL_mem b x)
theorem or_cat (a b : List Int) : setL ([a, b].flatten) = orL a b := by
  unfold orL
  simp
theorem set_sort (l : List Int) : Lib.compact (l.mergeSort fun x y => decide (x ≤ y)) = setL l := by
  refine rise_ext (compact_rise (sorted_ms l)) (setL_ris l) fun m => ?_
  rw [compact_mem, List.mem_mergeSort, setL_mem]
end Go.Proofs.Ytmkepmjdckdpgaa
/- Lists in memory that lie outside what an object has. -/
namespace Go.Proofs.Ytmkepmjdckdpgaa
open Go.RowKit

/-- a list of n things that lies outside X -/
def OffV (X : Nat → Prop) (v : Value) (n : Nat) : Prop := 0 < n → ∀ g, v.ownBlock = some g → ¬ X g
section
variable {α : Type} {w w' : World} {K : Nat} {cs : α → List Value} {v : Value} {l : List α} {F F' X Y : Nat → Prop}
theorem RowsAt.lt (h : RowsAt w K cs v l) (h0 : 0 < l.length) : ∀ g, v.ownBlock = some g → g < w.heap.size := by
  obtain ⟨a, c, rfl, hc, hx⟩ := h
  obtain ⟨g, o, rfl, hg, _⟩ := hx h0
  intro k hk
  simp [Value.ownBlock] at hk
  omega
theorem RowsAt.same (h : RowsAt w K cs v l) (hz : w.heap.size ≤ w'.heap.size) (he : 0 < l.length → ∀ g, v.ownBlock = some g → w'.heap[g]? = w.heap[g]?) : RowsAt w' K cs v l := by
  obtain ⟨a, c, rfl, hc, hx⟩ := h
  refine ⟨a, c, rfl, hc, fun h0 => ?_⟩
  obtain ⟨g, o, rfl, hg, hcell⟩ := hx h0
  have e := he h0 g rfl
  exact ⟨g, o, rfl, by omega, fun j x hj i u hu => (World.cell?_of_block (a := ⟨g, o + j * K + i, none⟩) e).trans (hcell j x hj i u hu)⟩
theorem RowsAt.only (h : RowsAt w K cs v l) (ho : Only F w w') (hf : OffV F v l.length) : RowsAt w' K cs v l := h.same ho.size fun h0 g hg => ho.block g (h.lt h0 g hg) (hf h0 g hg)
theorem RowsAt.awayV (h : RowsAt w K cs v l) (a : Addr) (u : Value) (hf : OffV (fun k => k = a.block) v l.length) : RowsAt (w.setCell a u) K cs v l :=
  h.same (by simp [World.setCell]) fun h0 g hg => Below.heap_setCell w a u g (hf h0 g hg)
theorem OffV.mv (h : OffV F v l.length) (hb : RowsAt w K cs v l) (hm : Mv F F' w w') : OffV F' v l.length := fun h0 g hg => hm.off (hb.lt h0 g hg) (h h0 g hg)
theorem OffV.mono {n : Nat} (h : OffV X v n) (hs : ∀ k, Y k → X k) : OffV Y v n := fun h0 g hg hy => h h0 g hg (hs g hy)
theorem OffV.nil : OffV X v 0 := fun h => absurd h (Nat.lt_irrefl 0)
/-- what a call has gathered by itself lies outside what was there -/
theorem OwnR.off {B n : Nat} {e : TypeId} (h : OwnR w B e K cs v l) (hX : ∀ k, X k → k < B) : OffV X v n := fun _ g hg hx => by
  have h1 := (World.ownsRow.lt h g hg).1
  have h2 := hX g hx
  omega
end
/-- the rest of a list, as the model cuts it -/
theorem restAt13 {α : Type} {w : World} {K : Nat} {cs : α → List Value} {a : Option Addr} {n c : Nat} {l : List α} (h : RowsAt w K cs (.slice a n c) l) (k : Nat) (hk : k ≤ l.length) (a' : Option Addr) (ha : k < c → ∀ g o, a = some ⟨g, o, none⟩ → a' = some ⟨g, o + k * K, none⟩) : RowsAt w K cs (.slice a' (n - k) (c - k)) (l.drop k) := by
  obtain ⟨a0, c0, e, hc, hx⟩ := h
  cases e
  refine ⟨a', c - k, by rw [List.length_drop], by rw [List.length_drop]; omega, fun h0 => ?_⟩
  rw [List.length_drop] at h0
  obtain ⟨g, o, rfl, hg, hcell⟩ := hx (by omega)
  refine ⟨g, o + k * K, ha (by omega) g o rfl, hg, fun j x hj i u hu => ?_⟩
  rw [List.getElem?_drop] at hj
  have := hcell (k + j) x hj i u hu
  rw [Nat.add_mul] at this
  rw [← this]
  congr 2
  omega
theorem OwnR.base13 {α : Type} {w : World} {B B' : Nat} {e : TypeId} {K : Nat} {cs : α → List Value} {v : Value} {l : List α} (h : OwnR w B e K cs v l) (hB : B' ≤ B) : OwnR w B' e K cs v l := by
  refine ⟨h.1, ?_⟩
  rcases h.2 with h1 | ⟨g, cap, cur, e, hg, hr⟩
  · exact .inl h1
  · exact .inr ⟨g, cap, cur, e, Nat.le_trans hB hg, hr⟩
/-- a new row of nothing -/
theorem OwnR.empty (w : World) {α : Type} (K : Nat) (cs : α → List Value) (e : TypeId) (B : Nat) (hB : w.heap.size = B) : OwnR (w.alloc (.cells #[] e)) B e K cs (.slice (some ⟨B, 0, none⟩) 0 0) [] := by
  subst hB
  exact ⟨by simp [flats], .inr ⟨w.heap.size, 0, #[], rfl, Nat.le_refl _, heap_alloc_new w _, Nat.le_refl _, by simp [maxLen], by simp, by simp [flats]⟩⟩
end Go.Proofs.Ytmkepmjdckdpgaa
/- One number in new memory. -/
namespace Go.Proofs.Ytmkepmjdckdpgaa
open Go.RowKit

theorem oneI13 (w : World) (n : Int) : RowsAt (w.alloc (.cells #[.int .i64 n] 3)) 1 csI (.slice (some ⟨w.heap.size, 0, none⟩) 1 1) [n] := by
  refine ⟨_, 1, rfl, Nat.le_refl _, fun _ => ⟨w.heap.size, 0, rfl, by simp, fun j x hj i u hu => ?_⟩⟩
  have h0 : j = 0 ∧ x = n := by
    cases j with
    | zero => simp at hj; exact ⟨rfl, hj.symm⟩
    | succ j => simp at hj
  obtain ⟨rfl, rfl⟩ := h0
  have h1 : i = 0 ∧ u = .int .i64 x := by
    cases i with
    | zero => simp [csI] at hu; exact ⟨rfl, hu.symm⟩
    | succ i => simp [csI] at hu
  obtain ⟨rfl, rfl⟩ := h1
  go_simp
theorem csI_one13 (n : Int) : ∀ u ∈ csI n, u.oneCell' = true := by
  intro u hu
  simp [csI] at hu
  subst hu
  rfl
end Go.Proofs.Ytmkepmjdckdpgaa
/- Stage 17's program: some: a function that is handed on is asked one number of a list behind the other. -/
namespace Go.Proofs.Ytmkepmjdckdpgaa
open Go.RowKit

/-- what a handed function keeps: s, in the blocks F -/
structure KeepJ {σ : Type} (J : σ → (Nat → Prop) → World → Prop) : Prop where
  lt : ∀ {s F w}, J s F w → ∀ k, F k → k < w.heap.size
  out : ∀ {s F w w'}, J s F w → w.heap.size ≤ w'.heap.size → (∀ k, F k → w'.heap[k]? = w.heap[k]?) → J s F w'
theorem KeepJ.kept {σ : Type} {J : σ → (Nat → Prop) → World → Prop} (T : KeepJ J) {s : σ} {F : Nat → Prop} {w w' : World} (h : J s F w) (hb : Below w.heap.size w w') : J s F w' := T.out h hb.size fun k hk => hb.block k (T.lt h k hk)

set_option maxHeartbeats 1000000 in
theorem iSome_any {σ : Type} {J : σ → (Nat → Prop) → World → Prop} (f : σ → Int → σ × Bool) (g : FuncId) (q : Value) (eg : ∀ args w, (callFunc g args).run Try.prog w = .ok (.enter g args) w)
    (va : Value) (l : List Int) (w : World) (hl : IntsAt w va l) (hlen : l.length ≤ 1000000) (s0 : σ) (F0 : Nat → Prop) (hF : OffV F0 va l.length) (hJ : J s0 F0 w) (R : Nat → σ → Prop) (hR0 : R 0 s0) (hRs : ∀ k s x, R k s → R (k + 1) (f s x).1)
    (hT : ∀ s F w' x k, x ∈ l → k < l.length → R k s → J s F w' → Only F0 w w' → Calls Try.prog g #[.int .i64 x, q] w' fun e w'' => e = .returned (.bool (f s x).2) ∧ ∃ F', J (f s x).1 F' w'' ∧ Mv F F' w' w'') :
    Calls Try.prog 61 #[va, .func (.func g) #[] #[q]] w fun e w' => e = .returned (.bool (runS f s0 l).2) ∧ ∃ F', J (runS f s0 l).1 F' w' ∧ Mv F0 F' w w' := by
  obtain ⟨r, hr⟩ : ∃ r, runS f s0 l = r := ⟨_, rfl⟩
  rw [hr]
  have HR := Lib.hid hr
  have HT := Lib.hid hT
  have HRS := Lib.hid hRs
  have HR0 := Lib.hid hR0
  have HJ := Lib.hid hJ
  have HF := Lib.hid hF
  have HL := Lib.hid hl
  have HLE := Lib.hid hlen
  obtain ⟨a, c, rfl⟩ := hl.form
  clear hr hT hJ hF hl hRs hR0
  go_enter Try.func61, Try.ntmps61
  go_wp2
  refine wp_scope_goto 0 (fun n a' w' => ∃ (j : Nat) (z : Int) (s : σ) (F : Nat → Prop), n = l.length - j ∧ z = j ∧ j ≤ l.length ∧ runS f s (l.drop j) = r ∧ R j s ∧ J s F w' ∧ Mv F0 F w w' ∧ ∃ u2 u3 u6 u7 u8 u9 u10 u11 u12 u13 u14 u15 u16 u17, a' = { tmps := #[.slice a l.length c, .func (.func g) #[] #[q], u2, u3, .bool false, .int .i64 z, u6, u7, u8, u9, u10, u11, u12, u13, u14, u15, u16, u17], defers := [] }) rfl rfl ?_ ?_
  · rintro n a' w' ⟨j, _, s, F, rfl, rfl, hj, hrun, hrk, hj2, hmv, u2, u3, u6, u7, u8, u9, u10, u11, u12, u13, u14, u15, u16, u17, rfl⟩ K hK
    have HK := Lib.hid hK
    have HJ2 := Lib.hid hj2
    have HM := Lib.hid hmv
    have HRU := Lib.hid hrun
    have HRK := Lib.hid hrk
    clear hK hj2 hmv hrun hrk
    by_cases hlt : j < l.length
    · have hrow := (HL.out.rows.only HM.out.only HF.out).ints
      obtain ⟨gb, o, cc, e, hlc, _, p0⟩ := hrow.spot j hlt
      cases e
      have hx := HT.out s F w' l[j] j (List.getElem_mem hlt) hlt HRK.out HJ2.out HM.out.only
      have hrn := HRS.out j s l[j] HRK.out
      have hno := runS_no f s l j hlt
      have hyes := runS_yes f s l j hlt
      generalize l[j] = x at *
      obtain ⟨s', b, hsb⟩ : ∃ s' b, f s x = (s', b) := ⟨_, _, rfl⟩
      rw [hsb] at hx hno hyes hrn
      have HRN := Lib.hid hrn
      have HX := Lib.hid hx
      have HN := Lib.hid hno
      have HY := Lib.hid hyes
      have j0 : (0 : Int) ≤ (j : Int) := by omega
      have j1 : (j : Int) < (l.length : Int) := by omega
      clear hx hno hyes hsb hrow hrn
      cases b with
      | false =>
        go_wp2_with (go_at_fn g; (with_reducible refine HX.out.mono ?_); rintro e w1 ⟨rfl, F', hj1, hm1⟩; have HJ3 := Lib.hid hj1; have HM3 := Lib.hid hm1; clear hj1 hm1)
        go_step3
        exact ⟨rfl, HK.out (l.length - (j + 1)) _ _ (by omega) ⟨j + 1, _, s', F', rfl, by omega, by omega, (HN.out trivial).symm.trans HRU.out, HRN.out, HJ3.out, HM.out.trans HM3.out, _, _, _, _, _, _, _, _, _, _, _, _, _, _,  rfl⟩⟩
      | true =>
        go_wp2_with (go_at_fn g; (with_reducible refine HX.out.mono ?_); rintro e w1 ⟨rfl, F', hj1, hm1⟩; have HJ3 := Lib.hid hj1; have HM3 := Lib.hid hm1; clear hj1 hm1)
        simp only [Exit.jump]
        go_ret
        have hrr := (HY.out trivial).symm.trans HRU.out
        rw [← hrr]
        exact ⟨rfl, F', HJ3.out, HM.out.trans HM3.out⟩
    · have e : j = l.length := by omega
      subst e
      have hrr := HRU.out
      rw [runS_end] at hrr
      have HRR := Lib.hid hrr
      clear hrr hlt
      go_wp2
      simp only [Exit.jump]
      go_ret
      rw [← HRR.out]
      exact ⟨rfl, F, HJ2.out, HM.out⟩
  · intro K hpass
    go_wp2
    go_step3
    rename_i hback
    exact hback _ _ (hpass (l.length - 0) _ _ ⟨0, _, s0, F0, rfl, rfl, by omega, HR.out, HR0.out, HJ.out, Mv.refl _ _, _, _, _, _, _, _, _, _, _, _, _, _, _, _,  rfl⟩)
end Go.Proofs.Ytmkepmjdckdpgaa
/- Stage 17's program: each: a function that is handed on is told one number of a list behind the other. -/
namespace Go.Proofs.Ytmkepmjdckdpgaa
open Go.RowKit

/-- what is told, and the box b in which the function (tv) lies that is told -/
def EaJ {σ : Type} (J : σ → (Nat → Prop) → World → Prop) (b : Nat) (tv : Value) (s : σ) (F : Nat → Prop) (w : World) : Prop := ∃ F1, J s F1 w ∧ ¬ F1 b ∧ (∀ k, F k ↔ F1 k ∨ k = b) ∧ Blk w b [tv]

end Go.Proofs.Ytmkepmjdckdpgaa
/- Stage 17's program: Right, Has, Above: what is asked and told of a list. -/
namespace Go.Proofs.Ytmkepmjdckdpgaa
open Go.RowKit

/-- one box -/
def BoJ (b : Nat) (s : Value) (F : Nat → Prop) (w : World) : Prop := Blk w b [s] ∧ ∀ k, F k ↔ k = b
theorem bo_keep {σ : Type} (b : Nat) (v : σ → Value) : KeepJ fun (s : σ) F w => BoJ b (v s) F w where
  lt := by
    rintro s F w ⟨h1, h2⟩ k hk
    rw [(h2 k).1 hk]
    exact h1.lt
  out := by
    rintro s F w w' ⟨h1, h2⟩ _ he
    exact ⟨h1.same (he b ((h2 b).2 rfl)), h2⟩

set_option maxHeartbeats 1000000 in
theorem iRight1_any (b : Nat) (s x : Int) (F : Nat → Prop) (w : World) (h : BoJ b (.int .i64 s) F w) :
    Calls Try.prog 62 #[.int .i64 x, .pointer (some ⟨b, 0, none⟩)] w fun e w' => e = .returned (.bool (rgt s x).2) ∧ ∃ F', BoJ b (.int .i64 (rgt s x).1) F' w' ∧ Mv F F' w w' := by
  obtain ⟨h1, h2⟩ := h
  have HS : Hid (∀ v, Blk (w.setCell ⟨b, 0, none⟩ v) b [v]) := Lib.hid fun v => h1.set 0 v
  have H2 := Lib.hid h2
  have c0 := h1.cell 0 rfl
  have z0 := h1.free 0 rfl
  clear h1 h2
  unfold rgt
  go_enter Try.func62, Try.ntmps62
  go_wp2
  go_ret
  exact ⟨rfl, F, ⟨HS.out _, H2.out⟩, (Only.refl _ _).set _ _ ((H2.out b).2 rfl), fun k hk => .inl hk⟩

set_option maxHeartbeats 1000000 in
theorem iHas1_any (b : Nat) (n x : Int) (w : World) (h : Blk w b [.int .i64 n]) :
    Calls Try.prog 63 #[.int .i64 x, .pointer (some ⟨b, 0, none⟩)] w fun e w' => e = .returned (.bool (x == n)) ∧ w' = w := by
  have c0 := h.cell 0 rfl
  clear h
  go_enter Try.func63, Try.ntmps63
  go_wp2
  go_ret
  exact ⟨rfl, rfl⟩

set_option maxHeartbeats 1000000 in
theorem iHas_any (va : Value) (l : List Int) (n : Int) (w : World) (ha : IntsAt w va l) (hl : l.length ≤ 1000000) :
    Calls Try.prog 47 #[va, .int .i64 n] w fun e w' => e = .returned (.bool (inL l n)) ∧ Below w.heap.size w w' := by
  have hmf : ∀ (fn : Fn) (first cap : Array Value) (w : World), (Instr.makeFunc fn first cap).run Try.prog w = .ok (.func fn first cap) w := fun _ _ _ _ => rfl
  have hal := (Below.refl w.heap.size w).alloc (Nat.le_refl _) (.cells #[.int .i64 n] 3)
  have hX := Blk.new w [.int .i64 n] 3
  have hS := iSome_any (J := fun (_ : Unit) F w' => BoJ w.heap.size (.int .i64 n) F w') (fun _ x => ((), x == n)) 63 (.pointer (some ⟨w.heap.size, 0, none⟩)) (fun _ _ => by kernel_rfl) va l _ (ha.below hal) hl ()
    (fun k => k = w.heap.size) (fun h0 k hk hf => by have := ha.rows.lt h0 k hk; omega) ⟨hX, fun k => Iff.rfl⟩ (fun _ _ => True) trivial (fun _ _ _ _ => trivial)
    (fun s F w' x k hx _ _ hj ho => (iHas1_any _ n x w' hj.1).mono (by
      rintro e w2 ⟨rfl, rfl⟩
      exact ⟨rfl, F, hj, Mv.refl _ _⟩))
  rw [show (fun (_ : Unit) (x : Int) => ((), x == n)) = (fun (_ : Unit) x => ((), (fun m => m == n) x)) from rfl, runS_any (fun m => m == n) l, any_in] at hS
  have HS := Lib.hid hS
  have HAL := Lib.hid hal
  clear hal hX hS ha
  go_enter Try.func47, Try.ntmps47
  go_wp2_with (go_at_call 61; (with_reducible refine HS.out.mono ?_); rintro e w1 ⟨rfl, F', h1, hm⟩; have HM := Lib.hid hm; clear h1 hm)
  go_ret
  exact ⟨rfl, HAL.out.trans (HM.out.only.below (fun k hk => by omega) HAL.out.size)⟩

/-- the list without its first number, as the model cuts it -/
theorem from17 (a : Option Addr) (n c : Nat) (hk : 1 ≤ n) (hn : n ≤ c) : ∃ a4 c4, (∀ w', (Instr.sliceAt 25 (.slice a n c) (some (.int .i64 1)) none none).run Try.prog w' = .ok (.slice a4 (n - 1) c4) w') ∧
    (∀ (w' : World) (l : List Int), l.length = n → RowsAt w' 1 csI (.slice a n c) l → RowsAt w' 1 csI (.slice a4 (n - 1) c4) (l.drop 1)) ∧ ∀ k, (Value.slice a4 (n - 1) c4).ownBlock = some k → (Value.slice a n c).ownBlock = some k := by
  have h1 : (1 : Int) ≤ (n : Int) := by omega
  by_cases hck : c = 1
  · have hc0 : n = 1 := by omega
    refine ⟨a, 0, fun w' => ?_, fun w' l hl h => ?_, fun k h => by cases a <;> simp [Value.ownBlock] at h ⊢; exact h⟩
    · simp [go_sem, hck, hc0, sliced]
    · have := restAt13 h 1 (by omega) a (fun h => by omega)
      rwa [hck, Nat.sub_self] at this
  · refine ⟨a.map (fun x => x.add 1), c - 1, fun w' => ?_, fun w' l hl h => ?_, fun k h => ?_⟩
    · simp [go_sem, sliced, h1]
      exact fun h => absurd h hck
    · exact restAt13 h 1 (by omega) _ (fun _ g o e => by subst e; simp [Addr.add])
    · cases a with
      | none => simp [Value.ownBlock] at h
      | some a => simpa [Value.ownBlock, Addr.add] using h

set_option maxHeartbeats 1000000 in
theorem iRight_any (va : Value) (l : List Int) (w : World) (ha : IntsAt w va l) (hl : l.length ≤ 1000000) :
    Calls Try.prog 46 #[va] w fun e w' => e = .returned (.bool (rightB l)) ∧ Below w.heap.size w w' := by
  have hmf : ∀ (fn : Fn) (first cap : Array Value) (w : World), (Instr.makeFunc fn first cap).run Try.prog w = .ok (.func fn first cap) w := fun _ _ _ _ => rfl
  cases l with
  | nil =>
    obtain ⟨a, c, rfl⟩ := ha.form
    have e : rightB [] = true := by decide
    rw [e]
    clear ha
    go_enter Try.func46, Try.ntmps46
    go_wp2
    go_ret
    exact ⟨rfl, Below.refl _ _⟩
  | cons x t =>
    obtain ⟨g, o, c, e, hlc, hg, p0⟩ := ha.spot 0 (by simp)
    subst e
    have hal := (Below.refl w.heap.size w).alloc (Nat.le_refl _) (.cells #[.int .i64 x] 3)
    have hX := Blk.new w [.int .i64 x] 3
    obtain ⟨a4, c4, hsl, hrows, how⟩ := from17 (some ⟨g, o, none⟩) (x :: t).length c (by simp) hlc
    have hr := (hrows _ (x :: t) rfl (ha.below hal).rows).ints
    have hS := iSome_any (J := fun (s : Int) F w' => BoJ w.heap.size (.int .i64 s) F w') rgt 62 (.pointer (some ⟨w.heap.size, 0, none⟩)) (fun _ _ => by kernel_rfl) _ t _ hr (by simp at hl; omega) x
      (fun k => k = w.heap.size) (fun h0 k hk hf => by have := ha.rows.lt (by simp) k (how k hk); omega) ⟨hX, fun k => Iff.rfl⟩ (fun _ _ => True) trivial (fun _ _ _ _ => trivial)
      (fun s F w' y k hx _ _ hj ho => iRight1_any _ s y F w' hj)
    rw [runS_right, List.length_cons, Nat.add_sub_cancel] at hS
    rw [List.length_cons, Nat.add_sub_cancel] at hsl
    have HS := Lib.hid hS
    have HAL := Lib.hid hal
    generalize rightB (x :: t) = r at *
    replace p0 : w.cell? ⟨g, o, none⟩ = some (.int .i64 x) := by simpa using p0
    rw [List.length_cons] at *
    clear hal hX hS ha hr hrows how hg
    generalize t.length = n at *
    have n0 : (0 : Int) ≤ (n : Int) := by omega
    have n1 : ¬ ((n : Int) + 1 = 0) := by omega
    go_enter Try.func46, Try.ntmps46
    go_wp2_with (go_at_call 61; (with_reducible refine HS.out.mono ?_); rintro e w1 ⟨rfl, F', h1, hm⟩; have HM := Lib.hid hm; clear h1 hm)
    go_ret
    exact ⟨by simp, HAL.out.trans (HM.out.only.below (fun k hk => by omega) HAL.out.size)⟩
end Go.Proofs.Ytmkepmjdckdpgaa
/- A region that draws its order, in which some operations (builtin appends, new blocks, calls) stand in a chain, each behind the one before, and change memory that the region has made itself; all others only read, or call quietly; then a tail in a forced order. -/
namespace Go.Proofs.Ytmkepmjdckdpgaa
open Go.RowKit

section
variable {P : Program} {ops : Array Oper} {md : Region.Mode} {W : World}

/-- what new memory leaves -/
def KeptC (F : World → Prop) : Prop := ∀ w w', F w → Below w.heap.size w w' → F w'

/-- what an operation of the chain hands back, and what holds behind it -/
structure Lk where
  α : Type
  ne : Nonempty α
  val : α → Value
  R : α → World → Prop
def Lk.upon (k : Lk) (P : Program) (B : Nat) (w : World) : Result Next → Prop
  | .ok (.value v) w' => ∃ x, v = k.val x ∧ k.R x w' ∧ Below B w w'
  | .ok (.enter f args) w1 => w1 = w ∧ Calls P f args w fun e w' => ∃ x, e = .returned (k.val x) ∧ k.R x w' ∧ Below B w w'
  | _ => False
structure Lk.at (k : Lk) (P : Program) (o : Oper) (a : Act) (W : World) (G : World → Prop) : Prop where
  kept : ∀ x, KeptC (k.R x)
  run : ∀ n : In W, G n.w → k.upon P W.heap.size n.w ((execOp a.eval o).run P n.w)
theorem Lk.at.same {k : Lk} {o : Oper} {a a' : Act} {G : World → Prop} (he : execOp a'.eval o = execOp a.eval o) (h : k.at P o a W G) : k.at P o a' W G := ⟨h.kept, fun n hn => by rw [he]; exact h.run n hn⟩

structure HeldC (W : World) (G : World → Prop) (w : World) : Prop where
  below : Below W.heap.size W w
  fact : G w
  kept : KeptC G

def qOp (P : Program) (ops : Array Oper) (W : World) (N : Nat → Option Lk) (j : Nat) (K : Act → (World → Prop) → Prop) (a : Act) (G : World → Prop) : Prop :=
  match ops[j]? with
  | none => K a G
  | some o =>
    match N j with
    | none => if Region.wanted o (yielded ops a.tmps) then ∃ v, calmAt P o a W v ∧ K (a.put o.dst v) G else K (a.put o.dst undef) G
    | some k => Region.wanted o (yielded ops a.tmps) = true ∧ k.at P o a W G ∧ ∀ x, K (a.put o.dst (k.val x)) (k.R x)

variable {N : Nat → Option Lk}

theorem qOp_mono {j : Nat} {K K' : Act → (World → Prop) → Prop} {a : Act} {G : World → Prop} (h : ∀ a G, K a G → K' a G) (hh : qOp P ops W N j K a G) : qOp P ops W N j K' a G := by
  unfold qOp at *
  cases ho : ops[j]? with
  | none => simp only [ho] at hh; exact h _ _ hh
  | some o =>
    simp only [ho] at hh ⊢
    cases hn : N j with
    | none =>
      simp only [hn] at hh ⊢
      split
      · rename_i hw; simp only [hw, if_true] at hh; exact hh.imp fun v hv => ⟨hv.1, h _ _ hv.2⟩
      · rename_i hw; simp only [hw] at hh; exact h _ _ hh
    | some k =>
      simp only [hn] at hh ⊢
      exact ⟨hh.1, hh.2.1, fun x => h _ _ (hh.2.2 x)⟩

/-- What it is for a run. -/
theorem wpOp_of_qOp {i : Nat} {a : Act} {G : World → Prop} {w : World} {K : Act → (World → Prop) → Prop} {K' : Act → World → Prop} {Q : Exit → Act → World → Prop} (hz : HeldC W G w)
    (h : ∀ a G w, HeldC W G w → K a G → K' a w) (hh : qOp P ops W N i K a G) : wpOp P ops Q i K' a w := by
  obtain ⟨hw, hf, hk⟩ := hz
  unfold qOp at hh
  unfold wpOp
  cases ho : ops[i]? with
  | none => simp only [ho] at hh; exact h _ _ _ ⟨hw, hf, hk⟩ hh
  | some o =>
    simp only [ho] at hh ⊢
    cases hn : N i with
    | none =>
      simp only [hn] at hh
      split
      · rename_i hwant
        simp only [hwant, if_true] at hh
        obtain ⟨v, hv, hK⟩ := hh
        refine .inl ?_
        have h3 := hv ⟨w, hw⟩
        unfold Oper.wp
        simp only at h3
        generalize (execOp a.eval o).run P w = r at *
        cases r with
        | ok n w' =>
          cases n <;> simp only [Oper.quietUpon] at h3 <;> simp only [Oper.upon]
          case value u =>
            obtain ⟨e1, e2⟩ := h3
            rw [e1, e2]
            exact h _ _ _ ⟨hw, hf, hk⟩ hK
          case skip =>
            obtain ⟨e1, e2⟩ := h3
            rw [e1, ← e2]
            exact h _ _ _ ⟨hw, hf, hk⟩ hK
          case enter f args =>
            obtain ⟨e1, hc⟩ := h3
            rw [e1]
            refine hc.mono fun e w'' ⟨he, n, hn⟩ => ?_
            subst he
            subst hn
            exact h _ _ _ ⟨hw.trans (n.h.mono hw.size), hk _ _ hf n.h, hk⟩ hK
        | halt x w' => simp only [Oper.quietUpon] at h3
      · rename_i hwant
        simp only [hwant] at hh
        exact h _ _ _ ⟨hw, hf, hk⟩ hh
    | some k =>
      simp only [hn] at hh
      obtain ⟨hwant, hat, hK⟩ := hh
      rw [if_pos hwant]
      refine .inl ?_
      have h3 := hat.run ⟨w, hw⟩ hf
      unfold Oper.wp
      simp only at h3
      generalize (execOp a.eval o).run P w = r at *
      cases r with
      | ok n w' =>
        cases n <;> simp only [Lk.upon] at h3
        case value u =>
          obtain ⟨x, rfl, hr, hb⟩ := h3
          simp only [Oper.upon]
          exact h _ _ _ ⟨hw.trans hb, hr, hat.kept x⟩ (hK x)
        case enter f args =>
          obtain ⟨e1, hc⟩ := h3
          subst e1
          simp only [Oper.upon]
          refine hc.mono fun e w'' ⟨x, he, hr, hb⟩ => ?_
          subst he
          exact h _ _ _ ⟨hw.trans hb, hr, hat.kept x⟩ (hK x)
      | halt x w' => simp only [Lk.upon] at h3

/-- The head, in whatever order, till L. -/
def anyQ (P : Program) (md : Region.Mode) (ops : Array Oper) (W : World) (N : Nat → Option Lk) (n : Nat) (L : Array Bool → Act → (World → Prop) → Prop) : Nat → Array Bool → Act → (World → Prop) → Prop
  | 0, listed, a, G => L listed a G
  | f + 1, listed, a, G =>
    Region.ready md ops listed ≠ [] ∧ ∀ i ∈ Region.ready md ops listed, i < n ∧ qOp P ops W N i (anyQ P md ops W N n L f (listed.setIfInBounds i true)) a G

theorem wpAny_of_anyQ {n g : Nat} {L : Array Bool → Act → (World → Prop) → Prop} {Q : Exit → Act → World → Prop} (hL : ∀ listed a G w, HeldC W G w → L listed a G → wpAny P md ops Q g listed a w) :
    ∀ (f : Nat) (listed : Array Bool) (a : Act) (G : World → Prop) (w : World), HeldC W G w → anyQ P md ops W N n L f listed a G → wpAny P md ops Q (f + g) listed a w
  | 0, listed, a, G, w, hw, h => by rw [Nat.zero_add]; exact hL _ _ _ _ hw h
  | f + 1, listed, a, G, w, hw, h => by
    rw [show f + 1 + g = (f + g) + 1 by omega]
    exact ⟨fun h0 => absurd h0 h.1, fun i hi => wpOp_of_qOp hw (fun a' G' w' hw' h' => wpAny_of_anyQ hL f _ a' G' w' hw' h') (h.2 i hi).2⟩

theorem qOp_put_calm {j : Nat} {oi oj : Oper} {v : Value} (hj : ops[j]? = some oj) (hap : oi.apart ops oj = true)
    (hsi : ∀ cs b, oi.op ≠ .select cs b) (hsj : ∀ cs b, oj.op ≠ .select cs b) {K : Act → (World → Prop) → Prop} {a : Act} {G : World → Prop}
    (hy : CalmY P ops W oi v a) (h : qOp P ops W N j K (a.put oi.dst v) G) :
    qOp P ops W N j (fun a' G' => CalmY P ops W oi v a' ∧ K (a'.put oi.dst v) G') a G := by
  obtain ⟨h1, h2, h3⟩ := Oper.apart_spec hap
  unfold qOp at *
  simp only [hj] at *
  cases hn : N j with
  | none =>
    simp only [hn] at h ⊢
    rw [wanted_put oj a oi.dst v h1] at h
    split
    · rename_i hw
      simp only [hw, if_true] at h
      obtain ⟨u, hu, hK⟩ := h
      exact ⟨u, calmAt_same (execOp_put oj hsj a oi.dst v h1).symm hu, hy.put h3 hsi u, by rw [← Act.put_comm a v u h2]; exact hK⟩
    · rename_i hw
      simp only [hw] at h
      exact ⟨hy.put h3 hsi _, by rw [← Act.put_comm a v undef h2]; exact h⟩
  | some k =>
    simp only [hn] at h ⊢
    obtain ⟨hw, hs, hK⟩ := h
    exact ⟨by rw [← wanted_put oj a oi.dst v h1]; exact hw, hs.same (execOp_put oj hsj a oi.dst v h1).symm,
      fun x => ⟨hy.put h3 hsi _, by rw [← Act.put_comm a v _ h2]; exact hK x⟩⟩

theorem CalmY.qOp {i : Nat} {o : Oper} {v : Value} {a : Act} {G : World → Prop} (hi : ops[i]? = some o) (hn : N i = none) (hy : CalmY P ops W o v a) {K : Act → (World → Prop) → Prop} (h : K (a.put o.dst v) G) : qOp P ops W N i K a G := by
  unfold Go.Proofs.Ytmkepmjdckdpgaa.qOp
  simp only [hi, hn]
  rcases hy with ⟨hw, hv⟩ | ⟨hw, rfl⟩
  · simp only [hw, if_true]; exact ⟨v, hv, h⟩
  · simp only [hw, Bool.false_eq_true, if_false]; exact h

theorem anyQ_first {n i : Nat} {oi : Oper} {v : Value} {L : Array Bool → Act → (World → Prop) → Prop} (hi : ops[i]? = some oi) (hN : N i = none) (hsel : ∀ (j : Nat) (o : Oper) cs b, ops[j]? = some o → o.op ≠ .select cs b)
    (hh : HeadFirst md ops n) (hin : i < n) (hdone : ∀ listed a G, L listed a G → ∀ j ∈ Region.ready md ops listed, n ≤ j) :
    ∀ (f : Nat) (listed : Array Bool) (a : Act) (G : World → Prop), HeadInv md ops n listed →
      (∀ j oj, ops[j]? = some oj → j ≠ i → listed.getD j true = false → (∀ e ∈ oj.after, Region.binds md e = true → e.on ≠ i) → oi.apart ops oj = true) →
      i ∈ Region.ready md ops listed → CalmY P ops W oi v a →
      anyQ P md ops W N n L f (listed.setIfInBounds i true) (a.put oi.dst v) G → anyQ P md ops W N n L (f + 1) listed a G := by
  intro f
  induction f with
  | zero =>
    intro listed a G inv _ hr hy H
    have hun := (mem_ready.1 hr).1
    refine ⟨fun h => (by rw [h] at hr; cases hr), fun j hj => ?_⟩
    refine ⟨hh.lt inv hin hun hj, ?_⟩
    by_cases hji : j = i
    · subst hji; exact hy.qOp hi hN H
    · have := hdone _ _ _ H j (ready_mono hj hji)
      have := hh.lt inv hin hun hj
      omega
  | succ f ih =>
    intro listed a G inv hfree hr hy H
    have hun := (mem_ready.1 hr).1
    refine ⟨fun h => (by rw [h] at hr; cases hr), fun j hj => ?_⟩
    have hjn := hh.lt inv hin hun hj
    refine ⟨hjn, ?_⟩
    by_cases hji : j = i
    · subst hji; exact hy.qOp hi hN H
    · have h1 := (H.2 j (ready_mono hj hji)).2
      obtain ⟨hjun, oj, hoj, hall⟩ := mem_ready.1 hj
      have h2 := qOp_put_calm hoj (hfree j oj hoj hji hjun (not_after (j := j) hun hall rfl rfl)) (fun cs b => hsel i oi cs b hi) (fun cs b => hsel j oj cs b hoj) hy h1
      have hfree' : ∀ k ok, ops[k]? = some ok → k ≠ i → (listed.setIfInBounds j true).getD k true = false →
          (∀ e ∈ ok.after, Region.binds md e = true → e.on ≠ i) → oi.apart ops ok = true := fun k ok hk hki hun' hno => by
        refine hfree k ok hk hki ?_ hno
        by_cases hjk : j = k
        · subst hjk; exact hjun
        · rw [getD_set_ne true hjk] at hun'; exact hun'
      refine qOp_mono (fun a' G' h3 => ih (listed.setIfInBounds j true) a' G' (inv.set hj hjn) hfree' (ready_mono hr (Ne.symm hji)) h3.1 ?_) h2
      rw [Array.setIfInBounds_comm _ _ hji]
      exact h3.2

/-! ### The chain -/
/-- j waits for i -/
def beforeB (md : Region.Mode) (ops : Array Oper) : Nat → Nat → Nat → Bool
  | 0, _, _ => false
  | f + 1, i, j => match ops[j]? with
    | none => false
    | some oj => oj.after.any fun e => Region.binds md e && (e.on == i || beforeB md ops f i e.on)
theorem beforeB_edge {f i j : Nat} {oj : Oper} (hj : ops[j]? = some oj) (h : beforeB md ops (f + 1) i j = true) : ∃ e ∈ oj.after, Region.binds md e = true ∧ (e.on = i ∨ beforeB md ops f i e.on = true) := by
  unfold beforeB at h
  simp only [hj] at h
  obtain ⟨e, he, hb⟩ := Array.any_eq_true'.1 h
  simp only [Bool.and_eq_true, Bool.or_eq_true, beq_iff_eq] at hb
  exact ⟨e, he, hb⟩
theorem beforeB_listed {n i : Nat} {listed : Array Bool} (inv : HeadInv md ops n listed) : ∀ (f j : Nat), beforeB md ops f i j = true → listed.getD j false = true → listed.getD i false = true
  | 0, _, h, _ => by unfold beforeB at h; cases h
  | f + 1, j, h, hl => by
    cases hj : ops[j]? with
    | none => unfold beforeB at h; simp only [hj] at h; cases h
    | some oj =>
      obtain ⟨e, he, hb, h1⟩ := beforeB_edge hj h
      have h2 := inv.closed j oj hj hl e he hb
      rcases h1 with rfl | h1
      · exact h2
      · exact beforeB_listed inv f _ h1 h2
theorem beforeB_not {n f i j : Nat} {listed : Array Bool} (inv : HeadInv md ops n listed) (hb : beforeB md ops f i j = true) (hi : i ∈ Region.ready md ops listed) (hj : j ∈ Region.ready md ops listed) : False := by
  have hun := getD_both (mem_ready.1 hi).1
  obtain ⟨_, oj, hoj, hall⟩ := mem_ready.1 hj
  cases f with
  | zero => unfold beforeB at hb; cases hb
  | succ f =>
    obtain ⟨e, he, hbd, h1⟩ := beforeB_edge hoj hb
    have h2 := hall e he hbd
    rcases h1 with rfl | h1
    · rw [hun] at h2; cases h2
    · have := beforeB_listed inv f _ h1 h2
      rw [hun] at this; cases this
/-- of two of them one waits for the other -/
def chainOf (md : Region.Mode) (ops : Array Oper) (l : List Nat) : Bool := l.all fun i => l.all fun j => i == j || beforeB md ops ops.size i j || beforeB md ops ops.size j i
theorem chainOf_not {l : List Nat} (h : chainOf md ops l = true) {n i j : Nat} {listed : Array Bool} (inv : HeadInv md ops n listed) (hi : i ∈ l) (hj : j ∈ l) (hne : j ≠ i) (h1 : i ∈ Region.ready md ops listed) (h2 : j ∈ Region.ready md ops listed) : False := by
  unfold chainOf at h
  have h3 := List.all_eq_true.1 (List.all_eq_true.1 h i hi) j hj
  simp only [Bool.or_eq_true, beq_iff_eq] at h3
  rcases h3 with (h3 | h3) | h3
  · exact hne h3.symm
  · exact beforeB_not inv h3 h1 h2
  · exact beforeB_not inv h3 h2 h1

theorem qOp_put_own {j : Nat} {k : Lk} {oi oj : Oper} (hj : ops[j]? = some oj) (hNj : N j = none) (hap : oi.apart ops oj = true)
    (hsi : ∀ cs b, oi.op ≠ .select cs b) (hsj : ∀ cs b, oj.op ≠ .select cs b) {K : Act → (World → Prop) → Prop} {a : Act} {G : World → Prop}
    (hwi : Region.wanted oi (yielded ops a.tmps) = true) (hy : k.at P oi a W G) (h : ∀ x, qOp P ops W N j K (a.put oi.dst (k.val x)) (k.R x)) :
    qOp P ops W N j (fun a' G' => Region.wanted oi (yielded ops a'.tmps) = true ∧ k.at P oi a' W G' ∧ ∀ x, K (a'.put oi.dst (k.val x)) (k.R x)) a G := by
  obtain ⟨h1, h2, h3⟩ := Oper.apart_spec hap
  obtain ⟨x0⟩ := k.ne
  unfold qOp at *
  simp only [hj, hNj] at *
  split
  · rename_i hw
    have h' : ∀ x, ∃ u, calmAt P oj a W u ∧ K ((a.put oi.dst (k.val x)).put oj.dst u) (k.R x) := fun x => by
      have h5 := h x
      rw [wanted_put oj a oi.dst _ h1] at h5
      simp only [hw, if_true] at h5
      obtain ⟨u, hu, hK⟩ := h5
      exact ⟨u, calmAt_same (execOp_put oj hsj a oi.dst _ h1).symm hu, hK⟩
    obtain ⟨u, hu, _⟩ := h' x0
    refine ⟨u, hu, by rw [wanted_put oi a oj.dst _ h3]; exact hwi, hy.same (execOp_put oi hsi a oj.dst _ h3), fun x => ?_⟩
    obtain ⟨u', hu', hK⟩ := h' x
    have e : u' = u := upon_unique (hu' (In.self W)) (hu (In.self W))
    subst e
    rw [← Act.put_comm a _ _ h2]
    exact hK
  · rename_i hw
    refine ⟨by rw [wanted_put oi a oj.dst _ h3]; exact hwi, hy.same (execOp_put oi hsi a oj.dst _ h3), fun x => ?_⟩
    have h5 := h x
    rw [wanted_put oj a oi.dst _ h1] at h5
    simp only [hw] at h5
    rw [← Act.put_comm a _ _ h2]
    exact h5

theorem anyQ_own {n i : Nat} {k : Lk} {oi : Oper} {L : Array Bool → Act → (World → Prop) → Prop} (hi : ops[i]? = some oi) (hN : N i = some k) (hsel : ∀ (j : Nat) (o : Oper) cs b, ops[j]? = some o → o.op ≠ .select cs b)
    (hch : ∀ listed, HeadInv md ops n listed → i ∈ Region.ready md ops listed → ∀ j ∈ Region.ready md ops listed, j ≠ i → N j = none)
    (hh : HeadFirst md ops n) (hin : i < n) (hdone : ∀ listed a G, L listed a G → ∀ j ∈ Region.ready md ops listed, n ≤ j) :
    ∀ (f : Nat) (listed : Array Bool) (a : Act) (G : World → Prop), HeadInv md ops n listed →
      (∀ j oj, ops[j]? = some oj → j ≠ i → listed.getD j true = false → (∀ e ∈ oj.after, Region.binds md e = true → e.on ≠ i) → oi.apart ops oj = true) →
      i ∈ Region.ready md ops listed → Region.wanted oi (yielded ops a.tmps) = true → k.at P oi a W G →
      (∀ x, anyQ P md ops W N n L f (listed.setIfInBounds i true) (a.put oi.dst (k.val x)) (k.R x)) → anyQ P md ops W N n L (f + 1) listed a G := by
  have direct : ∀ {K : Act → (World → Prop) → Prop} {a : Act} {G : World → Prop}, Region.wanted oi (yielded ops a.tmps) = true → k.at P oi a W G → (∀ x, K (a.put oi.dst (k.val x)) (k.R x)) → qOp P ops W N i K a G := by
    intro K a G h1 h2 h3
    unfold qOp
    simp only [hi, hN]
    exact ⟨h1, h2, h3⟩
  obtain ⟨x0⟩ := k.ne
  intro f
  induction f with
  | zero =>
    intro listed a G inv _ hr hwi hy H
    have hun := (mem_ready.1 hr).1
    refine ⟨fun h => (by rw [h] at hr; cases hr), fun j hj => ?_⟩
    refine ⟨hh.lt inv hin hun hj, ?_⟩
    by_cases hji : j = i
    · subst hji; exact direct hwi hy H
    · have := hdone _ _ _ (H x0) j (ready_mono hj hji)
      have := hh.lt inv hin hun hj
      omega
  | succ f ih =>
    intro listed a G inv hfree hr hwi hy H
    have hun := (mem_ready.1 hr).1
    refine ⟨fun h => (by rw [h] at hr; cases hr), fun j hj => ?_⟩
    have hjn := hh.lt inv hin hun hj
    refine ⟨hjn, ?_⟩
    by_cases hji : j = i
    · subst hji; exact direct hwi hy H
    · obtain ⟨hjun, oj, hoj, hall⟩ := mem_ready.1 hj
      have h2 := qOp_put_own (N := N) (k := k) hoj (hch listed inv hr j hj hji) (hfree j oj hoj hji hjun (not_after (j := j) hun hall rfl rfl)) (fun cs b => hsel i oi cs b hi) (fun cs b => hsel j oj cs b hoj) hwi hy
        (fun x => ((H x).2 j (ready_mono hj hji)).2)
      have hset : ∀ k, (listed.setIfInBounds j true).getD k true = false → listed.getD k true = false := fun k hk => by
        by_cases hjk : j = k
        · subst hjk; exact hjun
        · rw [getD_set_ne true hjk] at hk; exact hk
      refine qOp_mono (fun a' G' h3 => ih (listed.setIfInBounds j true) a' G' (inv.set hj hjn) (fun k ok hk hki hun' hno => hfree k ok hk hki (hset k hun') hno)
        (ready_mono hr (Ne.symm hji)) h3.1 h3.2.1 (fun x => ?_)) h2
      rw [Array.setIfInBounds_comm _ _ hji]
      exact h3.2.2 x

/-! ### The text's order -/
def wpKq (P : Program) (ops : Array Oper) (W : World) (Q : Act → (World → Prop) → Prop) : List (Option Lk) → List Oper → Act → (World → Prop) → Prop
  | [], [], a, G => Q a G
  | none :: ks, o :: l, a, G => if Region.wanted o (yielded ops a.tmps) then ∃ v, calmAt P o a W v ∧ wpKq P ops W Q ks l (a.put o.dst v) G else wpKq P ops W Q ks l (a.put o.dst undef) G
  | some k :: ks, o :: l, a, G => Region.wanted o (yielded ops a.tmps) = true ∧ k.at P o a W G ∧ ∀ x, wpKq P ops W Q ks l (a.put o.dst (k.val x)) (k.R x)
  | _, _, _, _ => False

theorem anyQ_of_K {n g : Nat} {Lq : Act → (World → Prop) → Prop} (hsel : Region.noSelect ops = true) (hh : HeadFirst md ops n) (hle : n ≤ ops.size) (inds : List Nat) (hinds : ∀ j k, N j = some k → j ∈ inds) (hch : chainOf md ops inds = true) :
    ∀ (ks : List (Option Lk)) (l : List Oper) (k : Nat) (listed : Array Bool) (a : Act) (G : World → Prop), (∀ j, j < l.length → l[j]? = ops[k + j]?) → (∀ j kd, ks[j]? = some kd → N (k + j) = kd) → k + l.length = n →
    (∀ j, j < k → listed.getD j true = true) → HeadInv md ops n listed →
    Region.lexHead md ops g l.length k listed = true → wpKq P ops W Lq ks l a G →
    anyQ P md ops W N n (fun listed' a' G' => Region.seqB md ops g n listed' = true ∧ Lq a' G') l.length listed a G
  | [], [], k, listed, a, G, hl, hs, hk, hdone, inv, hB, h => by
    have : k = n := by simpa using hk
    subst this
    exact ⟨by simpa [Region.lexHead] using hB, h⟩
  | [], _ :: _, _, _, _, _, _, _, _, _, _, _, h => by unfold wpKq at h; exact h.elim
  | none :: _, [], _, _, _, _, _, _, _, _, _, _, h => by unfold wpKq at h; exact h.elim
  | some _ :: _, [], _, _, _, _, _, _, _, _, _, _, h => by unfold wpKq at h; exact h.elim
  | kd :: ks, o :: l, k, listed, a, G, hl, hs, hk, hdone, inv, hB, h => by
    have h0 : ops[k]? = some o := by simpa using (hl 0 (by simp)).symm
    have hkn : k < n := by simp only [List.length_cons] at hk; omega
    have hNk : N k = kd := by simpa using hs 0 kd rfl
    simp only [List.length_cons, Region.lexHead, Bool.and_eq_true] at hB
    obtain ⟨⟨hr, hf⟩, hB'⟩ := hB
    have hr' : k ∈ Region.ready md ops listed := by simpa using hr
    have hl' : ∀ j, j < l.length → l[j]? = ops[k + 1 + j]? := fun j hj => by have := hl (j + 1) (by simp; omega); simpa [Nat.add_assoc, Nat.add_comm 1 j] using this
    have hs' : ∀ j kd', ks[j]? = some kd' → N (k + 1 + j) = kd' := fun j kd' hj => by have := hs (j + 1) kd' (by simpa using hj); simpa [Nat.add_assoc, Nat.add_comm 1 j] using this
    have hk' : k + 1 + l.length = n := by simp only [List.length_cons] at hk; omega
    have hdone' : ∀ j, j < k + 1 → (listed.setIfInBounds k true).getD j true = true := by
      intro j hj
      by_cases hjk : k = j
      · subst hjk
        have : k < listed.size := by rw [inv.size]; omega
        simp [this]
      · rw [getD_set_ne true hjk]; exact hdone j (by omega)
    cases kd with
    | none =>
      unfold wpKq at h
      obtain ⟨v, hy, hK⟩ : ∃ v, CalmY P ops W o v a ∧ wpKq P ops W Lq ks l (a.put o.dst v) G := by
        by_cases hw : Region.wanted o (yielded ops a.tmps) = true
        · simp only [hw, if_true] at h
          obtain ⟨v, hv, hK⟩ := h
          exact ⟨v, .inl ⟨hw, hv⟩, hK⟩
        · simp only [hw] at h
          exact ⟨undef, .inr ⟨by simpa using hw, rfl⟩, h⟩
      refine anyQ_first h0 hNk (Region.noSelect_spec hsel) hh hkn (fun listed' a' G' hL => seqB_ready hL.1) l.length listed a G inv (Region.free_spec h0 hf) hr' hy ?_
      exact anyQ_of_K hsel hh hle inds hinds hch ks l (k + 1) _ _ _ hl' hs' hk' hdone' (inv.set hr' hkn) hB' hK
    | some kk =>
      unfold wpKq at h
      obtain ⟨hw, hp, hrest⟩ := h
      refine anyQ_own h0 hNk (Region.noSelect_spec hsel) (fun listed' inv' h1 j hj hne => ?_) hh hkn (fun listed' a' G' hL => seqB_ready hL.1) l.length listed a G inv (Region.free_spec h0 hf) hr' hw hp (fun x => ?_)
      · cases hNj : N j with
        | none => rfl
        | some kj => exact (chainOf_not hch inv' (hinds k kk hNk) (hinds j kj hNj) hne h1 hj).elim
      · exact anyQ_of_K hsel hh hle inds hinds hch ks l (k + 1) _ _ _ hl' hs' hk' hdone' (inv.set hr' hkn) hB' (hrest x)

/-- how a head is told: k operations that read or call; or one of the chain -/
inductive Sq
  | calm (k : Nat)
  | own (k : Lk)
def kindsQ : List Sq → List (Option Lk)
  | [] => []
  | .calm k :: ss => List.replicate k none ++ kindsQ ss
  | .own k :: ss => some k :: kindsQ ss
def placesQ : Nat → List Sq → List Nat
  | _, [] => []
  | i, .calm k :: ss => placesQ (i + k) ss
  | i, .own _ :: ss => i :: placesQ (i + 1) ss
theorem placesQ_mem : ∀ (ss : List Sq) (i j : Nat) (k : Lk), (kindsQ ss)[j]? = some (some k) → i + j ∈ placesQ i ss
  | [], _, _, _, h => by simp [kindsQ] at h
  | .calm m :: ss, i, j, k, h => by
    unfold kindsQ at h
    unfold placesQ
    by_cases hj : j < m
    · rw [List.getElem?_append_left (by simpa using hj)] at h
      simp [hj] at h
    · rw [List.getElem?_append_right (by simpa using hj)] at h
      have := placesQ_mem ss (i + m) (j - m) k (by simpa using h)
      rwa [show i + m + (j - m) = i + j by omega] at this
  | .own m :: ss, i, 0, k, h => by unfold placesQ; exact List.mem_cons_self
  | .own m :: ss, i, j + 1, k, h => by
    unfold kindsQ at h
    unfold placesQ
    have := placesQ_mem ss (i + 1) j k (by simpa using h)
    rw [show i + 1 + j = i + (j + 1) by omega] at this
    exact List.mem_cons_of_mem _ this
def wpMq (P : Program) (ops : Array Oper) (W : World) (Q : Act → (World → Prop) → Prop) : List Sq → List Oper → Act → (World → Prop) → Prop
  | [], l, a, G => l = [] ∧ Q a G
  | .calm k :: ss, l, a, G => k ≤ l.length ∧ ∀ M : In W, wpQuiet P ops (fun w' => ∃ n : In M.w, w' = n.w) (fun a' => wpMq P ops W Q ss (l.drop k) a' G) (l.take k) a
  | .own k :: ss, l, a, G =>
    match l with
    | [] => False
    | o :: l => Region.wanted o (yielded ops a.tmps) = true ∧ k.at P o a W G ∧ ∀ x, ∀ a', a' = a.put o.dst (k.val x) → wpMq P ops W Q ss l a' (k.R x)
theorem wpKq_of_calm {Q : Act → (World → Prop) → Prop} (ks : List (Option Lk)) : ∀ (l l2 : List Oper) (a : Act) (G : World → Prop), wpCalm P ops W (fun a' => wpKq P ops W Q ks l2 a' G) l a → wpKq P ops W Q (List.replicate l.length none ++ ks) (l ++ l2) a G
  | [], l2, a, G, h => by simpa [wpCalm] using h
  | o :: l, l2, a, G, h => by
    rw [List.length_cons, List.replicate_succ, List.cons_append, List.cons_append]
    unfold wpKq
    unfold wpCalm at h
    split
    · rename_i hw
      simp only [hw, if_true] at h
      exact h.imp fun v hv => ⟨hv.1, wpKq_of_calm ks l l2 _ _ hv.2⟩
    · rename_i hw
      simp only [hw] at h
      exact wpKq_of_calm ks l l2 _ _ h
theorem wpKq_of_mix {Q : Act → (World → Prop) → Prop} : ∀ (ss : List Sq) (l : List Oper) (a : Act) (G : World → Prop), wpMq P ops W Q ss l a G → wpKq P ops W Q (kindsQ ss) l a G
  | [], l, a, G, h => by
    obtain ⟨rfl, h⟩ := h
    unfold kindsQ wpKq
    exact h
  | .calm k :: ss, l, a, G, h => by
    obtain ⟨hk, h⟩ := h
    have h2 := wpCalm_of_quiet (P := P) (ops := ops) (W := W) _ _ h
    have h3 : wpCalm P ops W (fun a' => wpKq P ops W Q (kindsQ ss) (l.drop k) a' G) (l.take k) a := by
      have mono : ∀ (l : List Oper) (a : Act) {Q1 Q2 : Act → Prop}, (∀ a, Q1 a → Q2 a) → wpCalm P ops W Q1 l a → wpCalm P ops W Q2 l a := by
        intro l
        induction l with
        | nil => intro a Q1 Q2 hq h; exact hq _ h
        | cons o l ih =>
          intro a Q1 Q2 hq h
          unfold wpCalm at h ⊢
          split
          · rename_i hw
            simp only [hw, if_true] at h
            exact h.imp fun v hv => ⟨hv.1, ih _ hq hv.2⟩
          · rename_i hw
            simp only [hw] at h
            exact ih _ hq h
      exact mono _ _ (fun a' ha' => wpKq_of_mix ss _ a' G ha') h2
    have h4 := wpKq_of_calm (kindsQ ss) (l.take k) (l.drop k) a G h3
    rw [List.take_append_drop, List.length_take, Nat.min_eq_left hk] at h4
    exact h4
  | .own k :: ss, [], a, G, h => by unfold wpMq at h; exact h.elim
  | .own k :: ss, o :: l, a, G, h => by
    unfold wpMq at h
    unfold kindsQ wpKq
    exact ⟨h.1, h.2.1, fun x => wpKq_of_mix ss l _ _ (h.2.2 x _ rfl)⟩

/-- THE LAW. -/
theorem wp_region_chain {id : Nat} {Q : Exit → Act → World → Prop} {a : Act} {l : List Oper} (n : Nat) (segs : List Sq) (inds : List Nat) (hp : placesQ 0 segs = inds) (hm : P.follows .mixedOrders = true)
    (hle : n ≤ l.length) (hB : calmB .any l.toArray n = true) (hC : chainOf .any l.toArray inds = true)
    (h : wpMq P l.toArray W (fun a'' G => ∀ w', Below W.heap.size W w' → G w' → wpList P l.toArray Q (l.drop n) a'' w') segs (l.take n) a (fun _ => True)) :
    (Code.region id l.toArray true).wp P Q a W := by
  unfold calmB at hB
  simp only [Bool.and_eq_true, Bool.or_eq_true, beq_iff_eq, decide_eq_true_eq] at hB
  obtain ⟨⟨hsel, hh0⟩, hlex⟩ := hB
  have hh : HeadFirst .any l.toArray n := hh0.imp (fun x => x) fun x => ⟨x.1.2, x.2, x.1.1⟩
  have hsz : l.toArray.size = l.length := by simp
  have htl : (l.take n).length = n := by simp; omega
  have inv0 : HeadInv .any l.toArray n (Array.replicate l.toArray.size false) :=
    ⟨by simp, fun j oj _ hl => (by rw [getD_replicate_false] at hl; cases hl), fun t _ ht => getD_in (by simpa using ht) (getD_replicate_false _ _)⟩
  have H := anyQ_of_K (P := P) (W := W) (md := .any) (N := fun j => ((kindsQ segs)[j]?).getD none) (g := l.toArray.size - n) hsel hh (by simpa using hle) inds
    (fun j k hj => by
      rw [← hp]
      cases hk : (kindsQ segs)[j]? with
      | none => simp [hk] at hj
      | some kd =>
        simp [hk] at hj
        subst hj
        simpa using placesQ_mem segs 0 j k hk) hC (kindsQ segs) (l.take n) 0 _ a (fun _ => True)
    (fun j hj => by
      rw [htl] at hj
      simp [hj]) (fun j kd hj => by simp [hj]) (by omega) (fun j hj => by omega) inv0 (by rw [htl]; exact hlex) (wpKq_of_mix _ _ _ _ h)
  refine wp_region_any hm ?_
  have h6 := wpAny_of_anyQ (Q := Q) (g := l.toArray.size - n) (fun listed a' G w' hw' hL => by
    have hdl : (l.drop n).length = l.toArray.size - n := by simp
    have := wpAny_of_seq (P := P) (md := .any) (Q' := Q) (l.drop n) n listed a' w' (fun j => by simp [List.getElem?_drop]) (by rw [hdl]; exact hL.1) (hL.2 w' hw'.below hw'.fact)
    rwa [hdl] at this) _ _ _ _ W.drew ⟨(Below.refl _ _).drew, trivial, fun _ _ _ _ => trivial⟩ H
  rw [htl, show n + (l.toArray.size - n) = l.toArray.size by omega] at h6
  exact h6
end
end Go.Proofs.Ytmkepmjdckdpgaa
/- Lists of one's own that a region gathers by appends in a chain. -/
namespace Go.Proofs.Ytmkepmjdckdpgaa
open Go.RowKit

/-- a list of n things in memory that is not older than W -/
def Lk.list {α : Type} (B : Nat) (K : Nat) (cs : α → List Value) (n : Nat) (l : List α) : Lk :=
  ⟨Option Addr × Nat, ⟨(none, 0)⟩, fun x => .slice x.1 n x.2, fun x w => OwnO w K cs (.slice x.1 n x.2) l ∧ ∀ g, (Value.slice x.1 n x.2).ownBlock = some g → B ≤ g⟩
theorem Lk.list_kept {α : Type} {B : Nat} {K n : Nat} {cs : α → List Value} {l : List α} (x : (Lk.list B K cs n l).α) : KeptC ((Lk.list B K cs n l).R x) := fun _ _ h hb => ⟨h.1.kept hb, h.2⟩
section
variable {P : Program} {o : Oper} {a : Act} {W : World} {G : World → Prop} {α : Type} {K : Nat} {cs : α → List Value}
theorem Lk.at_empty {B : Nat} (hB : W.heap.size = B) {e : TypeId} (he : ∀ n : In W, (execOp a.eval o).run P n.w = .ok (.value (.slice (some ⟨n.w.heap.size, 0, none⟩) 0 0)) (n.w.alloc (.cells #[] e))) : (Lk.list B K cs 0 []).at P o a W G :=
  ⟨Lk.list_kept, fun n _ => by
    subst hB
    rw [he n]
    refine ⟨(some ⟨n.w.heap.size, 0, none⟩, 0), rfl, ⟨.inr ⟨n.w.heap.size, 0, 0, rfl, by simp, Nat.le_refl _, by simp [maxLen], fun j hj => ?_, fun j hj => ?_⟩, fun g hg => ?_⟩, (Below.refl W.heap.size _).alloc n.h.size _⟩
    · simp at hj
    · simp at hj
    · simp [Value.ownBlock] at hg
      have := n.h.size
      omega⟩
theorem Lk.at_append {B : Nat} (hB : W.heap.size = B) (s x : Operand) (t tx : TypeId) (ho : o.op = .call { callee := .builtin .append, args := #[s, x], argTypes := #[t, tx] })
    (hK : ∀ x, (cs x).length = K) (hK0 : 0 < K) (hone : ∀ x, ∀ u ∈ cs x, u.oneCell' = true) (e ex : TypeId) (i : TypeInfo) (z : Value) (ht : P.underlying t = some (.slice e)) (htx : P.underlying tx = some (.slice ex)) (hi : P.info? e = some i) (hz : i.zero = some z) (hsize : i.size = K) (hzs : z.cells.size = K)
    (v : Value) (l : List α) (hs : a.eval s = v) (vx : Value) (m : List α) (hvx : a.eval x = vx) (n : Nat) (hn : n = l.length + m.length) (hlen : l.length + m.length ≤ maxLen) (hbytes : (l.length + m.length) * i.bytes ≤ 140737488355328)
    (hG : ∀ n : In W, G n.w → (OwnO n.w K cs v l ∧ ∀ g, v.ownBlock = some g → B ≤ g) ∧ RowsAt n.w K cs vx m) : (Lk.list B K cs n (l ++ m)).at P o a W G :=
  ⟨Lk.list_kept, fun w hw => by
    subst hn
    subst hB
    obtain ⟨⟨h1, h2⟩, h3⟩ := hG w hw
    obtain ⟨v', w', hrun, h4, h5, h6⟩ := run_append_o (P := P) hK hK0 hone t tx o.type e ex i z ht htx hi hz hsize hzs h1 vx m h3 hlen hbytes
    have he : (execOp a.eval o).run P w.w = .ok (.value v') w' := by
      simp [execOp, ho, resolve, invoke, builtin, hs, hvx, hrun, Result.andThen]
    rw [he]
    obtain ⟨b, c, rfl⟩ := h4.form
    have hb : ∀ g, (Value.slice b (l ++ m).length c).ownBlock = some g → W.heap.size ≤ g := fun g hg => by
      rcases h6 with h6 | h6
      · rw [h6] at hg
        exact h2 g hg
      · rw [h6] at hg
        cases hg
        exact w.h.size
    rw [List.length_append] at h4 hb
    exact ⟨(b, c), by rw [List.length_append]; rfl, ⟨h4, hb⟩, (Below.refl _ _).grown h5 w.h.size h2⟩⟩
/-- a call that hands back a list of new memory -/
theorem Lk.at_call {B : Nat} (hB : W.heap.size = B) {f : FuncId} {args : Array Value} (n : Nat) (l : List α) (hn : n = l.length) (he : ∀ n : In W, (execOp a.eval o).run P n.w = .ok (.enter f args) n.w)
    (hc : ∀ n : In W, Calls P f args n.w fun e w' => ∃ v, e = .returned v ∧ OwnO w' K cs v l ∧ (∀ g, v.ownBlock = some g → n.w.heap.size ≤ g) ∧ Below n.w.heap.size n.w w') : (Lk.list B K cs n l).at P o a W G :=
  ⟨Lk.list_kept, fun n _ => by
    subst hB
    subst hn
    rw [he n]
    refine ⟨rfl, (hc n).mono ?_⟩
    rintro e w' ⟨v, rfl, h1, h2, h3⟩
    obtain ⟨b, c, rfl⟩ := h1.form
    exact ⟨(b, c), rfl, ⟨h1, fun g hg => Nat.le_trans n.h.size (h2 g hg)⟩, h3.mono n.h.size⟩⟩
/-- a value that is settled -/
def Lk.val1 (v : Value) : Lk := ⟨Unit, ⟨()⟩, fun _ => v, fun _ _ => True⟩
theorem Lk.at_val {v : Value} (h : ∀ n : In W, G n.w → (execOp a.eval o).run P n.w = .ok (.value v) n.w) : (Lk.val1 v).at P o a W G :=
  ⟨fun _ _ _ _ _ => trivial, fun n hn => by
    rw [h n hn]
    exact ⟨(), rfl, trivial, Below.refl _ _⟩⟩
end
end Go.Proofs.Ytmkepmjdckdpgaa
