/- Texts of this proof, joined: BtM; Off; OneI; GraphRefA; App1; RefSet; IdRef; PlanRefE; PlanRefF; PlanRefG; PlanRefH; PlanRefI; SkillMath; SkillRefA; TkRef; BtA. -/
import Derived.Test.YtlacbjgjiggikaaBun6
import Derived.Test.YtlacbjgjiggikaaRows
import Derived.Shelf.Abstract
/- Stage 23: batches: tasks as values (Tk: FOR ALL LATER STAGES); what Check, Order and Free tell, as mathematics. -/
namespace Go.Proofs.Ytlacbjgjiggikaa
open Go.RowKit

/-- a task -/
structure Tk where
  sp : Sp
  st : Int
  seq : Int
  since : Int
  lost : Int
  ba : Option Addr
  bc : Nat
  burnt : List Int
deriving Inhabited
def csTk (x : Tk) : List Value := [.int .i64 x.sp.id, .int .i64 x.sp.prio, .int .u64 x.sp.sk, .int .u64 x.sp.ge, .int .i64 x.sp.fx, .int .i64 x.sp.fy, .int .i64 x.sp.tx, .int .i64 x.sp.ty, .slice x.sp.a x.sp.aft.length x.sp.c, .int .i64 x.st, .int .i64 x.seq, .int .i64 x.since, .int .i64 x.lost, .slice x.ba x.burnt.length x.bc]
theorem csTk_len (x : Tk) : (csTk x).length = 14 := rfl

def idsO (L : List Sp) : List Int := L.map Sp.id
def idsK (K : List Tk) : List Int := K.map fun t => t.sp.id
def arcsO (L : List Sp) : List Arc16 := L.flatMap fun x => x.aft.map fun n => ⟨n, x.id⟩
/-- the status of the first known task of an ID -/
def stO (K : List Tk) (n : Int) : Option Int := (K.find? fun t => decide (t.sp.id = n)).map Tk.st
/-- how many there are of each -/
def cntG (M : List Int) (n : Int) : Option Int := if M.count n = 0 then none else some (M.count n : Int)

theorem stO_nil : stO [] = fun _ => none := rfl
theorem stO_snoc (A : List Tk) (t : Tk) (n : Int) : stO (A ++ [t]) n = if (stO A n).isSome then stO A n else if t.sp.id = n then some t.st else none := by
  unfold stO
  rw [List.find?_append]
  cases h : A.find? (fun t => decide (t.sp.id = n)) with
  | some x => simp
  | none =>
    by_cases e : t.sp.id = n
    · simp [e]
    · simp [e]
theorem stO_take (K : List Tk) (k : Nat) (hk : k < K.length) : stO (K.take (k + 1)) = if (stO (K.take k) K[k].sp.id).isSome then stO (K.take k) else updG (stO (K.take k)) K[k].sp.id (some K[k].st) := by
  funext n
  rw [List.take_succ_eq_append_getElem hk, stO_snoc]
  generalize stO (K.take k) = g
  generalize K[k] = t
  obtain ⟨sp, st, _⟩ := t
  simp only
  generalize sp.id = m
  by_cases e : m = n
  · subst e
    cases h : g m with
    | some s => simp [h]
    | none => simp [updG]
  · have hu : updG g m (some st) n = g n := updG_other _ _ fun h => e h.symm
    rw [if_neg e]
    cases h : (g m).isSome
    · simp only [Bool.false_eq_true, if_false]
      rw [hu]
      cases g n <;> rfl
    · simp only [if_true]
      cases g n <;> rfl
theorem stO_some (K : List Tk) (n : Int) : (stO K n).isSome = inL (idsK K) n := by
  rw [Bool.eq_iff_iff, inL_iff]
  unfold stO idsK
  rw [Option.isSome_map, List.find?_isSome, List.mem_map]
  constructor
  · rintro ⟨x, h1, h2⟩
    exact ⟨x, h1, by simpa using h2⟩
  · rintro ⟨x, h1, h2⟩
    exact ⟨x, h1, by simpa using h2⟩
theorem cntG_nil : cntG [] = fun _ => none := rfl
theorem cntG_getD (M : List Int) (n : Int) : (cntG M n).getD 0 = (M.count n : Int) := by
  unfold cntG
  split
  · rename_i h
    rw [h]
    rfl
  · rfl
theorem cntG_snoc (M : List Int) (n : Int) : cntG (M ++ [n]) = updG (cntG M) n (some ((M.count n : Int) + 1)) := by
  funext x
  unfold updG
  by_cases e : x = n
  · subst e
    rw [if_pos rfl]
    unfold cntG
    rw [List.count_append, List.count_singleton_self, if_neg (by omega)]
    rfl
  · rw [if_neg e]
    unfold cntG
    rw [List.count_append, List.count_eq_zero.2 (show x ∉ [n] by simpa using e), Nat.add_zero]
theorem cntG_some (M : List Int) (n : Int) : (cntG M n).isSome = inL M n := by
  rw [Bool.eq_iff_iff, inL_iff]
  unfold cntG
  by_cases h : M.count n = 0
  · rw [if_pos h]
    have := List.count_eq_zero.1 h
    simp [this]
  · rw [if_neg h]
    have := List.count_pos_iff.1 (Nat.pos_of_ne_zero h)
    simp [this]
theorem idsO_take (L : List Sp) (k : Nat) (hk : k < L.length) : idsO (L.take (k + 1)) = idsO (L.take k) ++ [L[k].id] := by
  unfold idsO
  rw [List.take_succ_eq_append_getElem hk, List.map_append]
  rfl
theorem idsK_take (L : List Tk) (k : Nat) (hk : k < L.length) : idsK (L.take (k + 1)) = idsK (L.take k) ++ [L[k].sp.id] := by
  unfold idsK
  rw [List.take_succ_eq_append_getElem hk, List.map_append]
  rfl
theorem idsO_len (L : List Sp) : (idsO L).length = L.length := List.length_map _
theorem arcsO_take (L : List Sp) (k : Nat) (hk : k < L.length) : arcsO (L.take (k + 1)) = arcsO (L.take k) ++ L[k].aft.map fun n => ⟨n, L[k].id⟩ := by
  unfold arcsO
  rw [List.take_succ_eq_append_getElem hk, List.flatMap_append]
  simp

/-! ### What is told -/
def newB (K : List Tk) (L : List Sp) (x : Sp) : Bool := !(stO K x.id).isSome && decide ((idsO L).count x.id = 1)
def namedI (K : List Tk) (L : List Sp) (n : Int) : Bool := (stO K n).isSome || decide (0 < (idsO L).count n)
def comeI (K : List Tk) (n : Int) : Bool := !decide ((stO K n).getD 0 = 5) && !decide ((stO K n).getD 0 = 6)
def overI (K : List Tk) (n : Int) : Bool := decide ((stO K n).getD 0 = 4)
def namedB (K : List Tk) (L : List Sp) (x : Sp) : Bool := x.aft.all (namedI K L)
def comeB (K : List Tk) (x : Sp) : Bool := x.aft.all (comeI K)
def freeB (K : List Tk) (x : Sp) : Bool := x.aft.all (overI K)
def wholeB (L : List Sp) : Bool := decide ((ordL (idsO L) (arcsO L)).length = (setL (idsO L)).length)
def firstE : List Sp → Int
  | [] => 0
  | x :: t => if chk x = 0 then firstE t else chk x
def bchk (room : Int) (K : List Tk) (L : List Sp) : Int :=
  if L.length = 0 then 1 else if firstE L ≠ 0 then firstE L else if room < (K.length : Int) + L.length then 9 else
  if L.all (newB K L) = false then 6 else if L.all (namedB K L) = false then 7 else if L.all (comeB K) = false then 12 else if wholeB L = false then 8 else 0
def freeO (K : List Tk) (L : List Sp) : List Int := idsO (L.filter (freeB K))
theorem freeO_take (K : List Tk) (L : List Sp) (k : Nat) (hk : k < L.length) : freeO K (L.take (k + 1)) = if freeB K L[k] then freeO K (L.take k) ++ [L[k].id] else freeO K (L.take k) := by
  unfold freeO idsO
  rw [List.take_succ_eq_append_getElem hk, List.filter_append, List.map_append]
  cases h : freeB K L[k]
  · rw [List.filter_cons_of_neg (by simp [h])]
    simp
  · rw [List.filter_cons_of_pos (by simp [h])]
    simp
theorem freeO_len (K : List Tk) (L : List Sp) : (freeO K L).length ≤ L.length := by
  unfold freeO
  rw [idsO_len]
  exact List.length_filter_le _ _
theorem firstE_zero : ∀ {L : List Sp}, firstE L = 0 ↔ ∀ x ∈ L, chk x = 0
  | [] => by simp [firstE]
  | x :: t => by
    unfold firstE
    by_cases h : chk x = 0
    · rw [if_pos h, firstE_zero (L := t)]
      simp [h]
    · rw [if_neg h]
      simp [h]
theorem bchk_ways (room : Int) (K : List Tk) (L : List Sp) : (L.length = 0 ∧ bchk room K L = 1) ∨ (L.length ≠ 0 ∧ firstE L ≠ 0 ∧ bchk room K L = firstE L) ∨ (L.length ≠ 0 ∧ firstE L = 0 ∧ ((room < (K.length : Int) + L.length ∧ bchk room K L = 9) ∨
    (¬ room < (K.length : Int) + L.length ∧ ((L.all (newB K L) = false ∧ bchk room K L = 6) ∨ (L.all (newB K L) = true ∧ L.all (namedB K L) = false ∧ bchk room K L = 7) ∨
    (L.all (newB K L) = true ∧ L.all (namedB K L) = true ∧ L.all (comeB K) = false ∧ bchk room K L = 12) ∨ (L.all (newB K L) = true ∧ L.all (namedB K L) = true ∧ L.all (comeB K) = true ∧ wholeB L = false ∧ bchk room K L = 8) ∨
    (L.all (newB K L) = true ∧ L.all (namedB K L) = true ∧ L.all (comeB K) = true ∧ wholeB L = true ∧ bchk room K L = 0))))) := by
  unfold bchk
  by_cases h0 : L.length = 0
  · exact .inl ⟨h0, if_pos h0⟩
  rw [if_neg h0]
  by_cases h1 : firstE L = 0
  · refine .inr (.inr ⟨h0, h1, ?_⟩)
    rw [if_neg (fun h => h h1)]
    by_cases h2 : room < (K.length : Int) + L.length
    · exact .inl ⟨h2, if_pos h2⟩
    refine .inr ⟨h2, ?_⟩
    rw [if_neg h2]
    cases L.all (newB K L)
    · exact .inl ⟨rfl, if_pos rfl⟩
    cases L.all (namedB K L)
    · exact .inr (.inl ⟨rfl, rfl, rfl⟩)
    cases L.all (comeB K)
    · exact .inr (.inr (.inl ⟨rfl, rfl, rfl, rfl⟩))
    cases wholeB L
    · exact .inr (.inr (.inr (.inl ⟨rfl, rfl, rfl, rfl, rfl⟩)))
    · exact .inr (.inr (.inr (.inr ⟨rfl, rfl, rfl, rfl, rfl⟩)))
  · exact .inr (.inl ⟨h0, h1, if_pos h1⟩)
/-- a batch that is admitted -/
structure OkB (room : Int) (K : List Tk) (L : List Sp) : Prop where
  ne : L.length ≠ 0
  chk : ∀ x ∈ L, chk x = 0
  fit : (K.length : Int) + L.length ≤ room
  new : ∀ x ∈ L, newB K L x = true
  named : ∀ x ∈ L, namedB K L x = true
  come : ∀ x ∈ L, comeB K x = true
  whole : wholeB L = true
theorem bchk_iff {room : Int} {K : List Tk} {L : List Sp} : bchk room K L = 0 ↔ OkB room K L := by
  constructor
  · intro h
    rcases bchk_ways room K L with ⟨_, h1⟩ | ⟨_, h2, h1⟩ | ⟨h0, hf, h3⟩
    · rw [h1] at h; cases h
    · rw [h1] at h; exact absurd h h2
    rcases h3 with ⟨_, h1⟩ | ⟨hr, h4⟩
    · rw [h1] at h; cases h
    rcases h4 with ⟨_, h1⟩ | ⟨_, _, h1⟩ | ⟨_, _, _, h1⟩ | ⟨_, _, _, _, h1⟩ | ⟨a, b, c, d, _⟩
    · rw [h1] at h; cases h
    · rw [h1] at h; cases h
    · rw [h1] at h; cases h
    · rw [h1] at h; cases h
    · exact ⟨h0, firstE_zero.1 hf, by omega, List.all_eq_true.1 a, List.all_eq_true.1 b, List.all_eq_true.1 c, d⟩
  · intro h
    unfold bchk
    rw [if_neg h.ne, if_neg (fun e => e (firstE_zero.2 h.chk)), if_neg (by have := h.fit; omega), List.all_eq_true.2 h.new, List.all_eq_true.2 h.named, List.all_eq_true.2 h.come, h.whole]
    rfl
theorem newB_iff {K : List Tk} {L : List Sp} {x : Sp} : newB K L x = true ↔ x.id ∉ idsK K ∧ (idsO L).count x.id = 1 := by
  unfold newB
  rw [Bool.and_eq_true, stO_some, decide_eq_true_iff, Bool.not_eq_true', inL_not]
theorem namedI_iff {K : List Tk} {L : List Sp} {n : Int} : namedI K L n = true ↔ n ∈ idsK K ∨ n ∈ idsO L := by
  unfold namedI
  rw [Bool.or_eq_true, stO_some, decide_eq_true_iff, inL_iff, List.count_pos_iff]
theorem chk_len {x : Sp} (h : chk x = 0) : x.aft.length ≤ 8 := by
  rcases chk_cases x with ⟨_, e⟩ | ⟨_, _, e⟩ | ⟨_, h2, _⟩
  · rw [e] at h; cases h
  · rw [e] at h; cases h
  · unfold aftB at h2
    rw [Bool.and_eq_true] at h2
    exact of_decide_eq_true h2.1
theorem arcsO_len : ∀ {L : List Sp}, (∀ x ∈ L, x.aft.length ≤ 8) → (arcsO L).length ≤ 8 * L.length
  | [], _ => by simp [arcsO]
  | x :: t, h => by
    have ih := arcsO_len (L := t) fun y hy => h y (List.mem_cons_of_mem _ hy)
    have h0 := h x List.mem_cons_self
    have e : arcsO (x :: t) = (x.aft.map fun n => (⟨n, x.id⟩ : Arc16)) ++ arcsO t := rfl
    rw [e, List.length_append, List.length_map, List.length_cons]
    omega
theorem arcsO_mem {L : List Sp} {a : Arc16} : a ∈ arcsO L ↔ ∃ x ∈ L, a.dst = x.id ∧ a.src ∈ x.aft := by
  unfold arcsO
  rw [List.mem_flatMap]
  constructor
  · rintro ⟨x, hx, h⟩
    obtain ⟨n, hn, rfl⟩ := List.mem_map.1 h
    exact ⟨x, hx, rfl, hn⟩
  · rintro ⟨x, hx, h1, h2⟩
    exact ⟨x, hx, List.mem_map.2 ⟨a.src, h2, by rw [← h1]⟩⟩

/-! ### Orders -/
theorem freeG_congr {nodes : List Int} {arcs arcs' : List Arc16} (h : ∀ a, a ∈ arcs ↔ a ∈ arcs') (told : List Int) (n : Int) : freeG nodes arcs told n = freeG nodes arcs' told n := by
  rw [Bool.eq_iff_iff, freeG_iff, freeG_iff]
  exact ⟨fun g a ha => g a ((h a).2 ha), fun g a ha => g a ((h a).1 ha)⟩
theorem ordG_congr {nodes : List Int} {arcs arcs' : List Arc16} (h : ∀ a, a ∈ arcs ↔ a ∈ arcs') : ∀ (f : Nat) (told : List Int), ordG nodes arcs f told = ordG nodes arcs' f told
  | 0, _ => rfl
  | f + 1, told => by
    have e : nextB nodes arcs told = nextB nodes arcs' told := by
      funext n
      unfold nextB
      rw [freeG_congr h]
    unfold ordG
    rw [e]
    cases nodes.find? (nextB nodes arcs' told) with
    | none => rfl
    | some n => exact ordG_congr h f _
theorem setL_congr {l l' : List Int} (h : ∀ n, n ∈ l ↔ n ∈ l') : setL l = setL l' := (setL_ris l).eq (setL_ris l') fun n => by rw [setL_mem, setL_mem]; exact h n
theorem ordL_congr {ids ids' : List Int} {arcs arcs' : List Arc16} (h : ∀ n, n ∈ ids ↔ n ∈ ids') (ha : ∀ a, a ∈ arcs ↔ a ∈ arcs') : ordL ids arcs = ordL ids' arcs' := by
  unfold ordL
  rw [setL_congr h]
  exact ordG_congr ha _ _
theorem whole_left {L : List Sp} : wholeB L = true ↔ ∀ n, n ∉ leftL (idsO L) (arcsO L) := by
  unfold wholeB
  rw [decide_eq_true_iff]
  have h := left_len (idsO L) (arcsO L)
  constructor
  · intro e n hn
    have := List.length_pos_of_mem hn
    omega
  · intro e
    have := List.eq_nil_iff_forall_not_mem.2 e
    rw [this] at h
    simpa using h
theorem whole_mem {L : List Sp} (h : wholeB L = true) {n : Int} : n ∈ ordL (idsO L) (arcsO L) ↔ n ∈ idsO L := by
  constructor
  · intro hn
    exact (setL_mem _ _).1 ((ordL_inv (idsO L) (arcsO L)).1.ti.sub n hn)
  · intro hn
    refine Classical.byContradiction fun hc => whole_left.1 h n ((left_mem _ _ _).2 ⟨(setL_mem _ _).2 hn, hc⟩)
/-- what comes after what, of fewer, is in no ring either -/
theorem whole_less {L L' : List Sp} (h : wholeB L = true) (hs : ∀ x ∈ L', x ∈ L) : wholeB L' = true := by
  have hid : ∀ n ∈ idsO L', n ∈ idsO L := fun n hn => by
    obtain ⟨x, hx, e⟩ := List.mem_map.1 hn
    exact List.mem_map.2 ⟨x, hs x hx, e⟩
  have har : ∀ a ∈ arcsO L', a ∈ arcsO L := fun a ha => by
    obtain ⟨x, hx, e⟩ := arcsO_mem.1 ha
    exact arcsO_mem.2 ⟨x, hs x hx, e⟩
  rw [whole_left]
  have key : ∀ (i : Nat) (n : Int), n ∈ (ordL (idsO L) (arcsO L)).take i → n ∉ leftL (idsO L') (arcsO L') := by
    intro i
    induction i with
    | zero => intro n hn; simp at hn
    | succ i ih =>
      intro n hn hl
      by_cases hi : i < (ordL (idsO L) (arcsO L)).length
      · rw [List.take_succ_eq_append_getElem hi, List.mem_append, List.mem_singleton] at hn
        rcases hn with hn | hn
        · exact ih n hn hl
        · obtain ⟨a, ha, hd, hsrc⟩ := left_arc hl
          have hm : a.src ∈ idsO L := hid _ ((setL_mem _ _).1 ((left_mem _ _ _).1 hsrc).1)
          exact ih _ (ord_pre (har a ha) ((setL_mem _ _).2 hm) hi (hd.trans hn)) hsrc
      · rw [List.take_of_length_le (by omega), ← List.take_of_length_le (show (ordL (idsO L) (arcsO L)).length ≤ i by omega)] at hn
        exact ih n hn hl
  intro n hn
  have hm : n ∈ idsO L := hid _ ((setL_mem _ _).1 ((left_mem _ _ _).1 hn).1)
  refine key (ordL (idsO L) (arcsO L)).length n ?_ hn
  rw [List.take_length]
  exact (whole_mem h).2 hm

/-! ### Admitted batches -/
theorem OkB.nodup {room : Int} {K : List Tk} {L : List Sp} (h : OkB room K L) : (idsO L).Nodup := List.nodup_iff_count.2 fun n => by
  by_cases hn : n ∈ idsO L
  · obtain ⟨x, hx, rfl⟩ := List.mem_map.1 hn
    exact Nat.le_of_eq (newB_iff.1 (h.new x hx)).2
  · rw [List.count_eq_zero.2 hn]
    exact Nat.zero_le _
theorem OkB.ord_len {room : Int} {K : List Tk} {L : List Sp} (h : OkB room K L) : (ordL (idsO L) (arcsO L)).length = L.length := by
  have h1 := of_decide_eq_true h.whole
  rw [h1, ← idsO_len L]
  exact ((List.perm_ext_iff_of_nodup (setL_ris _).nodup h.nodup).2 fun n => setL_mem _ n).length_eq
theorem OkB.ids {room : Int} {K : List Tk} {L : List Sp} (h : OkB room K L) {x : Sp} (hx : x ∈ L) {n : Int} (hn : n ∈ x.aft) : n ∈ idsK K ∨ n ∈ idsO L := namedI_iff.1 (List.all_eq_true.1 (h.named x hx) n hn)
theorem perm_ids {L L' : List Sp} (hp : L.Perm L') : (idsO L).Perm (idsO L') := hp.map _
theorem perm_ord {L L' : List Sp} (hp : L.Perm L') : ordL (idsO L') (arcsO L') = ordL (idsO L) (arcsO L) :=
  ordL_congr (fun n => (perm_ids hp).symm.mem_iff) fun a => by rw [arcsO_mem, arcsO_mem]; exact ⟨fun ⟨x, hx, h⟩ => ⟨x, hp.symm.subset hx, h⟩, fun ⟨x, hx, h⟩ => ⟨x, hp.subset hx, h⟩⟩
theorem OkB.perm {room : Int} {K : List Tk} {L L' : List Sp} (h : OkB room K L) (hp : L.Perm L') : OkB room K L' := by
  have hm : ∀ x, x ∈ L' → x ∈ L := fun x hx => hp.symm.subset hx
  refine ⟨by rw [← hp.length_eq]; exact h.ne, fun x hx => h.chk x (hm x hx), by rw [← hp.length_eq]; exact h.fit, fun x hx => ?_, fun x hx => ?_, fun x hx => h.come x (hm x hx), whole_less h.whole hm⟩
  · rw [newB_iff, ← (perm_ids hp).count_eq]
    exact newB_iff.1 (h.new x (hm x hx))
  · refine List.all_eq_true.2 fun n hn => namedI_iff.2 ?_
    rw [← (perm_ids hp).mem_iff]
    exact h.ids (hm x hx) hn
/-- without the last one of the order -/
def restO (L : List Sp) (n : Int) : List Sp := L.filter fun x => !decide (x.id = n)
theorem restO_take (L : List Sp) (n : Int) (k : Nat) (hk : k < L.length) : restO (L.take (k + 1)) n = if L[k].id = n then restO (L.take k) n else restO (L.take k) n ++ [L[k]] := by
  unfold restO
  rw [List.take_succ_eq_append_getElem hk, List.filter_append]
  by_cases h : L[k].id = n
  · rw [if_pos h, List.filter_cons_of_neg (by simp [h])]
    simp
  · rw [if_neg h, List.filter_cons_of_pos (by simp [h])]
    simp
theorem OkB.rest {room : Int} {K : List Tk} {L : List Sp} (h : OkB room K L) (h1 : L.length ≠ 1) {n : Int} {k : Nat} (hk : k < (ordL (idsO L) (arcsO L)).length) (hl : k + 1 = (ordL (idsO L) (arcsO L)).length) (hn : (ordL (idsO L) (arcsO L))[k] = n) : OkB room K (restO L n) := by
  have hm : ∀ x, x ∈ restO L n → x ∈ L := fun x hx => (List.mem_filter.1 hx).1
  have hne : ∀ x, x ∈ restO L n → x.id ≠ n := fun x hx => by simpa using (List.mem_filter.1 hx).2
  have hin : ∀ x, x ∈ L → x.id ≠ n → x ∈ restO L n := fun x hx e => List.mem_filter.2 ⟨hx, by simpa using e⟩
  have hsub : (idsO (restO L n)).Sublist (idsO L) := List.Sublist.map _ List.filter_sublist
  have hlen : (restO L n).length ≤ L.length := List.length_filter_le _ _
  have hnm : n ∈ idsO L := (whole_mem h.whole).1 (hn ▸ List.getElem_mem hk)
  refine ⟨fun e => ?_, fun x hx => h.chk x (hm x hx), by have := h.fit; omega, fun x hx => ?_, fun x hx => ?_, fun x hx => h.come x (hm x hx), whole_less h.whole hm⟩
  · have hall : ∀ b ∈ idsO L, n = b := fun b hb => by
      obtain ⟨x, hx, rfl⟩ := List.mem_map.1 hb
      refine Classical.byContradiction fun hc => ?_
      have := hin x hx fun e => hc e.symm
      rw [List.eq_nil_of_length_eq_zero e] at this
      cases this
    have h2 := List.count_eq_length.2 hall
    obtain ⟨x, hx, e2⟩ := List.mem_map.1 hnm
    have h3 := (newB_iff.1 (h.new x hx)).2
    rw [e2, h2, idsO_len] at h3
    exact h1 h3
  · have h2 := newB_iff.1 (h.new x (hm x hx))
    refine newB_iff.2 ⟨h2.1, ?_⟩
    have h3 := List.Sublist.count_le x.id hsub
    have h4 : 0 < (idsO (restO L n)).count x.id := List.count_pos_iff.2 (List.mem_map.2 ⟨x, hx, rfl⟩)
    omega
  · refine List.all_eq_true.2 fun m hmx => namedI_iff.2 ?_
    rcases h.ids (hm x hx) hmx with h2 | h2
    · exact .inl h2
    · refine .inr ?_
      obtain ⟨y, hy, rfl⟩ := List.mem_map.1 h2
      refine List.mem_map.2 ⟨y, hin y hy fun e => ?_, rfl⟩
      have hxo : x.id ∈ ordL (idsO L) (arcsO L) := (whole_mem h.whole).2 (List.mem_map.2 ⟨x, hm x hx, rfl⟩)
      obtain ⟨i, hi, hxi⟩ := List.getElem_of_mem hxo
      have hp := ord_pre (arcsO_mem.2 ⟨x, hm x hx, rfl, hmx⟩ : (⟨y.id, x.id⟩ : Arc16) ∈ arcsO L) ((setL_mem _ _).2 h2) hi hxi.symm
      obtain ⟨j, hj, hyj⟩ := List.getElem_of_mem hp
      rw [List.length_take] at hj
      rw [List.getElem_take] at hyj
      have hnd := (ordL_inv (idsO L) (arcsO L)).1.ti.nodup
      exact List.pairwise_iff_getElem.1 hnd j k (by omega) hk (by omega) (hyj.trans (e.trans hn.symm))
end Go.Proofs.Ytlacbjgjiggikaa
/- Lists in memory that lie outside what an object has. -/
namespace Go.Proofs.Ytlacbjgjiggikaa
open Go.RowKit

/-- a list of n things that lies outside X -/
def OffV (X : Nat → Prop) (v : Value) (n : Nat) : Prop := 0 < n → ∀ g, v.ownBlock = some g → ¬ X g
section
variable {α : Type} {w w' : World} {K : Nat} {cs : α → List Value} {v : Value} {l : List α} {F F' X Y : Nat → Prop}
theorem RowsAt.lt (h : RowsAt w K cs v l) (h0 : 0 < l.length) : ∀ g, v.ownBlock = some g → g < w.heap.size := by
  obtain ⟨a, c, rfl, hc, hx⟩ := h
  obtain ⟨g, o, rfl, hg, _⟩ := hx h0
  intro k hk
  simp [Value.ownBlock] at hk
  omega
theorem RowsAt.same (h : RowsAt w K cs v l) (hz : w.heap.size ≤ w'.heap.size) (he : 0 < l.length → ∀ g, v.ownBlock = some g → w'.heap[g]? = w.heap[g]?) : RowsAt w' K cs v l := by
  obtain ⟨a, c, rfl, hc, hx⟩ := h
  refine ⟨a, c, rfl, hc, fun h0 => ?_⟩
  obtain ⟨g, o, rfl, hg, hcell⟩ := hx h0
  have e := he h0 g rfl
  exact ⟨g, o, rfl, by omega, fun j x hj i u hu => (World.cell?_of_block (a := ⟨g, o + j * K + i, none⟩) e).trans (hcell j x hj i u hu)⟩
theorem RowsAt.only (h : RowsAt w K cs v l) (ho : Only F w w') (hf : OffV F v l.length) : RowsAt w' K cs v l := h.same ho.size fun h0 g hg => ho.block g (h.lt h0 g hg) (hf h0 g hg)
theorem RowsAt.awayV (h : RowsAt w K cs v l) (a : Addr) (u : Value) (hf : OffV (fun k => k = a.block) v l.length) : RowsAt (w.setCell a u) K cs v l :=
  h.same (by simp [World.setCell]) fun h0 g hg => Below.heap_setCell w a u g (hf h0 g hg)
theorem OffV.mv (h : OffV F v l.length) (hb : RowsAt w K cs v l) (hm : Mv F F' w w') : OffV F' v l.length := fun h0 g hg => hm.off (hb.lt h0 g hg) (h h0 g hg)
theorem OffV.mono {n : Nat} (h : OffV X v n) (hs : ∀ k, Y k → X k) : OffV Y v n := fun h0 g hg hy => h h0 g hg (hs g hy)
theorem OffV.nil : OffV X v 0 := fun h => absurd h (Nat.lt_irrefl 0)
/-- what a call has gathered by itself lies outside what was there -/
theorem OwnR.off {B n : Nat} {e : TypeId} (h : OwnR w B e K cs v l) (hX : ∀ k, X k → k < B) : OffV X v n := fun _ g hg hx => by
  have h1 := (World.ownsRow.lt h g hg).1
  have h2 := hX g hx
  omega
end
/-- the rest of a list, as the model cuts it -/
theorem restAt13 {α : Type} {w : World} {K : Nat} {cs : α → List Value} {a : Option Addr} {n c : Nat} {l : List α} (h : RowsAt w K cs (.slice a n c) l) (k : Nat) (hk : k ≤ l.length) (a' : Option Addr) (ha : k < c → ∀ g o, a = some ⟨g, o, none⟩ → a' = some ⟨g, o + k * K, none⟩) : RowsAt w K cs (.slice a' (n - k) (c - k)) (l.drop k) := by
  obtain ⟨a0, c0, e, hc, hx⟩ := h
  cases e
  refine ⟨a', c - k, by rw [List.length_drop], by rw [List.length_drop]; omega, fun h0 => ?_⟩
  rw [List.length_drop] at h0
  obtain ⟨g, o, rfl, hg, hcell⟩ := hx (by omega)
  refine ⟨g, o + k * K, ha (by omega) g o rfl, hg, fun j x hj i u hu => ?_⟩
  rw [List.getElem?_drop] at hj
  have := hcell (k + j) x hj i u hu
  rw [Nat.add_mul] at this
  rw [← this]
  congr 2
  omega
theorem OwnR.base13 {α : Type} {w : World} {B B' : Nat} {e : TypeId} {K : Nat} {cs : α → List Value} {v : Value} {l : List α} (h : OwnR w B e K cs v l) (hB : B' ≤ B) : OwnR w B' e K cs v l := by
  refine ⟨h.1, ?_⟩
  rcases h.2 with h1 | ⟨g, cap, cur, e, hg, hr⟩
  · exact .inl h1
  · exact .inr ⟨g, cap, cur, e, Nat.le_trans hB hg, hr⟩
/-- a new row of nothing -/
theorem OwnR.empty (w : World) {α : Type} (K : Nat) (cs : α → List Value) (e : TypeId) (B : Nat) (hB : w.heap.size = B) : OwnR (w.alloc (.cells #[] e)) B e K cs (.slice (some ⟨B, 0, none⟩) 0 0) [] := by
  subst hB
  exact ⟨by simp [flats], .inr ⟨w.heap.size, 0, #[], rfl, Nat.le_refl _, heap_alloc_new w _, Nat.le_refl _, by simp [maxLen], by simp, by simp [flats]⟩⟩
end Go.Proofs.Ytlacbjgjiggikaa
/- One number in new memory. -/
namespace Go.Proofs.Ytlacbjgjiggikaa
open Go.RowKit

theorem oneI13 (w : World) (n : Int) : RowsAt (w.alloc (.cells #[.int .i64 n] 3)) 1 csI (.slice (some ⟨w.heap.size, 0, none⟩) 1 1) [n] := by
  refine ⟨_, 1, rfl, Nat.le_refl _, fun _ => ⟨w.heap.size, 0, rfl, by simp, fun j x hj i u hu => ?_⟩⟩
  have h0 : j = 0 ∧ x = n := by
    cases j with
    | zero => simp at hj; exact ⟨rfl, hj.symm⟩
    | succ j => simp at hj
  obtain ⟨rfl, rfl⟩ := h0
  have h1 : i = 0 ∧ u = .int .i64 x := by
    cases i with
    | zero => simp [csI] at hu; exact ⟨rfl, hu.symm⟩
    | succ i => simp [csI] at hu
  obtain ⟨rfl, rfl⟩ := h1
  go_simp
theorem csI_one13 (n : Int) : ∀ u ∈ csI n, u.oneCell' = true := by
  intro u hu
  simp [csI] at hu
  subst hu
  rfl
end Go.Proofs.Ytlacbjgjiggikaa
/- Stage 16: the document's In, Set, free. -/
namespace Go.Proofs.Ytlacbjgjiggikaa
open Go.RowKit

def csArc (a : Arc16) : List Value := [.int .i64 a.src, .int .i64 a.dst]
theorem csArc_len (a : Arc16) : (csArc a).length = 2 := rfl
abbrev ArcsAt (w : World) (v : Value) (l : List Arc16) : Prop := RowsAt w 2 csArc v l
theorem ArcsAt.at {w : World} {v : Value} {l : List Arc16} (h : ArcsAt w v l) (k : Nat) (hk : k < l.length) :
    ∃ g o c, v = .slice (some ⟨g, o, none⟩) l.length c ∧ l.length ≤ c ∧ g < w.heap.size ∧ w.cell? ⟨g, o + k * 2, none⟩ = some (.int .i64 l[k].src) ∧ w.cell? ⟨g, o + k * 2 + 1, none⟩ = some (.int .i64 l[k].dst) := by
  obtain ⟨a, c, rfl, hc, hx⟩ := h
  obtain ⟨g, o, rfl, hg, hcell⟩ := hx (by omega)
  exact ⟨g, o, c, rfl, hc, hg, hcell k _ (List.getElem?_eq_getElem hk) 0 _ rfl, hcell k _ (List.getElem?_eq_getElem hk) 1 _ rfl⟩
theorem inL_take (l : List Int) (n : Int) (k : Nat) (hk : k < l.length) (h : l[k] ≠ n) (h0 : n ∉ l.take k) : n ∉ l.take (k + 1) := by
  rw [List.take_succ_eq_append_getElem hk, List.mem_append, List.mem_singleton]
  rintro (h1 | h1)
  · exact h0 h1
  · exact h h1.symm

end Go.Proofs.Ytlacbjgjiggikaa
/- One number behind a list of one's own: the builtin's law with all its side conditions met. FOR ALL LATER STAGES. -/
namespace Go.Proofs.Ytlacbjgjiggikaa
open Go.RowKit

theorem app1 {ops : Array Oper} {rest : List Oper} {o : Oper} {a : Act} {Q : Exit → Act → World → Prop} {B : Nat} {w : World} {n : Int} {v : Value} {l : List Int} (hown : OwnI w B v l) (hB : B ≤ w.heap.size) (hl : l.length ≤ 1000000)
    (hgd : o.guard = none) (s x : Operand) (ho : o.op = .call { callee := .builtin .append, args := #[s, x], argTypes := #[29, 29] }) (hs : a.eval s = v) (hx : a.eval x = .slice (some ⟨w.heap.size, 0, none⟩) 1 1)
    (hK : ∀ v' w', OwnI w' B v' (l ++ [n]) → Below B w w' → wpList Try.prog ops Q rest (a.put o.dst v') w') : wpList Try.prog ops Q (o :: rest) a (w.alloc (.cells #[.int .i64 n] 3)) := by
  obtain ⟨i0, hi, hz0, hz1, hz2⟩ := info_parts info_int
  have ha := (Below.refl B w).alloc hB (.cells #[.int .i64 n] 3)
  have h1 := OwnR.alloc hown (.cells #[.int .i64 n] 3)
  have h2 : B ≤ (w.alloc (.cells #[.int .i64 n] 3)).heap.size := Nat.le_trans hB ha.size
  refine wpList_append_rows csI_len (by decide) csI_one13 hgd s x 29 ho B 3 i0 (.int .i64 0) 8 Try.underlying29 hi hz0 hz1 hz2 rfl v l hs h1 _ [n] hx (oneI13 w n) (by unfold maxLen; simp; omega) (by simp; omega) h2 fun v' w' k1 k2 => ?_
  exact hK v' w' k1 (OwnR.below h1 ha h2 k2)
end Go.Proofs.Ytlacbjgjiggikaa
/- The document's Set (tallymanref16): the numbers of a list, rising, each once. FOR ALL LATER STAGES. (Written by wip/tools/gen_refset.py.) -/
namespace Go.Proofs.Ytlacbjgjiggikaa
open Go.RowKit

end Go.Proofs.Ytlacbjgjiggikaa
/- Stage 17: the document's Right, Or, And, Less, Above. -/
namespace Go.Proofs.Ytlacbjgjiggikaa
open Go.RowKit

end Go.Proofs.Ytlacbjgjiggikaa
/- The walks of the document's answers for layer 7: the way. -/
namespace Go.Proofs.Ytlacbjgjiggikaa
open Go.RowKit

def lenOf : Value → Nat
  | .slice _ n _ => n
  | _ => 0
theorem OwnP.len {w : World} {B : Nat} {e : TypeId} {v : Value} {l : List (Int × Int)} (h : OwnP w B e v l) : lenOf v = l.length := by
  rcases h.2 with ⟨rfl, h0⟩ | ⟨g, cap, cur, rfl, _⟩
  · simp [lenOf, h0]
  · rfl
theorem OwnP.not {w : World} {B : Nat} {e : TypeId} {v : Value} {l : List (Int × Int)} (h : OwnP w B e v l) {k : Nat} (hk : k < B) : v.ownBlock ≠ some k := by
  rcases h.2 with ⟨rfl, _⟩ | ⟨g, cap, cur, rfl, hg, _⟩
  · simp [Value.ownBlock]
  · simp [Value.ownBlock]
    omega
theorem hset0 {w : World} {b : Nat} {x y : Value} {t : TypeId} (h : w.heap[b]? = some (.cells #[x, y] t)) (x' : Value) : (w.setCell ⟨b, 0, none⟩ x').heap[b]? = some (.cells #[x', y] t) := by
  unfold World.setCell
  simp only [Array.getElem?_modify, if_pos, h, Option.map_some]
  rfl
theorem hset1 {w : World} {b : Nat} {x y : Value} {t : TypeId} (h : w.heap[b]? = some (.cells #[x, y] t)) (y' : Value) : (w.setCell ⟨b, 1, none⟩ y').heap[b]? = some (.cells #[x, y'] t) := by
  unfold World.setCell
  simp only [Array.getElem?_modify, if_pos, h, Option.map_some]
  rfl
theorem hkeep {w : World} {k j : Nat} {o : Obj} (h : w.heap[k]? = some o) (i : Nat) (u : Value) (hne : k ≠ j) : (w.setCell ⟨j, i, none⟩ u).heap[k]? = some o := by
  rw [Below.heap_setCell w ⟨j, i, none⟩ u k hne]
  exact h
theorem halloc {w : World} {k : Nat} {o : Obj} (h : w.heap[k]? = some o) (p : Obj) : (w.alloc p).heap[k]? = some o := (Below.heap_alloc w p k (lt_of_block h)).trans h
theorem gap_bd {a b : Int × Int} (ha : (-1000 ≤ a.1 ∧ a.1 ≤ 1000) ∧ (-1000 ≤ a.2 ∧ a.2 ≤ 1000)) (hb : (-1000 ≤ b.1 ∧ b.1 ≤ 1000) ∧ (-1000 ≤ b.2 ∧ b.2 ≤ 1000)) : gap a b ≤ 4000 := by unfold gap; omega

end Go.Proofs.Ytlacbjgjiggikaa
/- The walks of the document's answers for layer 7: a number in a list that rises. -/
namespace Go.Proofs.Ytlacbjgjiggikaa
open Go.RowKit

theorem putR_at (n : Int) (l : List Int) (k : Nat) (h : k < l.length) (d : Bool) : putR n (l.drop k) d = (if d = false ∧ n ≤ l[k] then [n] else []) ++ (if l[k] ≠ n then [l[k]] else []) ++ putR n (l.drop (k + 1)) (d || decide (n ≤ l[k])) := by
  rw [List.drop_eq_getElem_cons h]
  rfl

end Go.Proofs.Ytlacbjgjiggikaa
/- The walks of the document's answers for layer 7: what a way goes through. -/
namespace Go.Proofs.Ytlacbjgjiggikaa
open Go.RowKit

theorem putR_len (n : Int) (l : List Int) : ∀ d, (putR n l d).length ≤ l.length + (if d = true then 0 else 1) := by
  induction l with
  | nil => intro d; cases d <;> simp [putR]
  | cons x l ih =>
    intro d
    unfold putR
    rw [List.length_append, List.length_append]
    have h1 := ih (d || decide (n ≤ x))
    have h2 : (if x ≠ n then [x] else []).length ≤ 1 := by split <;> simp
    have h3 : (if d = false ∧ n ≤ x then [n] else []).length + (if (d || decide (n ≤ x)) = true then 0 else 1) ≤ (if d = true then 0 else 1) := by
      cases d <;> by_cases h : n ≤ x <;> simp [h]
    simp only [List.length_cons]
    omega
theorem crs7_len (hit : Ais → Bool) (l : List Ais) : (crs7 hit l).length ≤ l.length := by
  have key : ∀ k, k ≤ l.length → (crs7 hit (l.take k)).length ≤ k := by
    intro k
    induction k with
    | zero => intro _; simp [crs7]
    | succ k ih =>
      intro hk
      have h0 := ih (by omega)
      rw [crs7_next hit l k (by omega)]
      split
      · have := putR_len (pa l k).id (crs7 hit (l.take k)) false
        simp at this
        omega
      · omega
  have := key l.length (Nat.le_refl _)
  rwa [List.take_length] at this
theorem crs7_len' (hit : Ais → Bool) (l : List Ais) (k : Nat) : (crs7 hit (l.take k)).length ≤ l.length := by
  have := crs7_len hit (l.take k)
  rw [List.length_take] at this
  omega
theorem hit_next (a : Ais) (w : List (Int × Int)) (j : Nat) (h : j < w.length) : hitB (w.take (j + 1)) a = (hitB (w.take j) a || hasB a (pat w j).1 (pat w j).2) := by
  unfold hitB
  rw [List.take_add_one, pat_get w j h]
  simp
theorem hit_front {a : Ais} {w : List (Int × Int)} {j : Nat} (h : hitB (w.take j) a = true) : hitB w a = true := by
  unfold hitB at *
  rw [List.any_eq_true] at *
  obtain ⟨z, h1, h2⟩ := h
  exact ⟨z, List.mem_of_mem_take h1, h2⟩

end Go.Proofs.Ytlacbjgjiggikaa
/- The walks of the document's answers for layer 7: aisles moved. -/
namespace Go.Proofs.Ytlacbjgjiggikaa
open Go.RowKit

/-- an aisle moved -/
def mvA (n x y : Int) (a : Ais) : Ais :=
  ⟨a.id, min (rmv n x y (a.lx, a.ly)).1 (rmv n x y (a.hx, a.hy)).1, min (rmv n x y (a.lx, a.ly)).2 (rmv n x y (a.hx, a.hy)).2,
    max (rmv n x y (a.lx, a.ly)).1 (rmv n x y (a.hx, a.hy)).1, max (rmv n x y (a.lx, a.ly)).2 (rmv n x y (a.hx, a.hy)).2⟩
theorem take_map_ais (f : Ais → Ais) (l : List Ais) (k : Nat) (h : k < l.length) : (l.take (k + 1)).map f = (l.take k).map f ++ [f (pa l k)] := by
  rw [List.take_succ_eq_append_getElem h, List.map_append, pa_get l k h]
  rfl
theorem OwnR.ltP {α : Type} {w : World} {B : Nat} {e : TypeId} {K : Nat} {cs : α → List Value} {v : Value} {l : List α} (h : OwnR w B e K cs v l) {k : Nat} (hk : w.heap.size ≤ k) : v.ownBlock ≠ some k := by
  rcases h.2 with ⟨rfl, _⟩ | ⟨g, cap, cur, rfl, _, hh, _⟩
  · simp [Value.ownBlock]
  · have := lt_of_block hh
    simp [Value.ownBlock]
    omega
end Go.Proofs.Ytlacbjgjiggikaa
/- The walks of the document's answers for layer 7: is it a plan. -/
namespace Go.Proofs.Ytlacbjgjiggikaa
open Go.RowKit

end Go.Proofs.Ytlacbjgjiggikaa
/- Stage 12: sets of skills as numbers; their lists, signs and texts: plain mathematics. -/
namespace Go.Proofs.Ytlacbjgjiggikaa

/-- the skills below k -/
def lsS (w k : Nat) : List Nat := (List.range k).filter fun n => w.testBit n
theorem lsS_succ (w k : Nat) : lsS w (k + 1) = lsS w k ++ (if w.testBit k then [k] else []) := by
  unfold lsS
  rw [List.range_succ, List.filter_append]
  congr 1
  by_cases h : w.testBit k = true
  · simp [h]
  · simp [h]
theorem lsS_len (w k : Nat) : (lsS w k).length ≤ k := by
  have := List.length_filter_le (fun n => w.testBit n) (List.range k)
  rwa [List.length_range] at this
theorem mem_lsS (w k n : Nat) : n ∈ lsS w k ↔ n < k ∧ w.testBit n = true := by simp [lsS]
theorem lsS_pre (w k : Nat) : ∀ j, lsS w k <+: lsS w (k + j)
  | 0 => List.prefix_refl _
  | j + 1 => by
    rw [← Nat.add_assoc, lsS_succ]
    exact (lsS_pre w k j).trans (List.prefix_append _ _)

/-- the number of those of which P tells -/
def ofS (P : Nat → Bool) : Nat → Nat
  | 0 => 0
  | k + 1 => ofS P k + if P k then 2 ^ k else 0
theorem ofS_lt (P : Nat → Bool) : ∀ k, ofS P k < 2 ^ k
  | 0 => by simp [ofS]
  | k + 1 => by
    have := ofS_lt P k
    have e : 2 ^ (k + 1) = 2 ^ k + 2 ^ k := by rw [Nat.pow_succ]; omega
    unfold ofS
    split <;> omega
theorem ofS_congr {P Q : Nat → Bool} : ∀ k, (∀ n, n < k → P n = Q n) → ofS P k = ofS Q k
  | 0, _ => rfl
  | k + 1, h => by
    unfold ofS
    rw [ofS_congr k fun n hn => h n (by omega), h k (by omega)]
theorem ofS_bits (w : Nat) : ∀ k, ofS (fun n => w.testBit n) k = w % 2 ^ k
  | 0 => by simp [ofS, Nat.mod_one]
  | k + 1 => by
    unfold ofS
    rw [ofS_bits w k, Nat.pow_succ, Nat.mod_mul, Nat.testBit_eq_decide_div_mod_eq]
    rcases Nat.mod_two_eq_zero_or_one (w / 2 ^ k) with h | h <;> simp [h]
theorem ofS_list (w : Nat) (hw : w < 2 ^ 64) : ofS (fun n => decide (n ∈ lsS w 64)) 64 = w := by
  rw [ofS_congr (Q := fun n => w.testBit n) 64 (fun n hn => by
    by_cases h : w.testBit n = true
    · rw [h, decide_eq_true ((mem_lsS w 64 n).2 ⟨hn, h⟩)]
    · rw [decide_eq_false (fun hm => h ((mem_lsS w 64 n).1 hm).2)]
      simpa using h), ofS_bits]
  exact Nat.mod_eq_of_lt hw
theorem lsS_inj {a b : Nat} (ha : a < 2 ^ 64) (hb : b < 2 ^ 64) (h : lsS a 64 = lsS b 64) : a = b := by
  rw [← ofS_list a ha, ← ofS_list b hb, h]

/-- has a all that b has, below k? -/
def hasK (a b : Nat) : Nat → Bool
  | 0 => true
  | k + 1 => hasK a b k && (!b.testBit k || a.testBit k)
theorem hasK_iff (a b : Nat) : ∀ k, hasK a b k = true ↔ ∀ n, n < k → b.testBit n = true → a.testBit n = true
  | 0 => by simp [hasK]
  | k + 1 => by
    unfold hasK
    rw [Bool.and_eq_true, hasK_iff a b k]
    constructor
    · rintro ⟨h1, h2⟩ n hn hb
      rcases Nat.lt_or_ge n k with h | h
      · exact h1 n h hb
      · have : n = k := by omega
        subst this
        simpa [hb] using h2
    · intro h
      refine ⟨fun n hn => h n (by omega), ?_⟩
      cases hb : b.testBit k with
      | false => rfl
      | true => simp [h k (by omega) hb]
theorem hasK_self (a : Nat) : hasK a a 64 = true := (hasK_iff a a 64).2 fun _ _ h => h
theorem hasK_and (a b : Nat) : hasK a (a &&& b) 64 = true := (hasK_iff a (a &&& b) 64).2 fun n _ h => by
  rw [Nat.testBit_and, Bool.and_eq_true] at h
  exact h.1
theorem hasK_or (a b : Nat) : hasK (a ||| b) b 64 = true := (hasK_iff (a ||| b) b 64).2 fun n _ h => by
  rw [Nat.testBit_or, h, Bool.or_true]
theorem hasK_trans {a b c : Nat} (h1 : hasK a b 64 = true) (h2 : hasK b c 64 = true) : hasK a c 64 = true :=
  (hasK_iff a c 64).2 fun n hn h => (hasK_iff a b 64).1 h1 n hn ((hasK_iff b c 64).1 h2 n hn h)
theorem hasK_anti {a b : Nat} (ha : a < 2 ^ 64) (hb : b < 2 ^ 64) (h1 : hasK a b 64 = true) : hasK b a 64 = decide (a = b) := by
  by_cases h : a = b
  · subst h
    rw [hasK_self, decide_eq_true rfl]
  · rw [decide_eq_false h]
    cases h2 : hasK b a 64 with
    | false => rfl
    | true =>
      refine absurd (lsS_inj ha hb ?_) h
      unfold lsS
      refine List.filter_congr fun n hn => ?_
      have hn := List.mem_range.1 hn
      have e1 := (hasK_iff a b 64).1 h1 n hn
      have e2 := (hasK_iff b a 64).1 h2 n hn
      cases h3 : a.testBit n with
      | true => exact (e2 h3).symm
      | false =>
        cases h4 : b.testBit n with
        | true => rw [e1 h4] at h3; cases h3
        | false => rfl
theorem count_le {a b : Nat} (h : hasK a b 64 = true) : (lsS b 64).length ≤ (lsS a 64).length := by
  have key : ∀ k, k ≤ 64 → (lsS b k).length ≤ (lsS a k).length := by
    intro k
    induction k with
    | zero => intro _; simp [lsS]
    | succ k ih =>
      intro hk
      have h1 := ih (by omega)
      have h2 := (hasK_iff a b 64).1 h k (by omega)
      rw [lsS_succ, lsS_succ, List.length_append, List.length_append]
      cases h3 : b.testBit k with
      | true => simp [h2 h3]; omega
      | false => cases a.testBit k <;> simp <;> omega
  exact key 64 (Nat.le_refl _)
theorem count_sum (a b : Nat) : ∀ k, (lsS (a &&& b) k).length + (lsS (a ||| b) k).length = (lsS a k).length + (lsS b k).length
  | 0 => by simp [lsS]
  | k + 1 => by
    have h := count_sum a b k
    rw [lsS_succ, lsS_succ, lsS_succ, lsS_succ, List.length_append, List.length_append, List.length_append, List.length_append, Nat.testBit_and, Nat.testBit_or]
    cases a.testBit k <;> cases b.testBit k <;> simp <;> omega

/-! ### Signs and texts -/
def sgL : List UInt8 := [97, 98, 99, 100, 101, 102, 103, 104, 105, 106, 107, 108, 109, 110, 111, 112, 113, 114, 115, 116, 117, 118, 119, 120, 121, 122, 65, 66, 67, 68, 69, 70, 71, 72, 73, 74, 75, 76, 77, 78, 79, 80, 81, 82, 83, 84, 85, 86, 87, 88, 89, 90, 48, 49, 50, 51, 52, 53, 54, 55, 56, 57, 43, 47]
def sg (n : Nat) : UInt8 := sgL.getD n 0
theorem sg_inj : ∀ m, m < 64 → ∀ n, n < 64 → sg m = sg n → m = n := by decide +kernel
theorem sg_no : ∀ m, m < 64 → sg m ≠ 45 := by decide +kernel
def txtK (w k : Nat) : List UInt8 := (lsS w k).map sg
theorem txtK_succ (w k : Nat) : txtK w (k + 1) = txtK w k ++ (if w.testBit k then [sg k] else []) := by
  unfold txtK
  rw [lsS_succ, List.map_append]
  congr 1
  by_cases h : w.testBit k = true
  · simp [h]
  · simp [h]
theorem txtK_len (w k : Nat) : (txtK w k).length ≤ k := by
  unfold txtK
  rw [List.length_map]
  exact lsS_len w k
def txtS (w : Nat) : List UInt8 := if txtK w 64 = [] then [45] else txtK w 64
/-- what has been read of a text behind k signs -/
def parK (s : List UInt8) : Nat → List Nat
  | 0 => []
  | k + 1 => if s[(parK s k).length]? = some (sg k) then parK s k ++ [k] else parK s k
theorem parK_len (s : List UInt8) : ∀ k, (parK s k).length ≤ k
  | 0 => by simp [parK]
  | k + 1 => by
    have := parK_len s k
    unfold parK
    split
    · rw [List.length_append]; simp; omega
    · omega
theorem parK_mem (s : List UInt8) : ∀ k, ∀ n ∈ parK s k, n < k
  | 0, n, h => by simp [parK] at h
  | k + 1, n, h => by
    unfold parK at h
    split at h
    · rw [List.mem_append] at h
      rcases h with h | h
      · have := parK_mem s k n h; omega
      · simp at h; omega
    · have := parK_mem s k n h; omega
theorem parK_fits (s : List UInt8) : ∀ k, (parK s k).length ≤ s.length
  | 0 => by simp [parK]
  | k + 1 => by
    have h := parK_fits s k
    unfold parK
    split
    · rename_i h1
      have := (List.getElem?_eq_some_iff.1 h1).1
      rw [List.length_append]
      simp
      omega
    · exact h
def parS (s : List UInt8) : Nat × Bool := if s = [45] then (0, true) else if (parK s 64).length < s.length ∨ s = [] then (0, false) else (ofS (fun n => decide (n ∈ parK s 64)) 64, true)
theorem parK_txt (w : Nat) : ∀ k, k ≤ 64 → parK (txtK w 64) k = lsS w k
  | 0, _ => by simp [parK, lsS]
  | k + 1, hk => by
    have ih := parK_txt w k (by omega)
    obtain ⟨r, hr⟩ := lsS_pre w (k + 1) (64 - (k + 1))
    rw [show k + 1 + (64 - (k + 1)) = 64 by omega] at hr
    unfold parK
    rw [ih, lsS_succ]
    by_cases hb : w.testBit k = true
    · rw [if_pos hb]
      rw [lsS_succ, if_pos hb] at hr
      rw [if_pos]
      unfold txtK
      rw [← hr]
      simp
    · rw [if_neg hb, List.append_nil]
      rw [if_neg]
      intro h
      unfold txtK at h
      rw [List.getElem?_map] at h
      obtain ⟨m, hm, e⟩ := Option.map_eq_some_iff.1 h
      have h1 := (mem_lsS w 64 m).1 (List.mem_of_getElem? hm)
      have := sg_inj m h1.1 k (by omega) e
      subst this
      exact hb h1.2
theorem par_txt (w : Nat) (hw : w < 2 ^ 64) : parS (txtS w) = (w, true) := by
  unfold parS txtS
  by_cases h0 : txtK w 64 = []
  · rw [if_pos h0, if_pos rfl]
    have hl : lsS w 64 = [] := by simpa [txtK] using h0
    have := ofS_list w hw
    rw [hl] at this
    have e : ofS (fun n => decide (n ∈ ([] : List Nat))) 64 = 0 := by decide +kernel
    rw [e] at this
    rw [← this]
  · rw [if_neg h0, parK_txt w 64 (Nat.le_refl _)]
    have h1 : txtK w 64 ≠ [45] := fun h => by
      have : (45 : UInt8) ∈ txtK w 64 := by rw [h]; exact List.mem_singleton_self _
      unfold txtK at this
      obtain ⟨m, hm, e⟩ := List.mem_map.1 this
      exact sg_no m ((mem_lsS w 64 m).1 hm).1 e
    rw [if_neg h1, if_neg]
    · rw [ofS_list w hw]
    · rintro (h | h)
      · unfold txtK at h
        rw [List.length_map] at h
        omega
      · exact h0 h
theorem txt_inj {a b : Nat} (ha : a < 2 ^ 64) (hb : b < 2 ^ 64) (h : txtS a = txtS b) : a = b := by
  have h1 := par_txt a ha
  rw [h, par_txt b hb] at h1
  exact (Prod.mk.inj h1).1.symm
theorem txtS_len (w : Nat) : (txtS w).length ≤ 64 := by
  unfold txtS
  split
  · simp
  · exact txtK_len w 64
theorem parS_lt (s : List UInt8) : (parS s).1 < 2 ^ 64 := by
  unfold parS
  split
  · decide
  · split
    · decide
    · exact ofS_lt _ 64
end Go.Proofs.Ytlacbjgjiggikaa
/- Stage 12: the document's Is, List, Of, Has. -/
namespace Go.Proofs.Ytlacbjgjiggikaa
open Go.RowKit

theorem half_step (w k : Nat) : ((w / 2 ^ k : Nat) : Int) / 2 = ((w / 2 ^ (k + 1) : Nat) : Int) := by
  rw [Nat.pow_succ, ← Nat.div_div_eq_div_mul]
  omega

/-- skills as numbers of a list -/
def ints (l : List Nat) : List Int := l.map fun (n : Nat) => (n : Int)
theorem ints_append (a b : List Nat) : ints (a ++ b) = ints a ++ ints b := List.map_append
theorem ints_len (l : List Nat) : (ints l).length = l.length := List.length_map ..

theorem oneI (w : World) (n : Int) : RowsAt (w.alloc (.cells #[.int .i64 n] 3)) 1 csI (.slice (some ⟨w.heap.size, 0, none⟩) 1 1) [n] := by
  refine ⟨_, 1, rfl, Nat.le_refl _, fun _ => ⟨w.heap.size, 0, rfl, by simp, fun j x hj i u hu => ?_⟩⟩
  have h0 : j = 0 ∧ x = n := by
    cases j with
    | zero => simp at hj; exact ⟨rfl, hj.symm⟩
    | succ j => simp at hj
  obtain ⟨rfl, rfl⟩ := h0
  have h1 : i = 0 ∧ u = .int .i64 x := by
    cases i with
    | zero => simp [csI] at hu; exact ⟨rfl, hu.symm⟩
    | succ i => simp [csI] at hu
  obtain ⟨rfl, rfl⟩ := h1
  go_simp
theorem csI_one (n : Int) : ∀ u ∈ csI n, u.oneCell' = true := by
  intro u hu
  simp [csI] at hu
  subst hu
  rfl

end Go.Proofs.Ytlacbjgjiggikaa
/- Stage 22: the document's answers. -/
namespace Go.Proofs.Ytlacbjgjiggikaa
open Go.RowKit

/-- a spec's box, a rules' box -/
theorem boxS (w : World) (id prio sk ge fx fy tx ty : Int) (v : Value) : Blk (w.alloc (.cells #[.int .i64 id, .int .i64 prio, .int .u64 sk, .int .u64 ge, .int .i64 fx, .int .i64 fy, .int .i64 tx, .int .i64 ty, v] 37)) w.heap.size [.int .i64 id, .int .i64 prio, .int .u64 sk, .int .u64 ge, .int .i64 fx, .int .i64 fy, .int .i64 tx, .int .i64 ty, v] := Blk.new w _ _
end Go.Proofs.Ytlacbjgjiggikaa
/- Stage 23's program: all: of each one of a list a function that is handed on is asked. -/
namespace Go.Proofs.Ytlacbjgjiggikaa
open Go.RowKit

/-- specs in memory -/
def SpsAt (w : World) (v : Value) (L : List Sp) : Prop := RowsAt w 9 csSp v L ∧ ∀ x ∈ L, IntsAt w x.v x.aft
section
variable {w w' : World} {v : Value} {L : List Sp}
theorem SpsAt.kept (h : SpsAt w v L) (hb : Below w.heap.size w w') : SpsAt w' v L := ⟨RowsAt.kept h.1 hb, fun x hx => (h.2 x hx).below hb⟩
theorem SpsAt.form (h : SpsAt w v L) : ∃ a c, v = .slice a L.length c := RowsAt.form h.1
theorem SpsAt.spot (h : SpsAt w v L) (k : Nat) (hk : k < L.length) : ∃ g o cc id prio sk ge fx fy tx ty a c l, L[k] = ⟨id, prio, sk, ge, fx, fy, tx, ty, a, c, l⟩ ∧ v = .slice (some ⟨g, o, none⟩) L.length cc ∧ L.length ≤ cc ∧
    w.cell? ⟨g, o + k * 9, none⟩ = some (.int .i64 id) ∧ w.cell? ⟨g, o + k * 9 + 1, none⟩ = some (.int .i64 prio) ∧ w.cell? ⟨g, o + k * 9 + 2, none⟩ = some (.int .u64 sk) ∧ w.cell? ⟨g, o + k * 9 + 3, none⟩ = some (.int .u64 ge) ∧
    w.cell? ⟨g, o + k * 9 + 4, none⟩ = some (.int .i64 fx) ∧ w.cell? ⟨g, o + k * 9 + 5, none⟩ = some (.int .i64 fy) ∧ w.cell? ⟨g, o + k * 9 + 6, none⟩ = some (.int .i64 tx) ∧ w.cell? ⟨g, o + k * 9 + 7, none⟩ = some (.int .i64 ty) ∧
    w.cell? ⟨g, o + k * 9 + 8, none⟩ = some (.slice a l.length c) ∧ IntsAt w (.slice a l.length c) l := by
  obtain ⟨g, o, cc, e, hc, _, hx⟩ := RowsAt.spot h.1 k hk
  have hi := h.2 _ (List.getElem_mem hk)
  generalize L[k] = x at *
  obtain ⟨id, prio, sk, ge, fx, fy, tx, ty, a, c, l⟩ := x
  exact ⟨g, o, cc, id, prio, sk, ge, fx, fy, tx, ty, a, c, l, rfl, e, hc, hx 0 _ rfl, hx 1 _ rfl, hx 2 _ rfl, hx 3 _ rfl, hx 4 _ rfl, hx 5 _ rfl, hx 6 _ rfl, hx 7 _ rfl, hx 8 _ rfl, hi⟩
end
theorem all_drop {α : Type} (p : α → Bool) (l : List α) (j : Nat) (h : j < l.length) : (l.drop j).all p = (p l[j] && (l.drop (j + 1)).all p) := by
  rw [List.drop_eq_getElem_cons h, List.all_cons]

set_option maxHeartbeats 1000000 in
theorem allI_any (p : Int → Bool) (g : FuncId) (q : Value) (eg : ∀ args w, (callFunc g args).run Try.prog w = .ok (.enter g args) w)
    (va : Value) (l : List Int) (w : World) (hl : IntsAt w va l) (hlen : l.length ≤ 1000000)
    (hT : ∀ w' x, x ∈ l → Below w.heap.size w w' → Calls Try.prog g #[.int .i64 x, q] w' fun e w'' => e = .returned (.bool (p x)) ∧ Below w'.heap.size w' w'') :
    Calls Try.prog 21 #[va, .func (.func g) #[] #[q]] w fun e w' => e = .returned (.bool (l.all p)) ∧ Below w.heap.size w w' := by
  obtain ⟨r, hr⟩ : ∃ r, l.all p = r := ⟨_, rfl⟩
  rw [hr]
  have HR := Lib.hid hr
  have HT := Lib.hid hT
  have HL := Lib.hid hl
  have HLE := Lib.hid hlen
  obtain ⟨a, c, rfl⟩ := hl.form
  clear hr hT hl
  go_enter Try.func21, Try.ntmps21
  go_wp2
  refine wp_scope_goto 0 (fun n a' w' => ∃ (j : Nat) (z : Int), n = l.length - j ∧ z = j ∧ j ≤ l.length ∧ (l.drop j).all p = r ∧ Below w.heap.size w w' ∧ ∃ u2 u3 u6 u7 u8 u9 u10 u11 u12 u13 u14 u15 u16 u17 u18, a' = { tmps := #[.slice a l.length c, .func (.func g) #[] #[q], u2, u3, .bool false, .int .i64 z, u6, u7, u8, u9, u10, u11, u12, u13, u14, u15, u16, u17, u18], defers := [] }) rfl rfl ?_ ?_
  · rintro n a' w' ⟨j, _, rfl, rfl, hj, hrun, hmv, u2, u3, u6, u7, u8, u9, u10, u11, u12, u13, u14, u15, u16, u17, u18, rfl⟩ K hK
    have HK := Lib.hid hK
    have HM := Lib.hid hmv
    have HRU := Lib.hid hrun
    clear hK hmv hrun
    by_cases hlt : j < l.length
    · obtain ⟨gb, o, cc, e, hlc, _, p0⟩ := (HL.out.below HM.out).spot j hlt
      cases e
      have hx := HT.out w' l[j] (List.getElem_mem hlt) HM.out
      have hd := all_drop p l j hlt
      generalize l[j] = x at *
      obtain ⟨b, hsb⟩ : ∃ b, p x = b := ⟨_, rfl⟩
      rw [hsb] at hx hd
      have HX := Lib.hid hx
      have HD := Lib.hid hd
      have j0 : (0 : Int) ≤ (j : Int) := by omega
      have j1 : (j : Int) < (l.length : Int) := by omega
      have j2 : ((j : Int) == (l.length : Int)) = false := beq_noI (by omega)
      clear hx hd hsb
      cases b with
      | true =>
        go_wp2_with (go_at_fn g; (with_reducible refine HX.out.mono ?_); rintro e w1 ⟨rfl, hm1⟩; have HM3 := Lib.hid (HM.out.trans (hm1.mono HM.out.size)); clear hm1)
        go_step3
        exact ⟨rfl, HK.out (l.length - (j + 1)) _ _ (by omega) ⟨j + 1, _, rfl, by omega, by omega, by have := HD.out; rw [Bool.true_and] at this; exact this.symm.trans HRU.out, HM3.out, _, _, _, _, _, _, _, _, _, _, _, _, _, _, _,  rfl⟩⟩
      | false =>
        have HF := Lib.hid (show false = r by rw [← HRU.out, HD.out, Bool.false_and])
        go_wp2_with (go_at_fn g; (with_reducible refine HX.out.mono ?_); rintro e w1 ⟨rfl, hm1⟩; have HM3 := Lib.hid (HM.out.trans (hm1.mono HM.out.size)); clear hm1)
        simp only [Exit.jump]
        go_ret
        exact ⟨ret_b HF.out, HM3.out⟩
    · have e : j = l.length := by omega
      subst e
      have hrr := HRU.out
      rw [List.drop_length] at hrr
      have HF := Lib.hid (show true = r from hrr)
      clear hrr hlt
      go_wp2
      simp only [Exit.jump]
      go_ret
      exact ⟨ret_b HF.out, HM.out⟩
  · intro K hpass
    go_wp2
    go_step3
    rename_i hback
    exact hback _ _ (hpass (l.length - 0) _ _ ⟨0, _, rfl, rfl, by omega, HR.out, Below.refl _ _, _, _, _, _, _, _, _, _, _, _, _, _, _, _, _,  rfl⟩)

set_option maxHeartbeats 1000000 in
theorem allS_any (p : Sp → Bool) (g : FuncId) (q : Value) (eg : ∀ args w, (callFunc g args).run Try.prog w = .ok (.enter g args) w)
    (va : Value) (l : List Sp) (w : World) (hl : SpsAt w va l) (hlen : l.length ≤ 1000000)
    (hT : ∀ w' x, x ∈ l → IntsAt w' x.v x.aft → Below w.heap.size w w' → Calls Try.prog g #[q, spv x] w' fun e w'' => e = .returned (.bool (p x)) ∧ Below w'.heap.size w' w'') :
    Calls Try.prog 13 #[va, .func (.func g) #[q] #[]] w fun e w' => e = .returned (.bool (l.all p)) ∧ Below w.heap.size w w' := by
  obtain ⟨r, hr⟩ : ∃ r, l.all p = r := ⟨_, rfl⟩
  rw [hr]
  have HR := Lib.hid hr
  have HT := Lib.hid hT
  have HL := Lib.hid hl
  have HLE := Lib.hid hlen
  obtain ⟨a, c, rfl⟩ := hl.form
  clear hr hT hl
  go_enter Try.func13, Try.ntmps13
  go_wp2
  refine wp_scope_goto 0 (fun n a' w' => ∃ (j : Nat) (z : Int), n = l.length - j ∧ z = j ∧ j ≤ l.length ∧ (l.drop j).all p = r ∧ Below w.heap.size w w' ∧ ∃ u2 u3 u6 u7 u8 u9 u10 u11 u12 u13 u14 u15 u16 u17 u18, a' = { tmps := #[.slice a l.length c, .func (.func g) #[q] #[], u2, u3, .bool false, .int .i64 z, u6, u7, u8, u9, u10, u11, u12, u13, u14, u15, u16, u17, u18], defers := [] }) rfl rfl ?_ ?_
  · rintro n a' w' ⟨j, _, rfl, rfl, hj, hrun, hmv, u2, u3, u6, u7, u8, u9, u10, u11, u12, u13, u14, u15, u16, u17, u18, rfl⟩ K hK
    have HK := Lib.hid hK
    have HM := Lib.hid hmv
    have HRU := Lib.hid hrun
    clear hK hmv hrun
    by_cases hlt : j < l.length
    · obtain ⟨gb, o, cc, id, prio, sk, ge, fx, fy, tx, ty, a8, c8, l8, he, e, hlc, p0, p1, p2, p3, p4, p5, p6, p7, p8, hi8⟩ := (HL.out.kept HM.out).spot j hlt
      cases e
      have hx := HT.out w' l[j] (List.getElem_mem hlt) (by rw [he]; exact hi8) HM.out
      have hd := all_drop p l j hlt
      rw [he] at hx hd
      dsimp only [spv] at hx
      obtain ⟨b, hsb⟩ : ∃ b, p ⟨id, prio, sk, ge, fx, fy, tx, ty, a8, c8, l8⟩ = b := ⟨_, rfl⟩
      rw [hsb] at hx hd
      have HX := Lib.hid hx
      have HD := Lib.hid hd
      have j0 : (0 : Int) ≤ (j : Int) := by omega
      have j1 : (j : Int) < (l.length : Int) := by omega
      have j2 : ((j : Int) == (l.length : Int)) = false := beq_noI (by omega)
      clear hx hd hsb he hi8
      cases b with
      | true =>
        go_wp2_with (go_at_fn g; (with_reducible refine HX.out.mono ?_); rintro e w1 ⟨rfl, hm1⟩; have HM3 := Lib.hid (HM.out.trans (hm1.mono HM.out.size)); clear hm1)
        go_step3
        exact ⟨rfl, HK.out (l.length - (j + 1)) _ _ (by omega) ⟨j + 1, _, rfl, by omega, by omega, by have := HD.out; rw [Bool.true_and] at this; exact this.symm.trans HRU.out, HM3.out, _, _, _, _, _, _, _, _, _, _, _, _, _, _, _,  rfl⟩⟩
      | false =>
        have HF := Lib.hid (show false = r by rw [← HRU.out, HD.out, Bool.false_and])
        go_wp2_with (go_at_fn g; (with_reducible refine HX.out.mono ?_); rintro e w1 ⟨rfl, hm1⟩; have HM3 := Lib.hid (HM.out.trans (hm1.mono HM.out.size)); clear hm1)
        simp only [Exit.jump]
        go_ret
        exact ⟨ret_b HF.out, HM3.out⟩
    · have e : j = l.length := by omega
      subst e
      have hrr := HRU.out
      rw [List.drop_length] at hrr
      have HF := Lib.hid (show true = r from hrr)
      clear hrr hlt
      go_wp2
      simp only [Exit.jump]
      go_ret
      exact ⟨ret_b HF.out, HM.out⟩
  · intro K hpass
    go_wp2
    go_step3
    rename_i hback
    exact hback _ _ (hpass (l.length - 0) _ _ ⟨0, _, rfl, rfl, by omega, HR.out, Below.refl _ _, _, _, _, _, _, _, _, _, _, _, _, _, _, _, _,  rfl⟩)
end Go.Proofs.Ytlacbjgjiggikaa
