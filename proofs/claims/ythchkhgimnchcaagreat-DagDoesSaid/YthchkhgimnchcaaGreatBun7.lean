/- Texts of this proof, joined: BtM; GraphMathC; Sorted. -/
import Derived.Test.YthchkhgimnchcaaGreatBun6
import Derived.Sort.Grow
import Derived.Sort.EncStr
import Derived.Lib.SlicesCompact
import Derived.Lib.RowBridge
/- Stage 23: batches: tasks as values (Tk: FOR ALL LATER STAGES); what Check, Order and Free tell, as mathematics. -/
namespace Go.Proofs.YthchkhgimnchcaaGreat
open Go.RowKit

/-- a task -/
structure Tk where
  sp : Sp
  st : Int
  seq : Int
  since : Int
  lost : Int
  ba : Option Addr
  bc : Nat
  burnt : List Int
deriving Inhabited
def csTk (x : Tk) : List Value := [.int .i64 x.sp.id, .int .i64 x.sp.prio, .int .u64 x.sp.sk, .int .u64 x.sp.ge, .int .i64 x.sp.fx, .int .i64 x.sp.fy, .int .i64 x.sp.tx, .int .i64 x.sp.ty, .slice x.sp.a x.sp.aft.length x.sp.c, .int .i64 x.st, .int .i64 x.seq, .int .i64 x.since, .int .i64 x.lost, .slice x.ba x.burnt.length x.bc]
theorem csTk_len (x : Tk) : (csTk x).length = 14 := rfl

def idsO (L : List Sp) : List Int := L.map Sp.id
def idsK (K : List Tk) : List Int := K.map fun t => t.sp.id
def arcsO (L : List Sp) : List Arc16 := L.flatMap fun x => x.aft.map fun n => ⟨n, x.id⟩
/-- the status of the first known task of an ID -/
def stO (K : List Tk) (n : Int) : Option Int := (K.find? fun t => decide (t.sp.id = n)).map Tk.st
/-- how many there are of each -/
def cntG (M : List Int) (n : Int) : Option Int := if M.count n = 0 then none else some (M.count n : Int)

theorem stO_nil : stO [] = fun _ => none := rfl
theorem stO_snoc (A : List Tk) (t : Tk) (n : Int) : stO (A ++ [t]) n = if (stO A n).isSome then stO A n else if t.sp.id = n then some t.st else none := by
  unfold stO
  rw [List.find?_append]
  cases h : A.find? (fun t => decide (t.sp.id = n)) with
  | some x => simp
  | none =>
    by_cases e : t.sp.id = n
    · simp [e]
    · simp [e]
theorem stO_take (K : List Tk) (k : Nat) (hk : k < K.length) : stO (K.take (k + 1)) = if (stO (K.take k) K[k].sp.id).isSome then stO (K.take k) else updG (stO (K.take k)) K[k].sp.id (some K[k].st) := by
  funext n
  rw [List.take_succ_eq_append_getElem hk, stO_snoc]
  generalize stO (K.take k) = g
  generalize K[k] = t
  obtain ⟨sp, st, _⟩ := t
  simp only
  generalize sp.id = m
  by_cases e : m = n
  · subst e
    cases h : g m with
    | some s => simp [h]
    | none => simp [updG]
  · have hu : updG g m (some st) n = g n := updG_other _ _ fun h => e h.symm
    rw [if_neg e]
    cases h : (g m).isSome
    · simp only [Bool.false_eq_true, if_false]
      rw [hu]
      cases g n <;> rfl
    · simp only [if_true]
      cases g n <;> rfl
theorem stO_some (K : List Tk) (n : Int) : (stO K n).isSome = inL (idsK K) n := by
  rw [Bool.eq_iff_iff, inL_iff]
  unfold stO idsK
  rw [Option.isSome_map, List.find?_isSome, List.mem_map]
  constructor
  · rintro ⟨x, h1, h2⟩
    exact ⟨x, h1, by simpa using h2⟩
  · rintro ⟨x, h1, h2⟩
    exact ⟨x, h1, by simpa using h2⟩
theorem cntG_nil : cntG [] = fun _ => none := rfl
theorem cntG_getD (M : List Int) (n : Int) : (cntG M n).getD 0 = (M.count n : Int) := by
  unfold cntG
  split
  · rename_i h
    rw [h]
    rfl
  · rfl
theorem cntG_snoc (M : List Int) (n : Int) : cntG (M ++ [n]) = updG (cntG M) n (some ((M.count n : Int) + 1)) := by
  funext x
  unfold updG
  by_cases e : x = n
  · subst e
    rw [if_pos rfl]
    unfold cntG
    rw [List.count_append, List.count_singleton_self, if_neg (by omega)]
    rfl
  · rw [if_neg e]
    unfold cntG
    rw [List.count_append, List.count_eq_zero.2 (show x ∉ [n] by simpa using e), Nat.add_zero]
theorem cntG_some (M : List Int) (n : Int) : (cntG M n).isSome = inL M n := by
  rw [Bool.eq_iff_iff, inL_iff]
  unfold cntG
  by_cases h : M.count n = 0
  · rw [if_pos h]
    have := List.count_eq_zero.1 h
    simp [this]
  · rw [if_neg h]
    have := List.count_pos_iff.1 (Nat.pos_of_ne_zero h)
    simp [this]
theorem idsO_take (L : List Sp) (k : Nat) (hk : k < L.length) : idsO (L.take (k + 1)) = idsO (L.take k) ++ [L[k].id] := by
  unfold idsO
  rw [List.take_succ_eq_append_getElem hk, List.map_append]
  rfl
theorem idsK_take (L : List Tk) (k : Nat) (hk : k < L.length) : idsK (L.take (k + 1)) = idsK (L.take k) ++ [L[k].sp.id] := by
  unfold idsK
  rw [List.take_succ_eq_append_getElem hk, List.map_append]
  rfl
theorem idsO_len (L : List Sp) : (idsO L).length = L.length := List.length_map _
theorem arcsO_take (L : List Sp) (k : Nat) (hk : k < L.length) : arcsO (L.take (k + 1)) = arcsO (L.take k) ++ L[k].aft.map fun n => ⟨n, L[k].id⟩ := by
  unfold arcsO
  rw [List.take_succ_eq_append_getElem hk, List.flatMap_append]
  simp

/-! ### What is told -/
def newB (K : List Tk) (L : List Sp) (x : Sp) : Bool := !(stO K x.id).isSome && decide ((idsO L).count x.id = 1)
def namedI (K : List Tk) (L : List Sp) (n : Int) : Bool := (stO K n).isSome || decide (0 < (idsO L).count n)
def comeI (K : List Tk) (n : Int) : Bool := !decide ((stO K n).getD 0 = 5) && !decide ((stO K n).getD 0 = 6)
def overI (K : List Tk) (n : Int) : Bool := decide ((stO K n).getD 0 = 4)
def namedB (K : List Tk) (L : List Sp) (x : Sp) : Bool := x.aft.all (namedI K L)
def comeB (K : List Tk) (x : Sp) : Bool := x.aft.all (comeI K)
def freeB (K : List Tk) (x : Sp) : Bool := x.aft.all (overI K)
def wholeB (L : List Sp) : Bool := decide ((ordL (idsO L) (arcsO L)).length = (setL (idsO L)).length)
def firstE : List Sp → Int
  | [] => 0
  | x :: t => if chk x = 0 then firstE t else chk x
def bchk (room : Int) (K : List Tk) (L : List Sp) : Int :=
  if L.length = 0 then 1 else if firstE L ≠ 0 then firstE L else if room < (K.length : Int) + L.length then 9 else
  if L.all (newB K L) = false then 6 else if L.all (namedB K L) = false then 7 else if L.all (comeB K) = false then 12 else if wholeB L = false then 8 else 0
def freeO (K : List Tk) (L : List Sp) : List Int := idsO (L.filter (freeB K))
theorem freeO_take (K : List Tk) (L : List Sp) (k : Nat) (hk : k < L.length) : freeO K (L.take (k + 1)) = if freeB K L[k] then freeO K (L.take k) ++ [L[k].id] else freeO K (L.take k) := by
  unfold freeO idsO
  rw [List.take_succ_eq_append_getElem hk, List.filter_append, List.map_append]
  cases h : freeB K L[k]
  · rw [List.filter_cons_of_neg (by simp [h])]
    simp
  · rw [List.filter_cons_of_pos (by simp [h])]
    simp
theorem freeO_len (K : List Tk) (L : List Sp) : (freeO K L).length ≤ L.length := by
  unfold freeO
  rw [idsO_len]
  exact List.length_filter_le _ _
theorem firstE_zero : ∀ {L : List Sp}, firstE L = 0 ↔ ∀ x ∈ L, chk x = 0
  | [] => by simp [firstE]
  | x :: t => by
    unfold firstE
    by_cases h : chk x = 0
    · rw [if_pos h, firstE_zero (L := t)]
      simp [h]
    · rw [if_neg h]
      simp [h]
theorem bchk_ways (room : Int) (K : List Tk) (L : List Sp) : (L.length = 0 ∧ bchk room K L = 1) ∨ (L.length ≠ 0 ∧ firstE L ≠ 0 ∧ bchk room K L = firstE L) ∨ (L.length ≠ 0 ∧ firstE L = 0 ∧ ((room < (K.length : Int) + L.length ∧ bchk room K L = 9) ∨
    (¬ room < (K.length : Int) + L.length ∧ ((L.all (newB K L) = false ∧ bchk room K L = 6) ∨ (L.all (newB K L) = true ∧ L.all (namedB K L) = false ∧ bchk room K L = 7) ∨
    (L.all (newB K L) = true ∧ L.all (namedB K L) = true ∧ L.all (comeB K) = false ∧ bchk room K L = 12) ∨ (L.all (newB K L) = true ∧ L.all (namedB K L) = true ∧ L.all (comeB K) = true ∧ wholeB L = false ∧ bchk room K L = 8) ∨
    (L.all (newB K L) = true ∧ L.all (namedB K L) = true ∧ L.all (comeB K) = true ∧ wholeB L = true ∧ bchk room K L = 0))))) := by
  unfold bchk
  by_cases h0 : L.length = 0
  · exact .inl ⟨h0, if_pos h0⟩
  rw [if_neg h0]
  by_cases h1 : firstE L = 0
  · refine .inr (.inr ⟨h0, h1, ?_⟩)
    rw [if_neg (fun h => h h1)]
    by_cases h2 : room < (K.length : Int) + L.length
    · exact .inl ⟨h2, if_pos h2⟩
    refine .inr ⟨h2, ?_⟩
    rw [if_neg h2]
    cases L.all (newB K L)
    · exact .inl ⟨rfl, if_pos rfl⟩
    cases L.all (namedB K L)
    · exact .inr (.inl ⟨rfl, rfl, rfl⟩)
    cases L.all (comeB K)
    · exact .inr (.inr (.inl ⟨rfl, rfl, rfl, rfl⟩))
    cases wholeB L
    · exact .inr (.inr (.inr (.inl ⟨rfl, rfl, rfl, rfl, rfl⟩)))
    · exact .inr (.inr (.inr (.inr ⟨rfl, rfl, rfl, rfl, rfl⟩)))
  · exact .inr (.inl ⟨h0, h1, if_pos h1⟩)
/-- a batch that is admitted -/
structure OkB (room : Int) (K : List Tk) (L : List Sp) : Prop where
  ne : L.length ≠ 0
  chk : ∀ x ∈ L, chk x = 0
  fit : (K.length : Int) + L.length ≤ room
  new : ∀ x ∈ L, newB K L x = true
  named : ∀ x ∈ L, namedB K L x = true
  come : ∀ x ∈ L, comeB K x = true
  whole : wholeB L = true
theorem bchk_iff {room : Int} {K : List Tk} {L : List Sp} : bchk room K L = 0 ↔ OkB room K L := by
  constructor
  · intro h
    rcases bchk_ways room K L with ⟨_, h1⟩ | ⟨_, h2, h1⟩ | ⟨h0, hf, h3⟩
    · rw [h1] at h; cases h
    · rw [h1] at h; exact absurd h h2
    rcases h3 with ⟨_, h1⟩ | ⟨hr, h4⟩
    · rw [h1] at h; cases h
    rcases h4 with ⟨_, h1⟩ | ⟨_, _, h1⟩ | ⟨_, _, _, h1⟩ | ⟨_, _, _, _, h1⟩ | ⟨a, b, c, d, _⟩
    · rw [h1] at h; cases h
    · rw [h1] at h; cases h
    · rw [h1] at h; cases h
    · rw [h1] at h; cases h
    · exact ⟨h0, firstE_zero.1 hf, by omega, List.all_eq_true.1 a, List.all_eq_true.1 b, List.all_eq_true.1 c, d⟩
  · intro h
    unfold bchk
    rw [if_neg h.ne, if_neg (fun e => e (firstE_zero.2 h.chk)), if_neg (by have := h.fit; omega), List.all_eq_true.2 h.new, List.all_eq_true.2 h.named, List.all_eq_true.2 h.come, h.whole]
    rfl
theorem newB_iff {K : List Tk} {L : List Sp} {x : Sp} : newB K L x = true ↔ x.id ∉ idsK K ∧ (idsO L).count x.id = 1 := by
  unfold newB
  rw [Bool.and_eq_true, stO_some, decide_eq_true_iff, Bool.not_eq_true', inL_not]
theorem namedI_iff {K : List Tk} {L : List Sp} {n : Int} : namedI K L n = true ↔ n ∈ idsK K ∨ n ∈ idsO L := by
  unfold namedI
  rw [Bool.or_eq_true, stO_some, decide_eq_true_iff, inL_iff, List.count_pos_iff]
theorem chk_len {x : Sp} (h : chk x = 0) : x.aft.length ≤ 8 := by
  rcases chk_cases x with ⟨_, e⟩ | ⟨_, _, e⟩ | ⟨_, h2, _⟩
  · rw [e] at h; cases h
  · rw [e] at h; cases h
  · unfold aftB at h2
    rw [Bool.and_eq_true] at h2
    exact of_decide_eq_true h2.1
theorem arcsO_len : ∀ {L : List Sp}, (∀ x ∈ L, x.aft.length ≤ 8) → (arcsO L).length ≤ 8 * L.length
  | [], _ => by simp [arcsO]
  | x :: t, h => by
    have ih := arcsO_len (L := t) fun y hy => h y (List.mem_cons_of_mem _ hy)
    have h0 := h x List.mem_cons_self
    have e : arcsO (x :: t) = (x.aft.map fun n => (⟨n, x.id⟩ : Arc16)) ++ arcsO t := rfl
    rw [e, List.length_append, List.length_map, List.length_cons]
    omega
theorem arcsO_mem {L : List Sp} {a : Arc16} : a ∈ arcsO L ↔ ∃ x ∈ L, a.dst = x.id ∧ a.src ∈ x.aft := by
  unfold arcsO
  rw [List.mem_flatMap]
  constructor
  · rintro ⟨x, hx, h⟩
    obtain ⟨n, hn, rfl⟩ := List.mem_map.1 h
    exact ⟨x, hx, rfl, hn⟩
  · rintro ⟨x, hx, h1, h2⟩
    exact ⟨x, hx, List.mem_map.2 ⟨a.src, h2, by rw [← h1]⟩⟩

/-! ### Orders -/
theorem freeG_congr {nodes : List Int} {arcs arcs' : List Arc16} (h : ∀ a, a ∈ arcs ↔ a ∈ arcs') (told : List Int) (n : Int) : freeG nodes arcs told n = freeG nodes arcs' told n := by
  rw [Bool.eq_iff_iff, freeG_iff, freeG_iff]
  exact ⟨fun g a ha => g a ((h a).2 ha), fun g a ha => g a ((h a).1 ha)⟩
theorem ordG_congr {nodes : List Int} {arcs arcs' : List Arc16} (h : ∀ a, a ∈ arcs ↔ a ∈ arcs') : ∀ (f : Nat) (told : List Int), ordG nodes arcs f told = ordG nodes arcs' f told
  | 0, _ => rfl
  | f + 1, told => by
    have e : nextB nodes arcs told = nextB nodes arcs' told := by
      funext n
      unfold nextB
      rw [freeG_congr h]
    unfold ordG
    rw [e]
    cases nodes.find? (nextB nodes arcs' told) with
    | none => rfl
    | some n => exact ordG_congr h f _
theorem setL_congr {l l' : List Int} (h : ∀ n, n ∈ l ↔ n ∈ l') : setL l = setL l' := (setL_ris l).eq (setL_ris l') fun n => by rw [setL_mem, setL_mem]; exact h n
theorem ordL_congr {ids ids' : List Int} {arcs arcs' : List Arc16} (h : ∀ n, n ∈ ids ↔ n ∈ ids') (ha : ∀ a, a ∈ arcs ↔ a ∈ arcs') : ordL ids arcs = ordL ids' arcs' := by
  unfold ordL
  rw [setL_congr h]
  exact ordG_congr ha _ _
theorem whole_left {L : List Sp} : wholeB L = true ↔ ∀ n, n ∉ leftL (idsO L) (arcsO L) := by
  unfold wholeB
  rw [decide_eq_true_iff]
  have h := left_len (idsO L) (arcsO L)
  constructor
  · intro e n hn
    have := List.length_pos_of_mem hn
    omega
  · intro e
    have := List.eq_nil_iff_forall_not_mem.2 e
    rw [this] at h
    simpa using h
theorem whole_mem {L : List Sp} (h : wholeB L = true) {n : Int} : n ∈ ordL (idsO L) (arcsO L) ↔ n ∈ idsO L := by
  constructor
  · intro hn
    exact (setL_mem _ _).1 ((ordL_inv (idsO L) (arcsO L)).1.ti.sub n hn)
  · intro hn
    refine Classical.byContradiction fun hc => whole_left.1 h n ((left_mem _ _ _).2 ⟨(setL_mem _ _).2 hn, hc⟩)
/-- what comes after what, of fewer, is in no ring either -/
theorem whole_less {L L' : List Sp} (h : wholeB L = true) (hs : ∀ x ∈ L', x ∈ L) : wholeB L' = true := by
  have hid : ∀ n ∈ idsO L', n ∈ idsO L := fun n hn => by
    obtain ⟨x, hx, e⟩ := List.mem_map.1 hn
    exact List.mem_map.2 ⟨x, hs x hx, e⟩
  have har : ∀ a ∈ arcsO L', a ∈ arcsO L := fun a ha => by
    obtain ⟨x, hx, e⟩ := arcsO_mem.1 ha
    exact arcsO_mem.2 ⟨x, hs x hx, e⟩
  rw [whole_left]
  have key : ∀ (i : Nat) (n : Int), n ∈ (ordL (idsO L) (arcsO L)).take i → n ∉ leftL (idsO L') (arcsO L') := by
    intro i
    induction i with
    | zero => intro n hn; simp at hn
    | succ i ih =>
      intro n hn hl
      by_cases hi : i < (ordL (idsO L) (arcsO L)).length
      · rw [List.take_succ_eq_append_getElem hi, List.mem_append, List.mem_singleton] at hn
        rcases hn with hn | hn
        · exact ih n hn hl
        · obtain ⟨a, ha, hd, hsrc⟩ := left_arc hl
          have hm : a.src ∈ idsO L := hid _ ((setL_mem _ _).1 ((left_mem _ _ _).1 hsrc).1)
          exact ih _ (ord_pre (har a ha) ((setL_mem _ _).2 hm) hi (hd.trans hn)) hsrc
      · rw [List.take_of_length_le (by omega), ← List.take_of_length_le (show (ordL (idsO L) (arcsO L)).length ≤ i by omega)] at hn
        exact ih n hn hl
  intro n hn
  have hm : n ∈ idsO L := hid _ ((setL_mem _ _).1 ((left_mem _ _ _).1 hn).1)
  refine key (ordL (idsO L) (arcsO L)).length n ?_ hn
  rw [List.take_length]
  exact (whole_mem h).2 hm

/-! ### Admitted batches -/
theorem OkB.nodup {room : Int} {K : List Tk} {L : List Sp} (h : OkB room K L) : (idsO L).Nodup := List.nodup_iff_count.2 fun n => by
  by_cases hn : n ∈ idsO L
  · obtain ⟨x, hx, rfl⟩ := List.mem_map.1 hn
    exact Nat.le_of_eq (newB_iff.1 (h.new x hx)).2
  · rw [List.count_eq_zero.2 hn]
    exact Nat.zero_le _
theorem OkB.ord_len {room : Int} {K : List Tk} {L : List Sp} (h : OkB room K L) : (ordL (idsO L) (arcsO L)).length = L.length := by
  have h1 := of_decide_eq_true h.whole
  rw [h1, ← idsO_len L]
  exact ((List.perm_ext_iff_of_nodup (setL_ris _).nodup h.nodup).2 fun n => setL_mem _ n).length_eq
theorem OkB.ids {room : Int} {K : List Tk} {L : List Sp} (h : OkB room K L) {x : Sp} (hx : x ∈ L) {n : Int} (hn : n ∈ x.aft) : n ∈ idsK K ∨ n ∈ idsO L := namedI_iff.1 (List.all_eq_true.1 (h.named x hx) n hn)
theorem perm_ids {L L' : List Sp} (hp : L.Perm L') : (idsO L).Perm (idsO L') := hp.map _
theorem perm_ord {L L' : List Sp} (hp : L.Perm L') : ordL (idsO L') (arcsO L') = ordL (idsO L) (arcsO L) :=
  ordL_congr (fun n => (perm_ids hp).symm.mem_iff) fun a => by rw [arcsO_mem, arcsO_mem]; exact ⟨fun ⟨x, hx, h⟩ => ⟨x, hp.symm.subset hx, h⟩, fun ⟨x, hx, h⟩ => ⟨x, hp.subset hx, h⟩⟩
theorem OkB.perm {room : Int} {K : List Tk} {L L' : List Sp} (h : OkB room K L) (hp : L.Perm L') : OkB room K L' := by
  have hm : ∀ x, x ∈ L' → x ∈ L := fun x hx => hp.symm.subset hx
  refine ⟨by rw [← hp.length_eq]; exact h.ne, fun x hx => h.chk x (hm x hx), by rw [← hp.length_eq]; exact h.fit, fun x hx => ?_, fun x hx => ?_, fun x hx => h.come x (hm x hx), whole_less h.whole hm⟩
  · rw [newB_iff, ← (perm_ids hp).count_eq]
    exact newB_iff.1 (h.new x (hm x hx))
  · refine List.all_eq_true.2 fun n hn => namedI_iff.2 ?_
    rw [← (perm_ids hp).mem_iff]
    exact h.ids (hm x hx) hn
/-- without the last one of the order -/
def restO (L : List Sp) (n : Int) : List Sp := L.filter fun x => !decide (x.id = n)
theorem restO_take (L : List Sp) (n : Int) (k : Nat) (hk : k < L.length) : restO (L.take (k + 1)) n = if L[k].id = n then restO (L.take k) n else restO (L.take k) n ++ [L[k]] := by
  unfold restO
  rw [List.take_succ_eq_append_getElem hk, List.filter_append]
  by_cases h : L[k].id = n
  · rw [if_pos h, List.filter_cons_of_neg (by simp [h])]
    simp
  · rw [if_neg h, List.filter_cons_of_pos (by simp [h])]
    simp
theorem OkB.rest {room : Int} {K : List Tk} {L : List Sp} (h : OkB room K L) (h1 : L.length ≠ 1) {n : Int} {k : Nat} (hk : k < (ordL (idsO L) (arcsO L)).length) (hl : k + 1 = (ordL (idsO L) (arcsO L)).length) (hn : (ordL (idsO L) (arcsO L))[k] = n) : OkB room K (restO L n) := by
  have hm : ∀ x, x ∈ restO L n → x ∈ L := fun x hx => (List.mem_filter.1 hx).1
  have hne : ∀ x, x ∈ restO L n → x.id ≠ n := fun x hx => by simpa using (List.mem_filter.1 hx).2
  have hin : ∀ x, x ∈ L → x.id ≠ n → x ∈ restO L n := fun x hx e => List.mem_filter.2 ⟨hx, by simpa using e⟩
  have hsub : (idsO (restO L n)).Sublist (idsO L) := List.Sublist.map _ List.filter_sublist
  have hlen : (restO L n).length ≤ L.length := List.length_filter_le _ _
  have hnm : n ∈ idsO L := (whole_mem h.whole).1 (hn ▸ List.getElem_mem hk)
  refine ⟨fun e => ?_, fun x hx => h.chk x (hm x hx), by have := h.fit; omega, fun x hx => ?_, fun x hx => ?_, fun x hx => h.come x (hm x hx), whole_less h.whole hm⟩
  · have hall : ∀ b ∈ idsO L, n = b := fun b hb => by
      obtain ⟨x, hx, rfl⟩ := List.mem_map.1 hb
      refine Classical.byContradiction fun hc => ?_
      have := hin x hx fun e => hc e.symm
      rw [List.eq_nil_of_length_eq_zero e] at this
      cases this
    have h2 := List.count_eq_length.2 hall
    obtain ⟨x, hx, e2⟩ := List.mem_map.1 hnm
    have h3 := (newB_iff.1 (h.new x hx)).2
    rw [e2, h2, idsO_len] at h3
    exact h1 h3
  · have h2 := newB_iff.1 (h.new x (hm x hx))
    refine newB_iff.2 ⟨h2.1, ?_⟩
    have h3 := List.Sublist.count_le x.id hsub
    have h4 : 0 < (idsO (restO L n)).count x.id := List.count_pos_iff.2 (List.mem_map.2 ⟨x, hx, rfl⟩)
    omega
  · refine List.all_eq_true.2 fun m hmx => namedI_iff.2 ?_
    rcases h.ids (hm x hx) hmx with h2 | h2
    · exact .inl h2
    · refine .inr ?_
      obtain ⟨y, hy, rfl⟩ := List.mem_map.1 h2
      refine List.mem_map.2 ⟨y, hin y hy fun e => ?_, rfl⟩
      have hxo : x.id ∈ ordL (idsO L) (arcsO L) := (whole_mem h.whole).2 (List.mem_map.2 ⟨x, hm x hx, rfl⟩)
      obtain ⟨i, hi, hxi⟩ := List.getElem_of_mem hxo
      have hp := ord_pre (arcsO_mem.2 ⟨x, hm x hx, rfl, hmx⟩ : (⟨y.id, x.id⟩ : Arc16) ∈ arcsO L) ((setL_mem _ _).2 h2) hi hxi.symm
      obtain ⟨j, hj, hyj⟩ := List.getElem_of_mem hp
      rw [List.length_take] at hj
      rw [List.getElem_take] at hyj
      have hnd := (ordL_inv (idsO L) (arcsO L)).1.ti.nodup
      exact List.pairwise_iff_getElem.1 hnd j k (by omega) hk (by omega) (hyj.trans (e.trans hn.symm))
end Go.Proofs.YthchkhgimnchcaaGreat
/- Stage 16: reaching: plain mathematics; where a number stands. -/
namespace Go.Proofs.YthchkhgimnchcaaGreat

def stepR (nodes out : List Int) (a : Arc16) : List Int := if inL out a.src && inL nodes a.dst && !inL out a.dst then out ++ [a.dst] else out
def rowR (nodes : List Int) (arcs : List Arc16) (out : List Int) : List Int := arcs.foldl (stepR nodes) out
def itR (nodes : List Int) (arcs : List Arc16) : Nat → List Int → List Int
  | 0, o => o
  | n + 1, o => rowR nodes arcs (itR nodes arcs n o)
def startR (ids frm : List Int) : List Int := (setL ids).filter fun n => inL frm n
def reachL (ids : List Int) (arcs : List Arc16) (frm : List Int) : List Int := setL (itR (setL ids) arcs (setL ids).length (startR ids frm))
theorem rowR_take (nodes : List Int) (arcs : List Arc16) (out : List Int) (k : Nat) (hk : k < arcs.length) : rowR nodes (arcs.take (k + 1)) out = stepR nodes (rowR nodes (arcs.take k) out) arcs[k] := by
  unfold rowR
  rw [List.take_succ_eq_append_getElem hk, List.foldl_append]
  rfl
theorem stepR_told {nodes out : List Int} (h : ToldI nodes out) (a : Arc16) : ToldI nodes (stepR nodes out a) := by
  unfold stepR
  split
  · rename_i hc
    simp only [Bool.and_eq_true, Bool.not_eq_true'] at hc
    obtain ⟨⟨_, h2⟩, h3⟩ := hc
    refine ⟨fun x hx => ?_, List.nodup_append.2 ⟨h.nodup, by simp, fun x hx y hy e => ?_⟩⟩
    · rcases List.mem_append.1 hx with hx | hx
      · exact h.sub x hx
      · rw [List.mem_singleton.1 hx]; exact inL_iff.1 h2
    · rw [List.mem_singleton.1 hy] at e
      exact inL_not.1 h3 (e ▸ hx)
  · exact h
theorem stepR_len (nodes out : List Int) (a : Arc16) : out.length ≤ (stepR nodes out a).length := by
  unfold stepR
  split
  · simp
  · exact Nat.le_refl _
theorem rowR_told {nodes : List Int} : ∀ (arcs : List Arc16) (out : List Int), ToldI nodes out → ToldI nodes (rowR nodes arcs out)
  | [], _, h => h
  | a :: t, _, h => rowR_told t _ (stepR_told h a)
theorem rowR_len (nodes : List Int) : ∀ (arcs : List Arc16) (out : List Int), out.length ≤ (rowR nodes arcs out).length
  | [], _ => Nat.le_refl _
  | a :: t, out => Nat.le_trans (stepR_len nodes out a) (rowR_len nodes t _)
def ClosedR (nodes : List Int) (arcs : List Arc16) (out : List Int) : Prop := ∀ a ∈ arcs, a.src ∈ out → a.dst ∈ nodes → a.dst ∈ out
theorem stepR_same {nodes out : List Int} {a : Arc16} (h : a.src ∈ out → a.dst ∈ nodes → a.dst ∈ out) : stepR nodes out a = out := by
  unfold stepR
  split
  · rename_i hc
    simp only [Bool.and_eq_true, Bool.not_eq_true'] at hc
    exact absurd (h (inL_iff.1 hc.1.1) (inL_iff.1 hc.1.2)) (inL_not.1 hc.2)
  · rfl
theorem rowR_same {nodes : List Int} : ∀ (arcs : List Arc16) (out : List Int), ClosedR nodes arcs out → rowR nodes arcs out = out
  | [], _, _ => rfl
  | a :: t, out, h => by
    unfold rowR
    rw [List.foldl_cons, stepR_same (h a List.mem_cons_self)]
    exact rowR_same t out fun b hb => h b (List.mem_cons_of_mem _ hb)
theorem rowR_closed {nodes : List Int} : ∀ (arcs : List Arc16) (out : List Int), (rowR nodes arcs out).length = out.length → ClosedR nodes arcs out
  | [], _, _ => fun _ h => (by cases h)
  | a :: t, out, h => by
    have h1 := stepR_len nodes out a
    have h2 := rowR_len nodes t (stepR nodes out a)
    have e : rowR nodes (a :: t) out = rowR nodes t (stepR nodes out a) := rfl
    rw [e] at h
    have hs : stepR nodes out a = out := by
      unfold stepR
      split
      · rename_i hc
        unfold stepR at h1 h2 h
        rw [if_pos hc, List.length_append] at h2
        rw [if_pos hc] at h
        simp at h2
        omega
      · rfl
    have hc : a.src ∈ out → a.dst ∈ nodes → a.dst ∈ out := fun hs1 hn => Classical.byContradiction fun hno => by
      unfold stepR at hs
      rw [if_pos (by simp [inL_iff.2 hs1, inL_iff.2 hn, inL_not.2 hno])] at hs
      have := congrArg List.length hs
      simp at this
    rw [hs] at h
    have ih := rowR_closed t out h
    intro b hb
    rcases List.mem_cons.1 hb with rfl | hb
    · exact hc
    · exact ih b hb
theorem itR_told {nodes : List Int} {arcs : List Arc16} {o : List Int} (h : ToldI nodes o) : ∀ n, ToldI nodes (itR nodes arcs n o)
  | 0 => h
  | n + 1 => rowR_told arcs _ (itR_told h n)
theorem itR_same {nodes : List Int} {arcs : List Arc16} {o : List Int} (h : ClosedR nodes arcs o) : ∀ n, itR nodes arcs n o = o
  | 0 => rfl
  | n + 1 => by
    show rowR nodes arcs (itR nodes arcs n o) = o
    rw [itR_same h n]
    exact rowR_same arcs o h
theorem itR_more {nodes : List Int} {arcs : List Arc16} {o : List Int} : ∀ n, ClosedR nodes arcs (itR nodes arcs n o) ∨ o.length + n ≤ (itR nodes arcs n o).length
  | 0 => .inr (Nat.le_refl _)
  | n + 1 => by
    have h1 := rowR_len nodes arcs (itR nodes arcs n o)
    by_cases hc : (rowR nodes arcs (itR nodes arcs n o)).length = (itR nodes arcs n o).length
    · have hcl := rowR_closed arcs _ hc
      left
      show ClosedR nodes arcs (rowR nodes arcs (itR nodes arcs n o))
      rwa [rowR_same arcs _ hcl]
    · rcases itR_more (nodes := nodes) (arcs := arcs) (o := o) n with h | h
      · rw [rowR_same arcs _ h] at hc
        exact absurd rfl hc
      · right
        show _ ≤ (rowR nodes arcs (itR nodes arcs n o)).length
        omega
theorem itR_closed {nodes : List Int} {arcs : List Arc16} {o : List Int} (h : ToldI nodes o) : ClosedR nodes arcs (itR nodes arcs nodes.length o) := by
  rcases itR_more (nodes := nodes) (arcs := arcs) (o := o) nodes.length with h1 | h1
  · exact h1
  · have h2 := (itR_told (arcs := arcs) h nodes.length).len
    have h3 : o = [] := List.eq_nil_of_length_eq_zero (by omega)
    subst h3
    have h4 : ClosedR nodes arcs [] := fun a _ hs => (by cases hs)
    rw [itR_same h4]
    exact h4
theorem startR_told (ids frm : List Int) : ToldI (setL ids) (startR ids frm) := ⟨fun _ h => (List.mem_filter.1 h).1, (setL_ris ids).nodup.filter _⟩
/-- what is reached from what is reached is that -/
theorem reach_again (ids : List Int) (arcs : List Arc16) (frm : List Int) : reachL ids arcs (reachL ids arcs frm) = reachL ids arcs frm := by
  have ht := itR_told (arcs := arcs) (startR_told ids frm) (setL ids).length
  have hc := itR_closed (arcs := arcs) (startR_told ids frm)
  have hm : ∀ x, x ∈ reachL ids arcs frm ↔ x ∈ itR (setL ids) arcs (setL ids).length (startR ids frm) := fun x => setL_mem _ x
  have hr : risL (reachL ids arcs frm) := setL_ris _
  have hs : startR ids (reachL ids arcs frm) = reachL ids arcs frm := by
    refine risL.eq ?_ hr fun x => ?_
    · exact List.Pairwise.filter _ (setL_ris ids)
    · unfold startR
      rw [List.mem_filter, inL_iff]
      exact ⟨fun h => h.2, fun h => ⟨ht.sub x ((hm x).1 h), h⟩⟩
  have hcl : ClosedR (setL ids) arcs (reachL ids arcs frm) := fun a ha h1 h2 => (hm _).2 (hc a ha ((hm _).1 h1) h2)
  have e : reachL ids arcs (reachL ids arcs frm) = setL (itR (setL ids) arcs (setL ids).length (startR ids (reachL ids arcs frm))) := rfl
  rw [e, hs, itR_same hcl, setL_self hr]

/-! ### How great levels are -/
theorem lvA_le (x : Int) (p : Int × Int) (b : Int) (hp : p.2 + 1 ≤ b) : ∀ (arcs : List Arc16) (m : Int), m ≤ b → lvA arcs x p m ≤ b
  | [], _, h => h
  | a :: t, m, h => by
    have e : lvA (a :: t) x p m = lvA t x p (if a.src = p.1 ∧ a.dst = x then max m (p.2 + 1) else m) := rfl
    rw [e]
    refine lvA_le x p b hp t _ ?_
    split
    · exact Int.max_le.2 ⟨h, hp⟩
    · exact h
theorem lvP_le (arcs : List Arc16) (x : Int) (P : List (Int × Int)) (h : ∀ j (hj : j < P.length), P[j].2 ≤ (j : Int)) : ∀ k, k ≤ P.length → lvP arcs x (P.take k) ≤ (k : Int)
  | 0, _ => by simp [lvP]
  | k + 1, hk => by
    rw [lvP_take _ _ _ _ (by omega)]
    have h1 := lvP_le arcs x P h k (by omega)
    have h2 := h k (by omega)
    exact lvA_le x P[k] _ (by omega) arcs _ (by omega)
theorem levP_le (arcs : List Arc16) (told : List Int) : ∀ j (hj : j < (levP arcs told).length), (levP arcs told)[j].2 ≤ (j : Int) := by
  refine snoc_ind (P := fun told => ∀ j (hj : j < (levP arcs told).length), (levP arcs told)[j].2 ≤ (j : Int)) (fun j hj => by simp [levP] at hj) (fun l x ih => ?_) told
  intro j hj
  have hl := levP_len arcs l
  by_cases hjl : j < (levP arcs l).length
  · have := ih j hjl
    simp only [levP_snoc]
    rw [List.getElem_append_left hjl]
    exact this
  · have hje : j = (levP arcs l).length := by rw [levP_snoc, List.length_append] at hj; simp at hj; omega
    subst hje
    simp only [levP_snoc]
    rw [List.getElem_append_right (Nat.le_refl _)]
    simp only [Nat.sub_self, List.getElem_cons_zero]
    have := lvP_le arcs x (levP arcs l) ih _ (Nat.le_refl _)
    rwa [List.take_length] at this
/-- the levels so far, the one that is reckoned, and zeros -/
def lvRow (P : List (Int × Int)) (n i : Nat) (m : Int) : List Int := (P.take i).map Prod.snd ++ m :: List.replicate (n - i - 1) 0
def lvHead (P : List (Int × Int)) (n i : Nat) : List Int := (P.take i).map Prod.snd ++ List.replicate (n - i) 0
theorem lvHead_row {P : List (Int × Int)} {n i : Nat} (h : i < n) : lvHead P n i = lvRow P n i 0 := by
  unfold lvHead lvRow
  rw [show n - i = (n - i - 1) + 1 by omega, List.replicate_succ]
  rfl
theorem lvRow_len {P : List (Int × Int)} {n i : Nat} (hP : P.length = n) (h : i < n) (m : Int) : (lvRow P n i m).length = n := by
  unfold lvRow
  rw [List.length_append, List.length_map, List.length_take, List.length_cons, List.length_replicate]
  omega
theorem lvRow_set {P : List (Int × Int)} {n i : Nat} (hP : P.length = n) (h : i < n) (m x : Int) : (lvRow P n i m).set i x = lvRow P n i x := by
  unfold lvRow
  have hl : ((P.take i).map Prod.snd).length = i := by rw [List.length_map, List.length_take]; omega
  rw [List.set_append_right _ _ (by omega), hl, Nat.sub_self, List.set_cons_zero]
theorem lvRow_at {P : List (Int × Int)} {n i : Nat} (hP : P.length = n) (h : i < n) (m : Int) : (lvRow P n i m)[i]'(by rw [lvRow_len hP h]; exact h) = m := by
  unfold lvRow
  have hl : ((P.take i).map Prod.snd).length = i := by rw [List.length_map, List.length_take]; omega
  rw [List.getElem_append_right (by omega)]
  simp only [hl, Nat.sub_self, List.getElem_cons_zero]
theorem lvRow_old {P : List (Int × Int)} {n i : Nat} (hP : P.length = n) (h : i < n) (m : Int) (k : Nat) (hk : k < i) : (lvRow P n i m)[k]'(by rw [lvRow_len hP h]; omega) = (P[k]'(by omega)).2 := by
  unfold lvRow
  have hl : ((P.take i).map Prod.snd).length = i := by rw [List.length_map, List.length_take]; omega
  rw [List.getElem_append_left (by omega), List.getElem_map, List.getElem_take]
theorem lvRow_next {P : List (Int × Int)} {n i : Nat} (hP : P.length = n) (h : i < n) : lvRow P n i (P[i]'(by omega)).2 = lvHead P n (i + 1) := by
  unfold lvRow lvHead
  rw [List.take_succ_eq_append_getElem (by omega), List.map_append, show n - (i + 1) = n - i - 1 by omega, List.append_assoc]
  rfl
theorem lvHead_all {P : List (Int × Int)} {n : Nat} (hP : P.length = n) : lvHead P n n = P.map Prod.snd := by
  unfold lvHead
  rw [List.take_of_length_le (by omega), Nat.sub_self]
  simp

/-! ### Where a number stands -/
def plcL (l : List Int) (n : Int) : Int := if n ∈ l then ((l.idxOf n : Nat) : Int) else -1
theorem plc_found {l : List Int} {n : Int} {k : Nat} (hk : k < l.length) (he : l[k] = n) (hno : n ∉ l.take k) : plcL l n = k := by
  unfold plcL
  rw [if_pos (he ▸ List.getElem_mem hk)]
  have h1 : l.idxOf n = k := by
    have e : l = l.take k ++ l[k] :: l.drop (k + 1) := by rw [← List.drop_eq_getElem_cons hk, List.take_append_drop]
    have h2 : (l.take k ++ l[k] :: l.drop (k + 1)).idxOf n = (l.take k).length + (l[k] :: l.drop (k + 1)).idxOf n := by
      rw [List.idxOf_append, if_neg hno]
      omega
    rw [← e] at h2
    rw [h2, he, List.idxOf_cons_self, List.length_take]
    omega
  rw [h1]
theorem plc_none {l : List Int} {n : Int} (h : n ∉ l) : plcL l n = -1 := if_neg h
theorem plc_ge {l : List Int} {n : Int} : 0 ≤ plcL l n ↔ n ∈ l := by
  unfold plcL
  split <;> rename_i h
  · exact ⟨fun _ => h, fun _ => by omega⟩
  · exact ⟨fun h2 => by omega, fun h2 => absurd h2 h⟩
theorem plc_at {l : List Int} {n : Int} (h : n ∈ l) : plcL l n = ((l.idxOf n : Nat) : Int) ∧ l.idxOf n < l.length ∧ l[l.idxOf n]? = some n := by
  refine ⟨if_pos h, List.idxOf_lt_length_of_mem h, ?_⟩
  rw [List.getElem?_eq_getElem (List.idxOf_lt_length_of_mem h), List.getElem_idxOf]
end Go.Proofs.YthchkhgimnchcaaGreat
/- A list of numbers that the call has gathered, sorted and without repetitions: what the library's contracts give. -/
namespace Go.Proofs.YthchkhgimnchcaaGreat
open Go.RowKit Go.Sort

/-! ### Lists that rise -/
theorem rise_ext : ∀ {l r : List Int}, l.Pairwise (· < ·) → r.Pairwise (· < ·) → (∀ m, m ∈ l ↔ m ∈ r) → l = r
  | [], [], _, _, _ => rfl
  | [], y :: r, _, _, h => absurd ((h y).2 (by simp)) (by simp)
  | x :: l, [], _, _, h => absurd ((h x).1 (by simp)) (by simp)
  | x :: l, y :: r, hl, hr, h => by
    rw [List.pairwise_cons] at hl hr
    have e : x = y := by
      have h1 := (h x).1 (by simp)
      have h2 := (h y).2 (by simp)
      rw [List.mem_cons] at h1 h2
      rcases h1 with h1 | h1
      · exact h1
      · rcases h2 with h2 | h2
        · exact h2.symm
        · have := hl.1 _ h2
          have := hr.1 _ h1
          omega
    subst e
    have : l = r := rise_ext hl.2 hr.2 fun m => by
      have := h m
      rw [List.mem_cons, List.mem_cons] at this
      constructor
      · intro hm
        have h3 := hl.1 _ hm
        rcases this.1 (.inr hm) with rfl | h4
        · omega
        · exact h4
      · intro hm
        have h3 := hr.1 _ hm
        rcases this.2 (.inr hm) with rfl | h4
        · omega
        · exact h4
    rw [this]

theorem sorted_ms (zs : List Int) : (zs.mergeSort fun x y => decide (x ≤ y)).Pairwise (· ≤ ·) := by
  have := List.pairwise_mergeSort (le := fun x y : Int => decide (x ≤ y)) (fun a b c h1 h2 => by simp at *; omega) (fun a b => by simp; omega) zs
  exact this.imp fun h => by simpa using h

theorem compact_rise {zs : List Int} (h : zs.Pairwise (· ≤ ·)) : (Lib.compact zs).Pairwise (· < ·) := by
  unfold Lib.compact Lib.compactUpTo
  rw [List.pairwise_map]
  have h1 : (List.range zs.length).Pairwise (· < ·) := List.pairwise_lt_range
  have h2 := h1.filter (Lib.keeps zs.toArray)
  refine List.Pairwise.imp_of_mem (fun {i j} hi hj hij => ?_) h2
  have hjm := List.mem_filter.1 hj
  have hjl : j < zs.length := List.mem_range.1 hjm.1
  have hk := hjm.2
  unfold Lib.keeps at hk
  rw [decide_eq_true_eq] at hk
  rcases hk with hk | hk
  · omega
  · have g : ∀ a b, a ≤ b → b < zs.length → zs.toArray[a]! ≤ zs.toArray[b]! := by
      intro a b hab hb
      rcases Nat.lt_or_ge a b with hlt | hge
      · have := List.pairwise_iff_getElem.1 h a b (by omega) hb hlt
        simpa [getElem!_pos, show a < zs.length by omega, hb] using this
      · have : a = b := by omega
        subst this
        exact Int.le_refl _
    have h3 := g i (j - 1) (by omega) (by omega)
    have h4 := g (j - 1) j (by omega) hjl
    omega

theorem compact_mem (zs : List Int) (m : Int) : m ∈ Lib.compact zs ↔ m ∈ zs := by
  unfold Lib.compact Lib.compactUpTo
  rw [List.mem_map]
  constructor
  · rintro ⟨i, hi, rfl⟩
    have := List.mem_range.1 (List.mem_filter.1 hi).1
    simp [getElem!_pos, this]
  · intro hm
    obtain ⟨i, hi, rfl⟩ := List.getElem_of_mem hm
    have key : ∀ n, ∀ i (hi : i < zs.length), i < n → ∃ a, a ∈ (List.range zs.length).filter (Lib.keeps zs.toArray) ∧ zs.toArray[a]! = zs[i] := by
      intro n
      induction n with
      | zero => intro i hi h; omega
      | succ n ih =>
        intro i hi h
        by_cases hk : Lib.keeps zs.toArray i = true
        · exact ⟨i, List.mem_filter.2 ⟨List.mem_range.2 hi, hk⟩, by simp [getElem!_pos, hi]⟩
        · unfold Lib.keeps at hk
          rw [decide_eq_true_eq] at hk
          have h0 : i ≠ 0 := fun e => hk (.inl e)
          have h1 : zs.toArray[i]! = zs.toArray[i - 1]! := by
            by_cases e : zs.toArray[i]! = zs.toArray[i - 1]!
            · exact e
            · exact absurd (.inr e) hk
          obtain ⟨a, ha, he⟩ := ih (i - 1) (by omega) (by omega)
          refine ⟨a, ha, ?_⟩
          rw [he]
          simp [getElem!_pos, hi, show i - 1 < zs.length by omega] at h1
          exact h1.symm
    exact key (i + 1) i hi (by omega)

/-! ### In memory -/
theorem below_row {B blk off n : Nat} {a w : World} {d : Array Int} {os : Array Obj} (h : Below B a w) (hb : B ≤ blk) (hz : B ≤ w.heap.size) : Below B a (grow (putRow (Value.int .i64) (Sort.ahead w n) blk off d) os) := by
  refine h.trans ⟨rfl, rfl, rfl, by simp, fun k hk => ?_⟩
  rw [heap_grow_old _ _ (by simp; omega)]
  have : blk ≠ k := by omega
  simp [putRow, mapBlock, Sort.ahead, Array.getElem?_modify, this]
theorem below_row' {B blk off n : Nat} {a w : World} {d : Array Int} (h : Below B a w) (hb : B ≤ blk) (hz : B ≤ w.heap.size) : Below B a (putRow (Value.int .i64) (Sort.ahead w n) blk off d) := by
  have := below_row (n := n) (off := off) (d := d) (os := #[]) h hb hz
  rwa [grow_empty] at this
theorem ints_of_holds {w : World} {blk cap : Nat} {zs : List Int} {d : Array Int} (hH : Holds (Value.int .i64) w blk 0 d) (hb : blk < w.heap.size) (hd : ∀ j x, zs[j]? = some x → j < d.size ∧ d[j]! = x) (hc : zs.length ≤ cap) : IntsAt w (.slice (some ⟨blk, 0, none⟩) zs.length cap) zs := by
  refine ⟨_, cap, rfl, hc, fun _ => ⟨blk, 0, rfl, hb, fun j x hj => ?_⟩⟩
  obtain ⟨h1, h2⟩ := hd j x hj
  have := (hH j h1).1
  rw [h2] at this
  exact this
/-- a list that the call has gathered, of at least one -/
theorem OwnI.holds {w : World} {B : Nat} {v : Value} {l : List Int} (h : OwnI w B v l) (h0 : 0 < l.length) :
    ∃ g cap, v = .slice (some ⟨g, 0, none⟩) l.length cap ∧ B ≤ g ∧ g < w.heap.size ∧ l.length ≤ cap ∧ Holds (Value.int .i64) w g 0 l.toArray := by
  rcases h.2 with ⟨rfl, he⟩ | ⟨g, cap, cur, rfl, hg, hh, hnc, hcp, hcs, htake⟩
  · omega
  · refine ⟨g, cap, rfl, hg, (Array.getElem?_eq_some_iff.1 hh).1, hnc, fun j hj => ?_⟩
    have hj' : j < l.length := by simpa using hj
    refine ⟨?_, by simp [World.frozen?, hh]⟩
    have h1 := flats_at csI_len l j l[j] (List.getElem?_eq_getElem hj') 0 (.int .i64 l[j]) rfl
    rw [Nat.mul_one, Nat.add_zero, ← htake, List.getElem?_take_of_lt (by omega)] at h1
    simp only [World.cell?, hh, Nat.zero_add]
    simp [hj'] at h1 ⊢
    exact h1

/-- behind the sort and Compact -/
theorem ints_compact {w : World} {g cap n q : Nat} {os : Array Obj} {l : List Int} (hH : Holds (Value.int .i64) w g 0 l.toArray) (hg : g < w.heap.size) (hc : l.length ≤ cap) :
    IntsAt (putRow (Value.int .i64) (Sort.ahead (grow (putRow (Value.int .i64) (Sort.ahead w n) g 0 (l.mergeSort fun x y => decide (x ≤ y)).toArray) os) q) g 0 (Lib.compact (l.mergeSort fun x y => decide (x ≤ y)) ++ List.replicate ((l.mergeSort fun x y => decide (x ≤ y)).length - (Lib.compact (l.mergeSort fun x y => decide (x ≤ y))).length) 0).toArray)
      (.slice (some ⟨g, 0, none⟩) (Lib.compact (l.mergeSort fun x y => decide (x ≤ y))).length cap) (Lib.compact (l.mergeSort fun x y => decide (x ≤ y))) := by
  have hlen : (l.mergeSort fun x y => decide (x ≤ y)).length = l.length := List.length_mergeSort l
  generalize (l.mergeSort fun x y => decide (x ≤ y)) = s at *
  have hcl := Lib.compact_length_le s
  have H1 : Holds (Value.int .i64) (grow (putRow (Value.int .i64) (Sort.ahead w n) g 0 s.toArray) os) g 0 s.toArray :=
    holds_grow _ _ _ _ _ _ (by simpa using hg) (holds_putRow _ _ _ _ l.toArray _ (holds_ahead _ _ _ _ _ _ hH) (by simpa using hlen))
  have H2 := holds_putRow (Value.int .i64) (Sort.ahead (grow (putRow (Value.int .i64) (Sort.ahead w n) g 0 s.toArray) os) q) g 0 s.toArray (Lib.compact s ++ List.replicate (s.length - (Lib.compact s).length) 0).toArray (holds_ahead _ _ _ _ _ _ H1) (by simp; omega)
  refine ints_of_holds H2 (by simp; omega) (fun j x hj => ?_) (by omega)
  have hjl := (List.getElem?_eq_some_iff.1 hj).1
  refine ⟨by simp; omega, ?_⟩
  rw [getElem!_pos _ _ (by simp; omega)]
  rw [List.getElem?_eq_getElem hjl] at hj
  simp [List.getElem_append_left hjl]
  exact Option.some.inj hj
theorem holds_sorted {w : World} {g n : Nat} {os : Array Obj} {l : List Int} (hH : Holds (Value.int .i64) w g 0 l.toArray) (hg : g < w.heap.size) :
    Holds (Value.int .i64) (grow (putRow (Value.int .i64) (Sort.ahead w n) g 0 (l.mergeSort fun x y => decide (x ≤ y)).toArray) os) g 0 (l.mergeSort fun x y => decide (x ≤ y)).toArray :=
  holds_grow _ _ _ _ _ _ (by simpa using hg) (holds_putRow _ _ _ _ l.toArray _ (holds_ahead _ _ _ _ _ _ hH) (by simp))
end Go.Proofs.YthchkhgimnchcaaGreat
