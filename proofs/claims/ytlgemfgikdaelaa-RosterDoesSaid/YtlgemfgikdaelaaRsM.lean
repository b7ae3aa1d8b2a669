/- Stage 25: hands by rising IDs: plain mathematics. -/
import Derived.Test.YtlgemfgikdaelaaGraphMathC
import Derived.Test.YtlgemfgikdaelaaSkillMath
import Derived.Test.YtlgemfgikdaelaaOwnO
namespace Go.Proofs.Ytlgemfgikdaelaa
open Go.RowKit

/-- a hand, and one of a roster: whether it is busy too -/
structure Hd where
  id : Int
  bits : Nat
  on : Bool
  deriving Inhabited
structure En where
  id : Int
  bits : Nat
  on : Bool
  busy : Bool
  deriving Inhabited
abbrev En.hd (x : En) : Hd := ⟨x.id, x.bits, x.on⟩
def csHd (x : Hd) : List Value := [.int .i64 x.id, .int .u64 (x.bits : Int), .bool x.on]
def csEn (x : En) : List Value := [.int .i64 x.id, .int .u64 (x.bits : Int), .bool x.on, .bool x.busy]
theorem csHd_len (x : Hd) : (csHd x).length = 3 := rfl
theorem csEn_len (x : En) : (csEn x).length = 4 := rfl
theorem csHd_one (x : Hd) : ∀ u ∈ csHd x, u.oneCell' = true := by
  intro u hu
  simp [csHd] at hu
  rcases hu with rfl | rfl | rfl <;> rfl
theorem csEn_one (x : En) : ∀ u ∈ csEn x, u.oneCell' = true := by
  intro u hu
  simp [csEn] at hu
  rcases hu with rfl | rfl | rfl | rfl <;> rfl

/-- rising IDs, within their bounds -/
structure RsOk (L : List En) : Prop where
  rise : L.Pairwise fun a b => a.id < b.id
  bd : ∀ x ∈ L, 1 ≤ x.id ∧ x.id ≤ 999
  bits : ∀ x ∈ L, x.bits < 2 ^ 64
/-- where one is, or would be put -/
def befE (L : List En) (n : Int) : Nat := L.countP fun x => decide (x.id < n)
def hasE (L : List En) (n : Int) : Bool := L.any fun x => decide (x.id = n)
theorem befE_le (L : List En) (n : Int) : befE L n ≤ L.length := List.countP_le_length
theorem befE_cons (x : En) (L : List En) (n : Int) : befE (x :: L) n = befE L n + if x.id < n then 1 else 0 := by
  unfold befE
  rw [List.countP_cons]
  simp
theorem RsOk.nil : RsOk [] := ⟨List.Pairwise.nil, by simp, by simp⟩
theorem RsOk.tail {x : En} {L : List En} (h : RsOk (x :: L)) : RsOk L := ⟨(List.pairwise_cons.1 h.rise).2, fun y hy => h.bd y (List.mem_cons_of_mem _ hy), fun y hy => h.bits y (List.mem_cons_of_mem _ hy)⟩
theorem rs_at {L : List En} (h : L.Pairwise fun a b => a.id < b.id) {i j : Nat} (hi : i < L.length) (hj : j < L.length) : i < j → L[i].id < L[j].id := fun hij => List.pairwise_iff_getElem.1 h i j hi hj hij
theorem befE_at {L : List En} (h : L.Pairwise fun a b => a.id < b.id) (n : Int) {i : Nat} (hi : i < L.length) : L[i].id < n ↔ i < befE L n := by
  induction L generalizing i with
  | nil => simp at hi
  | cons x L ih =>
    obtain ⟨h1, h2⟩ := List.pairwise_cons.1 h
    rw [befE_cons]
    cases i with
    | zero =>
      rw [List.getElem_cons_zero]
      by_cases hx : x.id < n
      · rw [if_pos hx]; omega
      · rw [if_neg hx]
        have : befE L n = 0 := by
          unfold befE
          rw [List.countP_eq_zero]
          intro y hy
          have := h1 y hy
          simp
          omega
        omega
    | succ i =>
      have hi' : i < L.length := by simpa using hi
      rw [List.getElem_cons_succ, ih h2 hi']
      by_cases hx : x.id < n
      · rw [if_pos hx]; omega
      · rw [if_neg hx]
        have h3 := h1 L[i] (List.getElem_mem hi')
        have h4 := ih h2 (i := i) hi'
        omega
/-- one that is there stands at its place -/
theorem hasE_iff {L : List En} (h : L.Pairwise fun a b => a.id < b.id) (n : Int) : hasE L n = true ↔ ∃ hk : befE L n < L.length, L[befE L n].id = n := by
  unfold hasE
  rw [List.any_eq_true]
  constructor
  · rintro ⟨x, hx, hn⟩
    obtain ⟨i, hi, rfl⟩ := List.getElem_of_mem hx
    have hn : L[i].id = n := by simpa using hn
    have h1 : ¬ i < befE L n := fun h2 => by have := (befE_at h n hi).2 h2; omega
    have h2 : ¬ befE L n < i := fun h2 => by
      have h3 := rs_at h (i := befE L n) (j := i) (by omega) hi h2
      have h4 := (befE_at h n (i := befE L n) (by omega)).1 (by omega)
      omega
    have h3 : befE L n = i := by omega
    subst h3
    exact ⟨hi, hn⟩
  · rintro ⟨hk, hn⟩
    exact ⟨_, List.getElem_mem hk, by simpa using hn⟩
theorem hasE_no {L : List En} {n : Int} (h : hasE L n = false) : ∀ x ∈ L, x.id ≠ n := by
  intro x hx e
  have : hasE L n = true := by
    unfold hasE
    rw [List.any_eq_true]
    exact ⟨x, hx, by simpa using e⟩
  rw [h] at this
  cases this
theorem hasE_bd {L : List En} (h : RsOk L) {n : Int} (hn : hasE L n = true) : 1 ≤ n ∧ n ≤ 999 := by
  obtain ⟨hk, e⟩ := (hasE_iff h.rise n).1 hn
  have := h.bd _ (List.getElem_mem hk)
  omega

/-- with one more -/
def insE (L : List En) (x : En) : List En := L.take (befE L x.id) ++ x :: L.drop (befE L x.id)
theorem insE_len (L : List En) (x : En) : (insE L x).length = L.length + 1 := by
  unfold insE
  have := befE_le L x.id
  rw [List.length_append, List.length_take, List.length_cons, List.length_drop]
  omega
theorem insE_mem {L : List En} {x y : En} : y ∈ insE L x ↔ y = x ∨ y ∈ L := by
  unfold insE
  have h : y ∈ L ↔ y ∈ L.take (befE L x.id) ∨ y ∈ L.drop (befE L x.id) := by
    rw [← List.mem_append, List.take_append_drop]
  rw [List.mem_append, List.mem_cons, h]
  constructor
  · rintro (h | h | h)
    · exact .inr (.inl h)
    · exact .inl h
    · exact .inr (.inr h)
  · rintro (h | h | h)
    · exact .inr (.inl h)
    · exact .inl h
    · exact .inr (.inr h)
theorem insE_cons (L : List En) (x y : En) (h : (y :: L).Pairwise fun a b => a.id < b.id) : insE (y :: L) x = if x.id ≤ y.id then x :: y :: L else y :: insE L x := by
  unfold insE
  rw [befE_cons]
  by_cases hx : x.id ≤ y.id
  · rw [if_pos hx, if_neg (by omega)]
    have : befE L x.id = 0 := by
      unfold befE
      rw [List.countP_eq_zero]
      intro z hz
      have := (List.pairwise_cons.1 h).1 z hz
      simp
      omega
    rw [this]
    rfl
  · rw [if_neg hx, if_pos (by omega)]
    rfl
theorem insE_rise : ∀ {L : List En} {x : En}, (L.Pairwise fun a b => a.id < b.id) → (∀ y ∈ L, y.id ≠ x.id) → (insE L x).Pairwise fun a b => a.id < b.id
  | [], x, _, _ => by simp [insE]
  | y :: L, x, h, hn => by
    rw [insE_cons L x y h]
    obtain ⟨h1, h2⟩ := List.pairwise_cons.1 h
    have hy := hn y List.mem_cons_self
    split
    · rename_i hx
      refine List.pairwise_cons.2 ⟨fun z hz => ?_, h⟩
      rcases List.mem_cons.1 hz with rfl | hz
      · omega
      · have := h1 z hz; omega
    · rename_i hx
      refine List.pairwise_cons.2 ⟨fun z hz => ?_, insE_rise h2 fun z hz => hn z (List.mem_cons_of_mem _ hz)⟩
      rcases insE_mem.1 hz with rfl | hz
      · omega
      · exact h1 z hz
theorem RsOk.ins {L : List En} (h : RsOk L) {x : En} (hx : 1 ≤ x.id ∧ x.id ≤ 999) (hb : x.bits < 2 ^ 64) (hn : hasE L x.id = false) : RsOk (insE L x) :=
  ⟨insE_rise h.rise (hasE_no hn), fun y hy => (insE_mem.1 hy).elim (fun e => e ▸ hx) (h.bd y), fun y hy => (insE_mem.1 hy).elim (fun e => e ▸ hb) (h.bits y)⟩

/-- where one is changed -/
theorem RsOk.set {L : List En} (h : RsOk L) (k : Nat) (hk : k < L.length) (x : En) (hi : x.id = L[k].id) (hb : x.bits = L[k].bits) : RsOk (L.set k x) := by
  refine ⟨List.pairwise_iff_getElem.2 fun i j hi' hj' hij => ?_, fun y hy => ?_, fun y hy => ?_⟩
  · rw [List.length_set] at hi' hj'
    have h1 := rs_at h.rise hi' hj' hij
    have e : ∀ i (hi' : i < L.length), ((L.set k x)[i]'(by rw [List.length_set]; exact hi')).id = L[i].id := fun i hi' => by
      rw [List.getElem_set]
      split
      · rename_i e
        subst e
        exact hi
      · rfl
    rw [e i hi', e j hj']
    exact h1
  · rcases List.mem_or_eq_of_mem_set hy with hy | rfl
    · exact h.bd y hy
    · rw [hi]; exact h.bd _ (List.getElem_mem hk)
  · rcases List.mem_or_eq_of_mem_set hy with hy | rfl
    · exact h.bits y hy
    · rw [hb]; exact h.bits _ (List.getElem_mem hk)

/-- the acts -/
def addE (room : Int) (L : List En) (n : Int) (b : Nat) : List En × Int :=
  if ¬ (1 ≤ n ∧ n ≤ 999) then (L, 2) else if hasE L n then (L, 6) else if room ≤ (L.length : Int) then (L, 9) else (insE L ⟨n, b, true, false⟩, 0)
def setE (L : List En) (n : Int) (on : Bool) : List En × Int :=
  if hasE L n then (if (L.getD (befE L n) default).on = on then (L, 12) else (L.set (befE L n) { L.getD (befE L n) default with on := on }, 0)) else (L, 7)
abbrev En.free (x : En) : Bool := x.on && !x.busy
def takeE (L : List En) (n : Int) : List En × Int :=
  if hasE L n then (if (L.getD (befE L n) default).free then (L.set (befE L n) { L.getD (befE L n) default with busy := true }, 0) else (L, 12)) else (L, 7)
def busyE (L : List En) (n : Int) : Bool := hasE L n && (L.getD (befE L n) default).busy
def giveE (L : List En) (n : Int) : List En × Bool :=
  if busyE L n then (L.set (befE L n) { L.getD (befE L n) default with busy := false }, true) else (L, false)
def freeE (L : List En) : List Hd := (L.filter En.free).map En.hd
def viewE (L : List En) : List Hd := L.map En.hd
def mayH (need : Nat) (nt : List Int) (x : Hd) : Bool := hasK x.bits need 64 && !inL nt x.id
def pickH (l : List Hd) (need : Nat) (nt : List Int) : Int × Bool := match l.find? (mayH need nt) with
  | some x => (x.id, true)
  | none => (0, false)
def pickE (L : List En) (need : Nat) (nt : List Int) : Int × Bool := pickH (freeE L) need nt
structure Ra where
  kind : Int
  id : Int
  bits : Nat
  on : Bool
  deriving Inhabited
def csRa (a : Ra) : List Value := [.int .i64 a.kind, .int .i64 a.id, .int .u64 (a.bits : Int), .bool a.on]
theorem csRa_len (a : Ra) : (csRa a).length = 4 := rfl
def actE (room : Int) (L : List En) (a : Ra) : List En × Int × Bool :=
  if a.kind = 1 then ((addE room L a.id a.bits).1, (addE room L a.id a.bits).2, false)
  else if a.kind = 2 then ((setE L a.id a.on).1, (setE L a.id a.on).2, false)
  else if a.kind = 3 then ((takeE L a.id).1, (takeE L a.id).2, false)
  else ((giveE L a.id).1, 0, (giveE L a.id).2)
theorem RsOk.at {L : List En} (h : RsOk L) {n : Int} (hn : hasE L n = true) : ∃ hk : befE L n < L.length, L.getD (befE L n) default = L[befE L n] ∧ L[befE L n].id = n := by
  obtain ⟨hk, e⟩ := (hasE_iff h.rise n).1 hn
  exact ⟨hk, by rw [List.getD_eq_getElem?_getD, List.getElem?_eq_getElem hk]; rfl, e⟩
theorem addE_ok {L : List En} (h : RsOk L) (room : Int) (hr : (L.length : Int) ≤ room) (n : Int) (b : Nat) (hb : b < 2 ^ 64) : RsOk (addE room L n b).1 ∧ ((addE room L n b).1.length : Int) ≤ room := by
  unfold addE
  split
  · exact ⟨h, hr⟩
  · rename_i h1
    split
    · exact ⟨h, hr⟩
    · rename_i h2
      split
      · exact ⟨h, hr⟩
      · rename_i h3
        refine ⟨h.ins (Classical.not_not.1 h1) hb (by simpa using h2), ?_⟩
        show ((insE L _).length : Int) ≤ room
        rw [insE_len]
        omega
theorem setE_ok {L : List En} (h : RsOk L) (n : Int) (on : Bool) : RsOk (setE L n on).1 ∧ (setE L n on).1.length = L.length := by
  unfold setE
  split
  · rename_i h1
    obtain ⟨hk, e, e2⟩ := h.at h1
    rw [e]
    split
    · exact ⟨h, rfl⟩
    · exact ⟨h.set _ hk _ rfl rfl, List.length_set ..⟩
  · exact ⟨h, rfl⟩
theorem takeE_ok {L : List En} (h : RsOk L) (n : Int) : RsOk (takeE L n).1 ∧ (takeE L n).1.length = L.length := by
  unfold takeE
  split
  · rename_i h1
    obtain ⟨hk, e, e2⟩ := h.at h1
    rw [e]
    split
    · exact ⟨h.set _ hk _ rfl rfl, List.length_set ..⟩
    · exact ⟨h, rfl⟩
  · exact ⟨h, rfl⟩
theorem giveE_ok {L : List En} (h : RsOk L) (n : Int) : RsOk (giveE L n).1 ∧ (giveE L n).1.length = L.length := by
  unfold giveE
  split
  · rename_i h1
    unfold busyE at h1
    rw [Bool.and_eq_true] at h1
    obtain ⟨hk, e, e2⟩ := h.at h1.1
    rw [e]
    exact ⟨h.set _ hk _ rfl rfl, List.length_set ..⟩
  · exact ⟨h, rfl⟩
theorem actE_ok {L : List En} (h : RsOk L) (room : Int) (hr : (L.length : Int) ≤ room) (a : Ra) (hb : a.bits < 2 ^ 64) : RsOk (actE room L a).1 ∧ ((actE room L a).1.length : Int) ≤ room := by
  unfold actE
  split
  · exact addE_ok h room hr a.id a.bits hb
  · split
    · obtain ⟨h1, h2⟩ := setE_ok h a.id a.on
      exact ⟨h1, by show (((setE L a.id a.on).1.length : Nat) : Int) ≤ room; rw [h2]; exact hr⟩
    · split
      · obtain ⟨h1, h2⟩ := takeE_ok h a.id
        exact ⟨h1, by show (((takeE L a.id).1.length : Nat) : Int) ≤ room; rw [h2]; exact hr⟩
      · obtain ⟨h1, h2⟩ := giveE_ok h a.id
        exact ⟨h1, by show (((giveE L a.id).1.length : Nat) : Int) ≤ room; rw [h2]; exact hr⟩
end Go.Proofs.Ytlgemfgikdaelaa
