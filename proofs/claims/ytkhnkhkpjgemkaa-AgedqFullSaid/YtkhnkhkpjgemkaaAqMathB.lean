/- Stage 15: a queue as two heaps and a map: plain mathematics. -/
import Derived.Test.YtkhnkhkpjgemkaaAqMath
import Derived.Test.YtkhnkhkpjgemkaaBun3
namespace Go.Proofs.Ytkhnkhkpjgemkaa

/-- an item as a queue keeps it -/
def okI (n : Int) (x : It) : Prop := (0 ≤ x.prio ∧ x.prio ≤ 1048575) ∧ (0 ≤ x.since ∧ x.since ≤ n) ∧ I64 x.id
def keyA (r : Int) (x : It) : Int := x.prio - r * x.since
def thF (x : It) : Th := ⟨x.id, 1048575, x.seq⟩
def thG (r : Int) (x : It) : Th := ⟨x.id, keyA r x, x.seq⟩
def thA (n r : Int) (x : It) : Th := ⟨x.id, ofA x n r, x.seq⟩
theorem pr_in {n : Int} (h : 0 ≤ n ∧ n ≤ 1048575) : pr n = n := by unfold pr iclip; split <;> omega
theorem rt_in {n : Int} (h : 0 ≤ n ∧ n ≤ 1048576) : rt n = n := by unfold rt iclip; split <;> omega
theorem of_key {n r : Int} {x : It} (hn : 0 ≤ n ∧ n ≤ 2147483647) (hr : 0 ≤ r ∧ r ≤ 1048576) (hx : okI n x) : ofA x n r = min (keyA r x + r * n) 1048575 := by
  obtain ⟨h1, h2, _⟩ := hx
  unfold ofA ageA keyA
  rw [pr_in h1, rt_in hr, tk_in hn, tk_in ⟨h2.1, by omega⟩, show max (n - x.since) 0 = n - x.since by omega, Int.mul_sub]
  congr 1
  omega
theorem ahead_thA (a b : It) (n r : Int) : ahead (thA n r a) (thA n r b) = ahA a b n r := rfl

/-! ### In order: the same ones -/
theorem inA_perm (l : List It) (x : It) (n r : Int) : (inA l x n r).Perm (x :: l) := by
  unfold inA
  generalize stayA x l n r l.length = s
  rw [List.append_assoc]
  have h := List.perm_middle (a := x) (l₁ := l.take s) (l₂ := l.drop s)
  rwa [List.take_append_drop] at h
theorem ordA_perm (l : List It) (n r : Int) : (ordA l n r).Perm l := by
  have key : ∀ (l out : List It), (l.foldl (fun out x => inA out x n r) out).Perm (out ++ l) := by
    intro l
    induction l with
    | nil => intro out; simp
    | cons x t ih =>
      intro out
      rw [List.foldl_cons]
      refine (ih _).trans ?_
      refine ((inA_perm out x n r).append_right t).trans ?_
      exact List.perm_middle.symm
  have := key l []
  rwa [List.nil_append] at this
theorem ordA_srt {l : List It} (n r : Int) (h : (l.map It.id).Nodup) : srtT ((ordA l n r).map (thA n r)) := by
  have hp := (((ordA_perm l n r).map It.id).nodup_iff).2 h
  have hs := ordA_sort l n r
  generalize ordA l n r = L at *
  unfold srtT
  rw [List.pairwise_map]
  refine List.pairwise_iff_getElem.2 fun i j hi hj hij => ?_
  have h1 := List.pairwise_iff_getElem.1 hs i j hi hj hij
  rw [← ahead_thA] at h1
  refine ahead_else h1 fun e => ?_
  have h2 := List.pairwise_iff_getElem.1 hp i j (by simpa using hi) (by simpa using hj) hij
  simp only [List.getElem_map] at h2
  exact h2 e.symm

/-! ### The items as a map -/
def gA (l : List It) (id : Int) : Option It := if (findA l id).2 then some (findA l id).1 else none
theorem gA_some (l : List It) (id : Int) : (gA l id).isSome = (findA l id).2 := by
  unfold gA
  cases h : (findA l id).2 <;> rfl
theorem findA_zero : ∀ (l : List It) (id : Int), (findA l id).2 = false → (findA l id).1 = ⟨0, 0, 0, 0⟩
  | [], _, _ => rfl
  | x :: l, id, h => by
    unfold findA at h ⊢
    split at h
    · cases h
    · rename_i hne
      rw [if_neg hne]
      exact findA_zero l id h
theorem gA_get (l : List It) (id : Int) : (gA l id).getD ⟨0, 0, 0, 0⟩ = (findA l id).1 := by
  unfold gA
  cases h : (findA l id).2
  · rw [findA_zero l id h]; rfl
  · rfl
theorem gA_cons (x : It) (l : List It) (id : Int) : gA (x :: l) id = if x.id = id then some x else gA l id := by
  have e : findA (x :: l) id = if x.id = id then (x, true) else findA l id := rfl
  unfold gA
  rw [e]
  split <;> rfl
theorem gA_nil (id : Int) : gA [] id = none := rfl
theorem gA_in {l : List It} (h : (l.map It.id).Nodup) {x : It} (hx : x ∈ l) : gA l x.id = some x := by
  unfold gA
  rw [findA_is l h x hx]
  rfl
theorem gA_none {l : List It} {id : Int} (h : gA l id = none) : ∀ x ∈ l, x.id ≠ id := by
  have h2 : (findA l id).2 = false := by
    rw [← gA_some, h]
    rfl
  exact fun x hx e => findA_no l id h2 (e ▸ List.mem_map_of_mem hx)
theorem gA_snoc {l : List It} {x : It} (h : gA l x.id = none) : gA (l ++ [x]) = updG (gA l) x.id (some x) := by
  funext k
  induction l with
  | nil =>
    show gA [x] k = _
    rw [gA_cons]
    unfold updG
    by_cases e : x.id = k
    · rw [if_pos e, if_pos e.symm]
    · rw [if_neg e, if_neg fun e' => e e'.symm]
  | cons y l ih =>
    have hy := gA_none h y List.mem_cons_self
    rw [gA_cons, if_neg hy] at h
    rw [List.cons_append, gA_cons, ih h]
    unfold updG
    by_cases e : k = x.id
    · rw [if_pos e, if_pos e, if_neg (by rw [e]; exact hy)]
    · rw [if_neg e, if_neg e, gA_cons]
def cutI (l : List It) (id : Int) : List It := l.filter fun x => decide (x.id ≠ id)
theorem gA_cut (l : List It) (id : Int) : gA (cutI l id) = updG (gA l) id none := by
  funext k
  induction l with
  | nil =>
    show none = _
    unfold updG
    split <;> rfl
  | cons y l ih =>
    unfold cutI at *
    by_cases hy : y.id = id
    · rw [List.filter_cons_of_neg (by simpa using hy), ih]
      unfold updG
      by_cases e : k = id
      · rw [if_pos e, if_pos e]
      · rw [if_neg e, if_neg e, gA_cons, if_neg (by rw [hy]; exact fun e' => e e'.symm)]
    · rw [List.filter_cons_of_pos (by simpa using hy), gA_cons, ih]
      unfold updG
      by_cases e : k = id
      · rw [if_pos e, if_pos e, if_neg (by rw [e]; exact hy)]
      · rw [if_neg e, if_neg e, gA_cons]
theorem cut_no {l : List It} {id : Int} (h : ∀ x ∈ l, x.id ≠ id) : cutI l id = l := List.filter_eq_self.2 fun x hx => by simpa using h x hx
theorem cut_perm : ∀ {l : List It}, (l.map It.id).Nodup → ∀ {x}, x ∈ l → l.Perm (x :: cutI l x.id)
  | [], _, x, h => by cases h
  | y :: l, hn, x, h => by
    rw [List.map_cons, List.nodup_cons] at hn
    rcases List.mem_cons.1 h with rfl | h
    · have e : cutI (x :: l) x.id = l := by
        unfold cutI
        rw [List.filter_cons_of_neg (by simp)]
        exact cut_no fun z hz e => hn.1 (e ▸ List.mem_map_of_mem hz)
      rw [e]
    · have hne : y.id ≠ x.id := fun e => hn.1 (e ▸ List.mem_map_of_mem h)
      have e : cutI (y :: l) x.id = y :: cutI l x.id := by
        unfold cutI
        rw [List.filter_cons_of_pos (by simpa using hne)]
      rw [e]
      exact ((cut_perm hn.2 h).cons y).trans (List.Perm.swap _ _ _)
theorem cut_len {l : List It} (hn : (l.map It.id).Nodup) {id : Int} : (cutI l id).length = if (gA l id).isSome then l.length - 1 else l.length := by
  cases hg : gA l id with
  | none => rw [cut_no (gA_none hg)]; rfl
  | some x =>
    have h2 : (findA l id).2 = true := by rw [← gA_some, hg]; rfl
    have h3 : ∃ y ∈ l, y.id = id := by
      refine Classical.byContradiction fun hc => ?_
      have : ∀ y ∈ l, y.id ≠ id := fun y hy e => hc ⟨y, hy, e⟩
      have e := gA_cut l id
      rw [cut_no this] at e
      rw [e, updG_same] at hg
      cases hg
    obtain ⟨y, hy, rfl⟩ := h3
    have := (cut_perm hn hy).length_eq
    simp only [List.length_cons] at this
    simp only [Option.isSome_some, if_true]
    omega
theorem put_perm_new {S : List Th} {x : Th} (h : ∀ y ∈ S, y.id ≠ x.id) : (putT S x).Perm (x :: S) := by
  unfold putT
  rw [dropT_no h]
  exact insT_perm x S

/-! ### A queue's two heaps -/
structure QOk (n r : Int) (l lf lg : List It) (Sf Sg : List Th) : Prop where
  hn : 0 ≤ n ∧ n ≤ 2147483647
  hr : 0 ≤ r ∧ r ≤ 1048576
  ids : (l.map It.id).Nodup
  ok : ∀ x ∈ l, okI n x
  perm : l.Perm (lf ++ lg)
  full : ∀ x ∈ lf, ofA x n r = 1048575
  pf : Sf.Perm (lf.map thF)
  pg : Sg.Perm (lg.map (thG r))
  sf : srtT Sf
  sg : srtT Sg
section
variable {n r : Int} {l lf lg : List It} {Sf Sg : List Th}
theorem QOk.nil (hn : 0 ≤ n ∧ n ≤ 2147483647) (hr : 0 ≤ r ∧ r ≤ 1048576) : QOk n r [] [] [] [] [] :=
  ⟨hn, hr, by simp, by simp, by simp, by simp, by simp, by simp, srtT_nil, srtT_nil⟩
theorem QOk.okf (h : QOk n r l lf lg Sf Sg) : ∀ x ∈ lf, okI n x := fun x hx => h.ok x (h.perm.mem_iff.2 (List.mem_append_left _ hx))
theorem QOk.okg (h : QOk n r l lf lg Sf Sg) : ∀ x ∈ lg, okI n x := fun x hx => h.ok x (h.perm.mem_iff.2 (List.mem_append_right _ hx))
theorem QOk.ids2 (h : QOk n r l lf lg Sf Sg) : ((lf ++ lg).map It.id).Nodup := ((h.perm.map It.id).nodup_iff).1 h.ids
theorem QOk.idsg (h : QOk n r l lf lg Sf Sg) : (lg.map It.id).Nodup := by
  have := h.ids2
  rw [List.map_append, List.nodup_append] at this
  exact this.2.1
theorem QOk.apart (h : QOk n r l lf lg Sf Sg) : ∀ x ∈ lf, ∀ y ∈ lg, x.id ≠ y.id := fun x hx y hy => by
  have := h.ids2
  rw [List.map_append, List.nodup_append] at this
  exact this.2.2 _ (List.mem_map_of_mem hx) _ (List.mem_map_of_mem hy)
theorem QOk.len (h : QOk n r l lf lg Sf Sg) : Sf.length + Sg.length = l.length := by
  have h1 := h.perm.length_eq
  have h2 := h.pf.length_eq
  have h3 := h.pg.length_eq
  rw [List.length_append] at h1
  rw [List.length_map] at h2 h3
  omega
/-- the list, where what is left is not full -/
theorem QOk.list (h : QOk n r l lf lg Sf Sg) (hg : ∀ x ∈ lg, ofA x n r < 1048575) : idsT Sf ++ idsT Sg = listA ⟨r, n, l⟩ := by
  let sh : Th → Th := fun t => ⟨t.id, t.key + r * n, t.seq⟩
  have e1 : lf.map thF = lf.map (thA n r) := List.map_congr_left fun x hx => by
    unfold thF thA
    rw [h.full x hx]
  have e2 : (lg.map (thG r)).map sh = lg.map (thA n r) := by
    rw [List.map_map]
    refine List.map_congr_left fun x hx => ?_
    have h1 := of_key h.hn h.hr (h.okg x hx)
    have h2 := hg x hx
    show (⟨x.id, keyA r x + r * n, x.seq⟩ : Th) = ⟨x.id, ofA x n r, x.seq⟩
    congr 1
    omega
  have hp : (Sf ++ Sg.map sh).Perm ((ordA l n r).map (thA n r)) := by
    have h1 : (Sf ++ Sg.map sh).Perm ((lf ++ lg).map (thA n r)) := by
      rw [List.map_append, ← e1, ← e2]
      exact h.pf.append (h.pg.map sh)
    exact h1.trans (((h.perm.symm).trans (ordA_perm l n r).symm).map _)
  have hs : srtT (Sf ++ Sg.map sh) := by
    unfold srtT
    rw [List.pairwise_append]
    refine ⟨h.sf, ?_, fun a ha b hb => ?_⟩
    · rw [List.pairwise_map]
      refine h.sg.imp fun {a b} hab => ?_
      rw [ahead_iff] at hab ⊢
      show b.key + r * n < a.key + r * n ∨ (a.key + r * n = b.key + r * n ∧ _)
      generalize r * n = z
      rcases hab with h1 | ⟨h1, h2⟩
      · exact .inl (by omega)
      · exact .inr ⟨by omega, h2⟩
    · have h1 : b ∈ lg.map (thA n r) := by
        rw [← e2]
        exact ((h.pg.map sh).mem_iff).1 hb
      have h2 : a ∈ lf.map thF := (h.pf.mem_iff).1 ha
      obtain ⟨x, hx, rfl⟩ := List.mem_map.1 h1
      obtain ⟨y, hy, rfl⟩ := List.mem_map.1 h2
      rw [ahead_iff]
      exact .inl (hg x hx)
  have he := srtT_eq hs (ordA_srt n r h.ids) hp
  have h3 := congrArg (List.map Th.id) he
  rw [List.map_append, List.map_map, List.map_map] at h3
  exact h3
/-- time goes on -/
theorem QOk.to (h : QOk n r l lf lg Sf Sg) {m : Int} (h1 : n ≤ m) (h2 : m ≤ 2147483647) : QOk m r l lf lg Sf Sg :=
  ⟨⟨by have := h.hn; omega, h2⟩, h.hr, h.ids, fun x hx => ⟨(h.ok x hx).1, ⟨(h.ok x hx).2.1.1, Int.le_trans (h.ok x hx).2.1.2 h1⟩, (h.ok x hx).2.2⟩, h.perm, fun x hx => by
    have h3 := h.full x hx
    have h4 := ofA_mono x r h1
    have h5 := ofA_bd x m r
    omega, h.pf, h.pg, h.sf, h.sg⟩
theorem QOk.put (h : QOk n r l lf lg Sf Sg) {x : It} (hx : okI n x) (hno : gA l x.id = none) : QOk n r (l ++ [x]) lf (lg ++ [x]) Sf (putT Sg (thG r x)) := by
  have hn := gA_none hno
  refine ⟨h.hn, h.hr, ?_, fun y hy => ?_, ?_, h.full, h.pf, ?_, h.sf, srtT_put h.sg _⟩
  · rw [List.map_append, List.nodup_append]
    refine ⟨h.ids, by simp, fun a ha b hb => ?_⟩
    obtain ⟨y, hy, rfl⟩ := List.mem_map.1 ha
    simp at hb
    subst hb
    exact hn y hy
  · rcases List.mem_append.1 hy with h1 | h1
    · exact h.ok y h1
    · simp at h1
      subst h1
      exact hx
  · rw [← List.append_assoc]
    exact h.perm.append_right [x]
  · refine (put_perm_new fun y hy => ?_).trans ?_
    · obtain ⟨z, hz, rfl⟩ := List.mem_map.1 ((h.pg.mem_iff).1 hy)
      exact hn z (h.perm.mem_iff.2 (List.mem_append_right _ hz))
    · rw [List.map_append]
      exact (h.pg.cons (thG r x)).trans (List.perm_append_singleton _ _).symm
theorem dropT_map (f : It → Th) (hf : ∀ x, (f x).id = x.id) (l : List It) (id : Int) : dropT (l.map f) id = (cutI l id).map f := by
  unfold dropT cutI
  rw [List.filter_map]
  congr 1
  exact List.filter_congr fun x _ => by simp [hf x]
theorem QOk.drop (h : QOk n r l lf lg Sf Sg) (id : Int) : QOk n r (cutI l id) (cutI lf id) (cutI lg id) (dropT Sf id) (dropT Sg id) := by
  refine ⟨h.hn, h.hr, h.ids.sublist ((List.filter_sublist).map _), fun x hx => h.ok x (List.mem_filter.1 hx).1, ?_, fun x hx => h.full x (List.mem_filter.1 hx).1, ?_, ?_, srtT_drop h.sf _, srtT_drop h.sg _⟩
  · have := h.perm.filter fun x => decide (x.id ≠ id)
    rw [List.filter_append] at this
    exact this
  · rw [← dropT_map thF (fun _ => rfl)]
    exact dropT_perm h.pf id
  · rw [← dropT_map (thG r) (fun _ => rfl)]
    exact dropT_perm h.pg id
theorem QOk.has (h : QOk n r l lf lg Sf Sg) (id : Int) : (hasT Sg id || hasT Sf id) = (gA l id).isSome := by
  have hT : ∀ {L : List It} {S : List Th} {f : It → Th}, (∀ x, (f x).id = x.id) → S.Perm (L.map f) → (hasT S id = true ↔ ∃ y ∈ L, y.id = id) := by
    intro L S f hf hp
    rw [hasT_iff]
    constructor
    · rintro ⟨y, hy, e⟩
      obtain ⟨x, hx, rfl⟩ := List.mem_map.1 (hp.mem_iff.1 hy)
      exact ⟨x, hx, by rw [← hf x]; exact e⟩
    · rintro ⟨x, hx, e⟩
      exact ⟨f x, hp.mem_iff.2 (List.mem_map_of_mem hx), by rw [hf x]; exact e⟩
  have h1 := hT (fun _ => rfl) h.pf
  have h2 := hT (fun _ => rfl) h.pg
  cases hg : gA l id with
  | none =>
    have hno := gA_none hg
    have e1 : hasT Sf id = false := by
      cases hh : hasT Sf id with
      | false => rfl
      | true =>
        obtain ⟨y, hy, e⟩ := h1.1 hh
        exact absurd e (hno y (h.perm.mem_iff.2 (List.mem_append_left _ hy)))
    have e2 : hasT Sg id = false := by
      cases hh : hasT Sg id with
      | false => rfl
      | true =>
        obtain ⟨y, hy, e⟩ := h2.1 hh
        exact absurd e (hno y (h.perm.mem_iff.2 (List.mem_append_right _ hy)))
    rw [e1, e2]
    rfl
  | some x =>
    have h3 : ∃ y ∈ l, y.id = id := by
      refine Classical.byContradiction fun hc => ?_
      have e := gA_cut l id
      rw [cut_no fun y hy e => hc ⟨y, hy, e⟩] at e
      rw [e, updG_same] at hg
      cases hg
    obtain ⟨y, hy, e⟩ := h3
    rcases List.mem_append.1 (h.perm.mem_iff.1 hy) with h4 | h4
    · rw [h1.2 ⟨y, h4, e⟩]
      simp
    · rw [h2.2 ⟨y, h4, e⟩]
      simp
/-- what the heap of those that grow begins with -/
theorem QOk.head (h : QOk n r l lf lg Sf Sg) {t : Th} {T : List Th} (e : Sg = t :: T) : ∃ x ∈ lg, thG r x = t := by
  have h1 : t ∈ lg.map (thG r) := h.pg.mem_iff.1 (by rw [e]; exact List.mem_cons_self)
  obtain ⟨x, hx, rfl⟩ := List.mem_map.1 h1
  exact ⟨x, hx, rfl⟩
theorem QOk.stop (h : QOk n r l lf lg Sf Sg) {x : It} {T : List Th} (e : Sg = thG r x :: T) (hx : x ∈ lg) (hf : ofA x n r ≠ 1048575) : ∀ y ∈ lg, ofA y n r < 1048575 := fun y hy => by
  have h1 : thG r y ∈ Sg := h.pg.mem_iff.2 (List.mem_map_of_mem hy)
  have h2 : keyA r y ≤ keyA r x := by
    rw [e] at h1
    have hs := h.sg
    rw [e] at hs
    rcases List.mem_cons.1 h1 with h3 | h3
    · have : keyA r y = keyA r x := congrArg Th.key h3
      omega
    · have h4 := (List.pairwise_cons.1 hs).1 _ h3
      rw [ahead_iff] at h4
      have h5 : (thG r y).key = keyA r y := rfl
      have h6 : (thG r x).key = keyA r x := rfl
      omega
  have h3 := of_key h.hn h.hr (h.okg x hx)
  have h4 := of_key h.hn h.hr (h.okg y hy)
  have h5 := ofA_bd x n r
  omega
theorem QOk.stop0 (h : QOk n r l lf lg Sf Sg) (e : Sg = []) : ∀ y ∈ lg, ofA y n r < 1048575 := fun y hy => by
  have h1 : thG r y ∈ Sg := h.pg.mem_iff.2 (List.mem_map_of_mem hy)
  rw [e] at h1
  cases h1
theorem QOk.step (h : QOk n r l lf lg Sf Sg) {x : It} (hx : x ∈ lg) (hf : ofA x n r = 1048575) : QOk n r l (lf ++ [x]) (cutI lg x.id) (putT Sf (thF x)) (dropT Sg x.id) := by
  refine ⟨h.hn, h.hr, h.ids, h.ok, ?_, fun y hy => ?_, ?_, ?_, srtT_put h.sf _, srtT_drop h.sg _⟩
  · refine h.perm.trans ?_
    rw [List.append_assoc]
    exact (cut_perm h.idsg hx).append_left lf
  · rcases List.mem_append.1 hy with h1 | h1
    · exact h.full y h1
    · simp at h1
      subst h1
      exact hf
  · refine (put_perm_new fun y hy => ?_).trans ?_
    · obtain ⟨z, hz, rfl⟩ := List.mem_map.1 ((h.pf.mem_iff).1 hy)
      exact h.apart z hz x hx
    · rw [List.map_append]
      exact (h.pf.cons (thF x)).trans (List.perm_append_singleton _ _).symm
  · rw [← dropT_map (thG r) (fun _ => rfl)]
    exact dropT_perm h.pg _
theorem QOk.gone (h : QOk n r l lf lg Sf Sg) {x : It} (hx : x ∈ lg) : (dropT Sg x.id).length < Sg.length := by
  have h1 := (dropT_perm h.pg x.id).length_eq
  rw [dropT_map (thG r) (fun _ => rfl), List.length_map] at h1
  have h2 := (cut_perm h.idsg hx).length_eq
  have h3 := h.pg.length_eq
  rw [List.length_map] at h3
  simp only [List.length_cons] at h2
  omega
theorem QOk.get (h : QOk n r l lf lg Sf Sg) {x : It} (hx : x ∈ lg) : gA l x.id = some x := gA_in h.ids (h.perm.mem_iff.2 (List.mem_append_right _ hx))
/-- what a growing item's key stays within -/
theorem keyA_bd {n r : Int} {x : It} (hn : 0 ≤ n ∧ n ≤ 2147483647) (hr : 0 ≤ r ∧ r ≤ 1048576) (hx : okI n x) : 0 ≤ r * x.since ∧ r * x.since ≤ 2251799812636672 :=
  mulA_bd hr ⟨hx.2.1.1, by have := hx.2.1.2; omega⟩
end
end Go.Proofs.Ytkhnkhkpjgemkaa
