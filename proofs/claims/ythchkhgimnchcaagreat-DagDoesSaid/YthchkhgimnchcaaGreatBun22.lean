/- Texts of this proof, joined: DgN; DgRA. -/
import Derived.Test.YthchkhgimnchcaaGreatBun21
import Derived.Deep.RegionHeld3
import Derived.Deep.AppendLies
import Derived.Deep.DeepCutAuto
/- Stage 24: what a batch that is admitted makes of the store, as mathematics. -/
namespace Go.Proofs.YthchkhgimnchcaaGreat
open Go.RowKit

theorem plK_stf {V T : List Tk} (h : V.map plK = T.map plK) : stO V = stO T := funext fun n => plK_stO h n
theorem bchk_congr {room : Int} {V T : List Tk} {L : List Sp} (h : V.map plK = T.map plK) : bchk room V L = bchk room T L := by
  have h1 := plK_stf h
  have h2 := plK_len h
  unfold bchk newB namedB namedI comeB comeI
  rw [h1, h2]
theorem freeO_congr {V T : List Tk} {L : List Sp} (h : V.map plK = T.map plK) : freeO V L = freeO T L := by
  have h1 := plK_stf h
  unfold freeO freeB overI
  rw [h1]

/-- by rising IDs, with one more -/
def insD (x : Tk) : List Tk → List Tk
  | [] => [x]
  | y :: t => if x.sp.id < y.sp.id then x :: y :: t else y :: insD x t
theorem insD_perm (x : Tk) : ∀ T : List Tk, (insD x T).Perm (x :: T)
  | [] => List.Perm.refl _
  | y :: t => by
    unfold insD
    split
    · exact List.Perm.refl _
    · exact ((insD_perm x t).cons y).trans (List.Perm.swap x y t)
theorem idsO_mem {L : List Sp} {n : Int} : n ∈ idsO L ↔ ∃ x ∈ L, x.id = n := List.mem_map
theorem ids_ins (x : Tk) (T : List Tk) {n : Int} : n ∈ idsK (insD x T) ↔ n = x.sp.id ∨ n ∈ idsK T := by
  unfold idsK
  rw [((insD_perm x T).map _).mem_iff, List.map_cons, List.mem_cons]
theorem idsO_inj : ∀ {L : List Sp}, (idsO L).Nodup → ∀ {x y : Sp}, x ∈ L → y ∈ L → x.id = y.id → x = y
  | [], _, _, _, hx, _, _ => by cases hx
  | a :: L, h, x, y, hx, hy, e => by
    have h2 : (a.id :: idsO L).Nodup := h
    rw [List.nodup_cons] at h2
    rcases List.mem_cons.1 hx with e1 | hx
    · rcases List.mem_cons.1 hy with e2 | hy
      · rw [e1, e2]
      · exact absurd (idsO_mem.2 ⟨y, hy, by rw [← e, e1]⟩) h2.1
    · rcases List.mem_cons.1 hy with e2 | hy
      · exact absurd (idsO_mem.2 ⟨x, hx, by rw [e, e2]⟩) h2.1
      · exact idsO_inj h2.2 hx hy e
theorem idx_take {l : List Int} {a : Int} {i : Nat} (h : a ∈ l.take i) : l.idxOf a < i := by
  have h1 : l.idxOf a = (l.take i).idxOf a := by
    conv => lhs; rw [← List.take_append_drop i l]
    rw [List.idxOf_append, if_pos h]
  have h2 := List.idxOf_lt_length_iff.2 h
  rw [List.length_take] at h2
  omega
theorem insD_ris (x : Tk) : ∀ T : List Tk, risL (idsK T) → x.sp.id ∉ idsK T → risL (idsK (insD x T))
  | [], _, _ => by unfold insD idsK risL; simp
  | y :: t, h, hx => by
    have h1 : (y.sp.id :: idsK t).Pairwise (· < ·) := h
    rw [List.pairwise_cons] at h1
    have hxt : x.sp.id ∉ idsK t := fun e => hx (List.mem_cons_of_mem _ e)
    have hxy : x.sp.id ≠ y.sp.id := fun e => hx (by rw [e]; exact List.mem_cons_self)
    unfold insD
    split
    · rename_i hlt
      refine List.pairwise_cons.2 ⟨fun n hn => ?_, h⟩
      rcases List.mem_cons.1 hn with e | hn
      · rw [e]; exact hlt
      · exact Int.lt_trans hlt (h1.1 n hn)
    · rename_i hlt
      refine List.pairwise_cons.2 ⟨fun n hn => ?_, insD_ris x t h1.2 hxt⟩
      have hn2 : n ∈ idsK (insD x t) := hn
      rw [ids_ins] at hn2
      rcases hn2 with e | hn3
      · rw [e]
        show y.sp.id < x.sp.id
        omega
      · exact h1.1 n hn3
/-- a new task's status -/
def nst (free : List Int) (x : Sp) : Int := if inL free x.id then 2 else 1
def admT (T : List Tk) (free : List Int) (L : List Sp) : List Tk := L.foldl (fun out x => insD (mkK x (nst free x)) out) T
theorem admT_take (T : List Tk) (free : List Int) (L : List Sp) (k : Nat) (hk : k < L.length) : admT T free (L.take (k + 1)) = insD (mkK L[k] (nst free L[k])) (admT T free (L.take k)) := by
  unfold admT
  rw [List.take_succ_eq_append_getElem hk, List.foldl_append]
  rfl
theorem admT_perm (free : List Int) : ∀ (L : List Sp) (T : List Tk), (admT T free L).Perm (T ++ L.map fun x => mkK x (nst free x))
  | [], T => by rw [List.map_nil, List.append_nil]; exact List.Perm.refl _
  | x :: L, T => by
    have e : admT T free (x :: L) = admT (insD (mkK x (nst free x)) T) free L := rfl
    rw [e]
    refine (admT_perm free L _).trans ?_
    rw [List.map_cons]
    exact ((insD_perm _ T).append_right _).trans (List.perm_middle.symm)
theorem admT_ris (free : List Int) : ∀ (L : List Sp) (T : List Tk), risL (idsK T) → (idsO L).Nodup → (∀ n ∈ idsO L, n ∉ idsK T) → risL (idsK (admT T free L))
  | [], _, h, _, _ => h
  | x :: L, T, h, hn, hd => by
    have e : admT T free (x :: L) = admT (insD (mkK x (nst free x)) T) free L := rfl
    rw [e]
    have hn2 : (x.id :: idsO L).Nodup := hn
    rw [List.nodup_cons] at hn2
    have hx : x.id ∉ idsK T := hd x.id List.mem_cons_self
    refine admT_ris free L _ (insD_ris (mkK x (nst free x)) T h hx) hn2.2 fun n hn3 hn4 => ?_
    rw [ids_ins] at hn4
    rcases hn4 with e2 | hn4
    · exact hn2.1 (by rw [← show n = x.id from e2]; exact hn3)
    · exact hd n (List.mem_cons_of_mem _ hn3) hn4
theorem admT_len (T : List Tk) (free : List Int) (L : List Sp) : (admT T free L).length = T.length + L.length := by
  rw [(admT_perm free L T).length_eq, List.length_append, List.length_map]
theorem admT_mem {T : List Tk} {free : List Int} {L : List Sp} {t : Tk} : t ∈ admT T free L ↔ t ∈ T ∨ ∃ x ∈ L, t = mkK x (nst free x) := by
  rw [(admT_perm free L T).mem_iff, List.mem_append, List.mem_map]
  exact ⟨fun h => h.imp id fun ⟨x, h1, h2⟩ => ⟨x, h1, h2.symm⟩, fun h => h.imp id fun ⟨x, h1, h2⟩ => ⟨x, h1, h2.symm⟩⟩

/-- those that come right behind, with a batch's -/
def nxA (nx : Int → List Int) (L : List Sp) : Int → List Int := fun n => nx n ++ idsO (L.filter fun x => inL x.aft n)
section
variable {room : Int} {T : List Tk} {L : List Sp} {nx : Int → List Int}
theorem OkB.old (h : OkB room T L) {n : Int} (hn : n ∈ idsO L) : n ∉ idsK T := by
  obtain ⟨x, hx, rfl⟩ := idsO_mem.1 hn
  have := h.new x hx
  unfold newB at this
  simp only [Bool.and_eq_true, Bool.not_eq_true'] at this
  intro hk
  rw [stO_mem.2 hk] at this
  exact absurd this.1 (by simp)
theorem OkB.free (h : OkB room T L) {x : Sp} (hx : x ∈ L) : x.id ∈ freeO T L ↔ freeB T x = true := by
  unfold freeO
  rw [idsO_mem]
  constructor
  · rintro ⟨y, hy, e⟩
    obtain ⟨h1, h2⟩ := List.mem_filter.1 hy
    have : y = x := idsO_inj h.nodup h1 hx e
    rw [← this]
    exact h2
  · intro hf
    exact ⟨x, List.mem_filter.2 ⟨hx, hf⟩, rfl⟩
theorem nst_cases (free : List Int) (x : Sp) : (nst free x = 2 ∧ x.id ∈ free) ∨ (nst free x = 1 ∧ x.id ∉ free) := by
  unfold nst
  by_cases h : x.id ∈ free
  · rw [if_pos (inL_iff.2 h)]; exact .inl ⟨rfl, h⟩
  · rw [if_neg (fun e => h (inL_iff.1 e))]; exact .inr ⟨rfl, h⟩
theorem Ed_adm {a n : Int} : Ed (admT T (freeO T L) L) a n ↔ Ed T a n ∨ ∃ x ∈ L, x.id = n ∧ a ∈ x.aft := by
  constructor
  · rintro ⟨t, ht, e, ha⟩
    rcases admT_mem.1 ht with h | ⟨x, hx, rfl⟩
    · exact .inl ⟨t, h, e, ha⟩
    · exact .inr ⟨x, hx, e, ha⟩
  · rintro (⟨t, ht, e, ha⟩ | ⟨x, hx, e, ha⟩)
    · exact ⟨t, admT_mem.2 (.inl ht), e, ha⟩
    · exact ⟨_, admT_mem.2 (.inr ⟨x, hx, rfl⟩), e, ha⟩
theorem ids_adm {free : List Int} {n : Int} : n ∈ idsK (admT T free L) ↔ n ∈ idsK T ∨ n ∈ idsO L := by
  rw [idsK_mem, idsK_mem, idsO_mem]
  constructor
  · rintro ⟨t, ht, e⟩
    rcases admT_mem.1 ht with h | ⟨x, hx, rfl⟩
    · exact .inl ⟨t, h, e⟩
    · exact .inr ⟨x, hx, e⟩
  · rintro (⟨t, ht, e⟩ | ⟨x, hx, e⟩)
    · exact ⟨t, admT_mem.2 (.inl ht), e⟩
    · exact ⟨_, admT_mem.2 (.inr ⟨x, hx, rfl⟩), e⟩
theorem Wf.adm (h : Wf T) (ho : OkB room T L) : Wf (admT T (freeO T L) L) := by
  have hr := admT_ris (freeO T L) L T h.ris ho.nodup fun n hn => ho.old hn
  have hn := hr.nodup
  have hold : ∀ n, n ∈ idsK T → sgT (admT T (freeO T L) L) n = sgT T n := fun n hnT => by
    obtain ⟨t, ht, rfl⟩ := idsK_mem.1 hnT
    rw [sg_at hn (admT_mem.2 (.inl ht)), sg_at h.nodup ht]
  have hnew : ∀ x ∈ L, sgT (admT T (freeO T L) L) x.id = nst (freeO T L) x := fun x hx => sg_at hn (t := mkK x (nst (freeO T L) x)) (admT_mem.2 (.inr ⟨x, hx, rfl⟩))
  have hfree : ∀ x ∈ L, nst (freeO T L) x = 2 → ∀ a ∈ x.aft, sgT T a = 4 := fun x hx hs a ha => by
    rcases nst_cases (freeO T L) x with h1 | h1
    · have := (ho.free hx).1 h1.2
      unfold freeB at this
      exact overI_iff.1 (List.all_eq_true.1 this a ha)
    · omega
  have hon : ∀ a, sgT T a = 4 → a ∈ idsK T := fun a ha => Classical.byContradiction fun e => by rw [sg_none e] at ha; omega
  refine ⟨hr, fun t ht => ?_, fun n hn1 => ?_, fun a n he => ?_, fun n hn1 hs => ?_, fun n hn1 hs a he => ?_, fun a n he hs => ?_, ?_⟩
  · rcases admT_mem.1 ht with h1 | ⟨x, hx, rfl⟩
    · exact h.chk t h1
    · exact ho.chk x hx
  · rcases ids_adm.1 hn1 with h1 | h1
    · rw [hold n h1]; exact h.sts n h1
    · obtain ⟨x, hx, rfl⟩ := idsO_mem.1 h1
      rw [hnew x hx]
      rcases nst_cases (freeO T L) x with h2 | h2
      · omega
      · omega
  · rcases Ed_adm.1 he with h1 | ⟨x, hx, _, ha⟩
    · exact ids_adm.2 (.inl (h.pre a n h1))
    · exact ids_adm.2 (ho.ids hx ha)
  · rcases ids_adm.1 hn1 with h1 | h1
    · rw [hold n h1] at hs
      obtain ⟨a, h2, h3⟩ := h.wait n h1 hs
      exact ⟨a, Ed_adm.2 (.inl h2), by rw [hold a (h.pre a n h2)]; exact h3⟩
    · obtain ⟨x, hx, rfl⟩ := idsO_mem.1 h1
      rw [hnew x hx] at hs
      rcases nst_cases (freeO T L) x with h2 | h2
      · omega
      have h3 : freeB T x = false := by
        cases e : freeB T x with
        | false => rfl
        | true => exact absurd ((ho.free hx).2 e) h2.2
      unfold freeB at h3
      rw [List.all_eq_false] at h3
      obtain ⟨a, ha, h4⟩ := h3
      refine ⟨a, Ed_adm.2 (.inr ⟨x, hx, rfl, ha⟩), ?_⟩
      rcases ho.ids hx ha with h5 | h5
      · rw [hold a h5]
        exact fun e => h4 (overI_iff.2 e)
      · obtain ⟨y, hy, rfl⟩ := idsO_mem.1 h5
        rw [hnew y hy]
        rcases nst_cases (freeO T L) y with h6 | h6
        · omega
        · omega
  · rcases ids_adm.1 hn1 with h1 | h1
    · rcases Ed_adm.1 he with h2 | ⟨x, hx, e, _⟩
      · rw [hold n h1] at hs
        rw [hold a (h.pre a n h2)]
        exact h.over n h1 hs a h2
      · exact absurd (e ▸ h1) (ho.old (idsO_mem.2 ⟨x, hx, rfl⟩))
    · rcases Ed_adm.1 he with h2 | ⟨x, hx, rfl, ha⟩
      · exact absurd (Ed_ids h2) (ho.old h1)
      · rw [hnew x hx] at hs
        have h3 := hfree x hx (by rcases nst_cases (freeO T L) x with h2 | h2 <;> omega) a ha
        rw [hold a (hon a h3)]
        exact h3
  · have haT : a ∈ idsK T := by
      rcases Ed_adm.1 he with h1 | ⟨x, hx, rfl, ha⟩
      · exact h.pre a n h1
      · rcases ho.ids hx ha with h2 | h2
        · exact h2
        · obtain ⟨y, hy, rfl⟩ := idsO_mem.1 h2
          rw [hnew y hy] at hs
          rcases nst_cases (freeO T L) y with h6 | h6 <;> omega
    rw [hold a haT] at hs
    rcases Ed_adm.1 he with h1 | ⟨x, hx, rfl, ha⟩
    · rw [hold n (Ed_ids h1)]
      exact h.drop a n h1 hs
    · have h2 := List.all_eq_true.1 (ho.come x hx) a ha
      unfold comeI at h2
      simp only [Bool.and_eq_true, Bool.not_eq_true', decide_eq_false_iff_not] at h2
      unfold sgT at hs
      omega
  · obtain ⟨rk, hrk⟩ := h.topo
    obtain ⟨M, hM⟩ : ∃ M : Nat, ∀ n ∈ idsK T, rk n < M := by
      have key : ∀ l : List Int, ∃ M : Nat, ∀ n ∈ l, rk n < M := by
        intro l
        induction l with
        | nil => exact ⟨0, fun n hn => by cases hn⟩
        | cons a l ih =>
          obtain ⟨M, hM⟩ := ih
          refine ⟨M + rk a + 1, fun n hn => ?_⟩
          rcases List.mem_cons.1 hn with rfl | hn
          · omega
          · have := hM n hn
            omega
      exact key _
    refine ⟨fun n => if n ∈ idsO L then M + (ordL (idsO L) (arcsO L)).idxOf n else rk n, fun a n he => ?_⟩
    show (if a ∈ idsO L then M + (ordL (idsO L) (arcsO L)).idxOf a else rk a) < (if n ∈ idsO L then M + (ordL (idsO L) (arcsO L)).idxOf n else rk n)
    rcases Ed_adm.1 he with h1 | ⟨x, hx, rfl, ha⟩
    · rw [if_neg (fun e => ho.old e (h.pre a n h1)), if_neg (fun e => ho.old e (Ed_ids h1))]
      exact hrk a n h1
    · have hxi : x.id ∈ idsO L := idsO_mem.2 ⟨x, hx, rfl⟩
      rw [if_pos hxi]
      by_cases haL : a ∈ idsO L
      · rw [if_pos haL]
        have hm : x.id ∈ ordL (idsO L) (arcsO L) := (whole_mem ho.whole).2 hxi
        have hi : (ordL (idsO L) (arcsO L)).idxOf x.id < (ordL (idsO L) (arcsO L)).length := List.idxOf_lt_length_iff.2 hm
        have hpre := ord_pre (a := ⟨a, x.id⟩) (arcsO_mem.2 ⟨x, hx, rfl, ha⟩) ((setL_mem _ _).2 haL) hi (List.getElem_idxOf hi).symm
        have h3 : (ordL (idsO L) (arcsO L)).idxOf a < (ordL (idsO L) (arcsO L)).idxOf x.id := idx_take hpre
        omega
      · rw [if_neg haL]
        have := hM a ((ho.ids hx ha).resolve_right haL)
        omega
theorem NxOk.adm (h : NxOk T nx) (ho : OkB room T L) : NxOk (admT T (freeO T L) L) (nxA nx L) := by
  refine ⟨fun n x => ?_, fun n => ?_⟩
  · unfold nxA
    rw [List.mem_append, h.1, Ed_adm, idsO_mem]
    refine or_congr Iff.rfl ⟨?_, ?_⟩
    · rintro ⟨y, hy, rfl⟩
      obtain ⟨h1, h2⟩ := List.mem_filter.1 hy
      exact ⟨y, h1, rfl, inL_iff.1 h2⟩
    · rintro ⟨y, hy, rfl, ha⟩
      exact ⟨y, List.mem_filter.2 ⟨hy, inL_iff.2 ha⟩, rfl⟩
  · unfold nxA
    have hsub : ∀ x ∈ idsO (L.filter fun x => inL x.aft n), x ∈ idsO L := fun x hx => by
      obtain ⟨y, hy, rfl⟩ := idsO_mem.1 hx
      exact idsO_mem.2 ⟨y, (List.mem_filter.1 hy).1, rfl⟩
    refine List.nodup_append.2 ⟨h.2 n, ?_, fun a ha b hb e => ?_⟩
    · exact ho.nodup.sublist ((List.filter_sublist (l := L)).map Sp.id)
    · subst e
      exact ho.old (hsub a hb) (Ed_ids ((h.1 n a).1 ha))
theorem Pl.adm (h : Pl T) (free : List Int) : Pl (admT T free L) := fun t ht => by
  rcases admT_mem.1 ht with h1 | ⟨x, hx, rfl⟩
  · exact h t h1
  · rfl
/-- all pending, then the free ones ready: the same tasks -/
theorem adm_same (ho : OkB room T L) : (setsT (T ++ L.map fun x => mkK x 1) (freeO T L) 2).Perm (admT T (freeO T L) L) := by
  refine List.Perm.trans (List.Perm.of_eq ?_) (admT_perm (freeO T L) L T).symm
  unfold setsT
  rw [List.map_append, List.map_map]
  have h1 : T.map (fun t => if inL (freeO T L) t.sp.id = true then { t with st := 2 } else t) = T.map id := List.map_congr_left fun t ht => by
    have : ¬ inL (freeO T L) t.sp.id = true := fun e => by
      have h2 := inL_iff.1 e
      unfold freeO at h2
      obtain ⟨y, hy, e2⟩ := idsO_mem.1 h2
      exact ho.old (idsO_mem.2 ⟨y, (List.mem_filter.1 hy).1, rfl⟩) (by rw [e2]; exact idsK_mem.2 ⟨t, ht, rfl⟩)
    rw [if_neg this]
    rfl
  rw [h1, List.map_id]
  congr 1
  refine List.map_congr_left fun x _ => ?_
  show (if inL (freeO T L) x.id = true then _ else _) = _
  unfold nst
  split <;> rfl
end
end Go.Proofs.YthchkhgimnchcaaGreat
/- Stage 24: the document's side of layer 23: Find, spec, Order. (wip/gen/gen24RA.py writes this text.) -/
namespace Go.Proofs.YthchkhgimnchcaaGreat
open Go.RowKit

theorem mf24 {α : Type} (f : α → Int) {l : List α} {k : Nat} (hk : k < l.length) {n : Int} (he : f l[k] = n) (hno : n ∉ (l.take k).map f) : plcL (l.map f) n = (k : Int) := by
  have h1 : k < (l.map f).length := by simpa using hk
  refine plc_found h1 (by simpa using he) ?_
  rw [← List.map_take]
  exact hno
theorem mn24 {α : Type} (f : α → Int) {l : List α} {k : Nat} (hk : k < l.length) {n : Int} (he : f l[k] ≠ n) (hno : n ∉ (l.take k).map f) : n ∉ (l.take (k + 1)).map f := by
  rw [List.take_succ_eq_append_getElem hk, List.map_append]
  intro hm
  rcases List.mem_append.1 hm with hm | hm
  · exact hno hm
  · exact he (List.mem_singleton.1 hm).symm
def tkId (t : Tk) : Int := t.sp.id
set_option maxHeartbeats 2000000 in
set_option maxRecDepth 100000 in
theorem refFind23_any (vl : Value) (Ls : List Tk) (id : Int) (W : World) (ha : RowsAt W 14 csTk vl Ls) (hl : Ls.length ≤ 1000000) :
    Calls Tryz.prog 17 #[vl, .int .i64 id] W fun e w' => e = .returned (.int .i64 (plcL (idsK Ls) id)) ∧ W = w' := by
  obtain ⟨a, c, rfl⟩ := RowsAt.form ha
  have HA := Lib.hid ha
  obtain ⟨r, hr⟩ : ∃ r, plcL (idsK Ls) id = r := ⟨_, rfl⟩
  rw [hr]
  have HR := Lib.hid hr
  clear hr ha
  go_enter Tryz.func17, Tryz.ntmps17
  go_wp2
  go_loopg [5] Ls.length (fun kx iv wr => ∃ k : Nat, k ≤ Ls.length ∧ Ls.length - k ≤ kx ∧ iv = .int .i64 k ∧ Hid (id ∉ (Ls.take k).map tkId) ∧ wr = W)
  case atStart => exact ⟨0, Nat.zero_le _, Nat.le_refl _, rfl, (by show id ∉ _; simp), rfl⟩
  case round =>
    obtain ⟨k, hk, hkx, rfl, hno, rfl⟩ := hrel
    by_cases hlt : k < Ls.length
    · obtain ⟨g, o, cc, e, hcc, _, hx⟩ := RowsAt.spot HA.out k hlt
      cases e
      have q0 : wr.cell? ⟨g, o + k * 14, none⟩ = some (.int .i64 (tkId (Ls[k]'hlt))) := hx 0 _ rfl
      clear hx hcc
      have j1 : (k : Int) < (Ls.length : Int) := by omega
      have j0 : (0 : Int) ≤ (k : Int) := by omega
      have j2 : (k : Int) ≤ 1000000 := by omega
      by_cases hx : tkId (Ls[k]'hlt) = id
      · have HP := Lib.hid ((mf24 tkId hlt hx hno.out).symm.trans HR.out)
        rw [hx] at q0
        clear hx hno
        go_wp2
        go_ret
        exact ⟨ret_i HP.out, rfl⟩
      · have HNO := Lib.hid (mn24 tkId hlt hx hno.out)
        have hx2 : (tkId (Ls[k]'hlt) == id) = false := beq_noI hx
        generalize tkId (Ls[k]'hlt) = x at *
        clear hx hno
        go_wp2
        go_roundg (Ls.length - (k + 1))
        case measure => omega
        case rel => exact ⟨k + 1, by omega, Nat.le_refl _, by go_num, HNO.out, rfl⟩
    · have hke : k = Ls.length := by omega
      subst hke
      have hno2 : id ∉ idsK Ls := by have := hno.out; rwa [List.take_length] at this
      have HP := Lib.hid ((plc_none hno2).symm.trans HR.out)
      clear hno hno2 hlt
      go_wp2
      go_ret
      exact ⟨ret_i HP.out, rfl⟩

set_option maxHeartbeats 2000000 in
set_option maxRecDepth 100000 in
theorem refSpec23_any (vl : Value) (Ls : List Sp) (id : Int) (W : World) (ha : RowsAt W 9 csSp vl Ls) (hl : Ls.length ≤ 1000000) :
    Calls Tryz.prog 47 #[vl, .int .i64 id] W fun e w' => e = .returned (.int .i64 (plcL (idsO Ls) id)) ∧ W = w' := by
  obtain ⟨a, c, rfl⟩ := RowsAt.form ha
  have HA := Lib.hid ha
  obtain ⟨r, hr⟩ : ∃ r, plcL (idsO Ls) id = r := ⟨_, rfl⟩
  rw [hr]
  have HR := Lib.hid hr
  clear hr ha
  go_enter Tryz.func47, Tryz.ntmps47
  go_wp2
  go_loopg [5] Ls.length (fun kx iv wr => ∃ k : Nat, k ≤ Ls.length ∧ Ls.length - k ≤ kx ∧ iv = .int .i64 k ∧ Hid (id ∉ (Ls.take k).map Sp.id) ∧ wr = W)
  case atStart => exact ⟨0, Nat.zero_le _, Nat.le_refl _, rfl, (by show id ∉ _; simp), rfl⟩
  case round =>
    obtain ⟨k, hk, hkx, rfl, hno, rfl⟩ := hrel
    by_cases hlt : k < Ls.length
    · obtain ⟨g, o, cc, e, hcc, _, hx⟩ := RowsAt.spot HA.out k hlt
      cases e
      have q0 : wr.cell? ⟨g, o + k * 9, none⟩ = some (.int .i64 (Sp.id (Ls[k]'hlt))) := hx 0 _ rfl
      clear hx hcc
      have j1 : (k : Int) < (Ls.length : Int) := by omega
      have j0 : (0 : Int) ≤ (k : Int) := by omega
      have j2 : (k : Int) ≤ 1000000 := by omega
      by_cases hx : Sp.id (Ls[k]'hlt) = id
      · have HP := Lib.hid ((mf24 Sp.id hlt hx hno.out).symm.trans HR.out)
        rw [hx] at q0
        clear hx hno
        go_wp2
        go_ret
        exact ⟨ret_i HP.out, rfl⟩
      · have HNO := Lib.hid (mn24 Sp.id hlt hx hno.out)
        have hx2 : (Sp.id (Ls[k]'hlt) == id) = false := beq_noI hx
        generalize Sp.id (Ls[k]'hlt) = x at *
        clear hx hno
        go_wp2
        go_roundg (Ls.length - (k + 1))
        case measure => omega
        case rel => exact ⟨k + 1, by omega, Nat.le_refl _, by go_num, HNO.out, rfl⟩
    · have hke : k = Ls.length := by omega
      subst hke
      have hno2 : id ∉ idsO Ls := by have := hno.out; rwa [List.take_length] at this
      have HP := Lib.hid ((plc_none hno2).symm.trans HR.out)
      clear hno hno2 hlt
      go_wp2
      go_ret
      exact ⟨ret_i HP.out, rfl⟩

set_option maxHeartbeats 16000000 in
set_option maxRecDepth 100000 in
theorem refOrder23_any (vl : Value) (L : List Sp) (w : World) (hl : SpsAt w vl L) (hll : L.length ≤ 80) (ha8 : ∀ x ∈ L, x.aft.length ≤ 8) :
    Calls Tryz.prog 48 #[vl] w fun e w' => ∃ v, e = .returned (.tuple #[v, .bool (wholeB L)]) ∧ Below w.heap.size w w' := by
  obtain ⟨a0, c0, rfl⟩ := hl.form
  have HL := Lib.hid hl
  have HA8 := Lib.hid ha8
  have harl := arcsO_len ha8
  have HAR := Lib.hid harl
  have l2 : (L.length : Int) ≤ 80 := by omega
  obtain ⟨i0, hi, hz0, hz1, hz2⟩ := info_parts info_arc
  clear hl ha8 harl
  go_enter Tryz.func48, Tryz.ntmps48
  go_wp2
  go_loopg [4, 5, 6] L.length (fun kx iv av kv ws => ∃ k : Nat, k ≤ L.length ∧ L.length - k ≤ kx ∧ kv = .int .i64 k ∧ Hid (OwnI ws w.heap.size iv (idsO (L.take k))) ∧ Hid (OwnR ws w.heap.size 84 2 csArc av (arcsO (L.take k))) ∧ Hid (Below w.heap.size w ws))
  case atStart => exact ⟨0, Nat.zero_le _, Nat.le_refl _, rfl, OwnR.nil _ _ _ _ _, OwnR.nil _ _ _ _ _, Below.refl _ _⟩
  case round =>
    obtain ⟨k, hk, hkx, rfl, HI, HA, HB⟩ := hrel
    obtain ⟨aT, cT, e⟩ := (OwnI.ints HI.out).form
    subst e
    obtain ⟨bT, dT, e⟩ := RowsAt.form (OwnR.rows csArc_len HA.out)
    subst e
    by_cases hlt : k < L.length
    · obtain ⟨g, o, cc, id, prio, sk, ge, fx, fy, tx, ty, a, c, l, he, e, hlc, p0', -, -, -, -, -, -, -, p8', hi8⟩ := HL.out.spot k hlt
      cases e
      have hgl : g < w.heap.size := by
        have h5 : (Value.slice (some ⟨g, o, none⟩) L.length c0).ownBlock = some g := rfl
        exact RowsAt.lt HL.out.1 (by omega) g h5
      have HPC := Lib.hid fun (w' : World) (hb : Below w.heap.size w w') => (show w'.cell? ⟨g, o + k * 9, none⟩ = some (.int .i64 id) ∧ w'.cell? ⟨g, o + k * 9 + 8, none⟩ = some (.slice a l.length c) from ⟨(hb.cell (p := ⟨g, o + k * 9, none⟩) hgl).trans p0', (hb.cell (p := ⟨g, o + k * 9 + 8, none⟩) hgl).trans p8'⟩)
      clear p0' p8'
      obtain ⟨p0, p8⟩ := HPC.out _ HB.out
      have HLT := Lib.hid (And.intro hlt hkx)
      have k0 : (0 : Int) ≤ (k : Int) := by omega
      have k1 : (k : Int) < (L.length : Int) := by omega
      have hin : idsO (L.take (k + 1)) = idsO (L.take k) ++ [id] := by rw [idsO_take L k hlt, he]
      have han : arcsO (L.take (k + 1)) = arcsO (L.take k) ++ l.map fun n => ⟨n, id⟩ := by rw [arcsO_take L k hlt, he]
      have hil : (idsO (L.take k)).length ≤ 80 := by rw [idsO_len, List.length_take]; omega
      have hl8 : l.length ≤ 8 := by have := HA8.out _ (List.getElem_mem hlt); rw [he] at this; exact this
      have hpre := arcsO_pre L k hlt
      rw [he] at hpre
      dsimp only at hpre
      have hsp : IntsAt w (.slice a l.length c) l := by have := HL.out.2 _ (List.getElem_mem hlt); rw [he] at this; exact this
      have HSP := Lib.hid hsp
      have HIN := Lib.hid hin
      have HAN := Lib.hid han
      have HPR := Lib.hid (And.intro hpre hl8)
      have HGL := Lib.hid hgl
      have l8 : (l.length : Int) ≤ 8 := by omega
      generalize idsO (L.take k) = I0 at *
      generalize arcsO (L.take k) = A0 at *
      clear hk hkx hlt hin han hl8 hpre hgl hsp hi8 he hlc
      go_upto_region 7 with (at_builtin; refine appI23 id HI.out HB.out.size (by omega) rfl _ _ rfl rfl rfl ?_; intro v6 w6 o6 b6 q6 n6; have HO6 := Lib.hid o6; have HB6 := Lib.hid (HB.out.trans b6); have HA6 := Lib.hid (HA.out.only23 q6 fun b h1 h2 => OwnR.unlike HA.out HI.out (by decide) b h1 h2); clear o6 b6 q6 n6)
      clear p0 p8 HI HA HB
      obtain ⟨p0, p8⟩ := HPC.out _ HB6.out
      have hzb := HB6.out.size
      go_wp2
      clear p0 p8
      go_loopg [5, 7] l.length (fun jx av jv ws => ∃ j : Nat, j ≤ l.length ∧ l.length - j ≤ jx ∧ jv = .int .i64 j ∧ Hid (OwnR ws w.heap.size 84 2 csArc av (A0 ++ (l.take j).map fun n => ⟨n, id⟩)) ∧ Hid (OwnI ws w.heap.size v6 (I0 ++ [id])) ∧ Hid (Below w.heap.size w ws))
      case atStart => exact ⟨0, Nat.zero_le _, Nat.le_refl _, rfl, by rw [List.take_zero, List.map_nil, List.append_nil]; exact HA6.out, HO6.out, HB6.out⟩
      case round =>
        clear HA6 HO6 HB6 hzb
        obtain ⟨j, hj, hjx, rfl, HA7, HI7, HB7⟩ := hrel
        obtain ⟨p0, p8⟩ := HPC.out _ HB7.out
        by_cases hjl : j < l.length
        · obtain ⟨g5, o5, c5, e, -, hg5, q0'⟩ := HSP.out.spot j hjl
          simp only [Value.slice.injEq] at e
          obtain ⟨rfl, -, rfl⟩ := e
          have q0 := (HB7.out.cell (p := ⟨g5, o5 + j, none⟩) hg5).trans q0'
          have HJT := Lib.hid (And.intro hjl hjx)
          have j0 : (0 : Int) ≤ (j : Int) := by omega
          have j1 : (j : Int) < (l.length : Int) := by omega
          have hnx : (l.take (j + 1)).map (fun n => (⟨n, id⟩ : Arc16)) = (l.take j).map (fun n => (⟨n, id⟩ : Arc16)) ++ [⟨l[j], id⟩] := by
            rw [List.take_succ_eq_append_getElem hjl, List.map_append]
            rfl
          have hal : (A0 ++ (l.take j).map fun n => (⟨n, id⟩ : Arc16)).length ≤ 1000 := by
            rw [List.length_append, List.length_map, List.length_take]
            have := HPR.out.1
            have := HAR.out
            omega
          generalize l[j]'hjl = y at *
          have hnx2 : A0 ++ (l.take (j + 1)).map (fun n => (⟨n, id⟩ : Arc16)) = (A0 ++ (l.take j).map (fun n => (⟨n, id⟩ : Arc16))) ++ [⟨y, id⟩] := by rw [hnx, List.append_assoc]
          generalize A0 ++ (l.take j).map (fun n => (⟨n, id⟩ : Arc16)) = A7 at *
          obtain ⟨ra, rc, e⟩ := RowsAt.form (OwnR.rows csArc_len HA7.out)
          subst e
          have hrb := World.ownsRow.lt HA7.out
          have HNX := Lib.hid hnx2
          have hgl := HGL.out
          have n1 : some g ≠ (Value.slice ra A7.length rc).ownBlock := fun e => by have := (hrb g e.symm).1; omega
          have n2 : some g5 ≠ (Value.slice ra A7.length rc).ownBlock := fun e => by have := (hrb g5 e.symm).1; omega
          have lg : g < wr.heap.size := Nat.lt_of_lt_of_le hgl HB7.out.size
          have lg5 : g5 < wr.heap.size := Nat.lt_of_lt_of_le hg5 HB7.out.size
          have hzz : w.heap.size ≤ wr.heap.size := HB7.out.size
          have HRB := Lib.hid hrb
          clear hrb hnx hnx2 hjl hjx hj q0' hg5 hgl
          go_upto_region 10 with fail
          go_region_held3 (fun w' => w'.cell? ⟨g, o + k * 9, none⟩ = some (.int .i64 id) ∧ w'.cell? ⟨g, o + k * 9 + 8, none⟩ = some (.slice (some ⟨g5, o5, none⟩) l.length c) ∧ w'.cell? ⟨g5, o5 + j, none⟩ = some (.int .i64 y))
            (first
              | (go_split_ands; exact ⟨by assumption, by assumption, by assumption⟩)
              | (go_split_ands; exact ⟨by go_keep, by go_keep, by go_keep⟩)
              | (go_split_ands
                 exact ⟨(hg9.cell_far _ (by simp; omega) n1).trans (by assumption), (hg9.cell_far _ (by simp; omega) n1).trans (by assumption), (hg9.cell_far _ (by simp; omega) n2).trans (by assumption)⟩))
            ((refine step_append_lies _ (by rfl) _ _ _ (by rfl) w.heap.size 84 i0 (.agg #[.int .i64 0, .int .i64 0]) 2 16 Tryz.underlying82 hi hz0 hz1 hz2 rfl (by omega) (.slice ra A7.length rc) A7.length (flats csArc A7) (by rfl) ((World.ownsRow.alloc HA7.out _).drew)
                ⟨wr.heap.size, 0, none⟩ 1 1 [.int .i64 y, .int .i64 id] (by rfl) (by rfl) (World.news_of_block (cs := #[.int .i64 y, .int .i64 id]) (t := 84) (fr := (0, 0)) (heap_alloc_new wr _)) (by simp [Value.oneCell'])
                (by omega) (by unfold maxLen; omega) (by omega) (by simp; omega) (wr.heap.size + 1) (by simp) ?_
              intro gg cap w9 ho9 hg9 hat9 hlt9))
          all_goals (
            have k8 := ((Below.refl wr.heap.size wr).alloc (Nat.le_refl _) (.cells #[.int .i64 y, .int .i64 id] 84)).drew
            have hO9 := OwnR.snoc (x := (⟨y, id⟩ : Arc16)) (l := A7) ho9 rfl rfl
            have hI9 := OwnR.only23 (OwnR.kept HI7.out k8) (Only.grown hg9 fun _ e => e) (fun b h1 h2 => OwnR.unlike HA7.out HI7.out (by decide) b h2 h1)
            have hB9 := (HB7.out.trans (k8.mono HB7.out.size)).grown hg9 (HB7.out.trans (k8.mono HB7.out.size)).size (fun b e => (HRB.out b e).1)
            rw [← HNX.out] at hO9
            have HO9 := Lib.hid hO9
            have HI9 := Lib.hid hI9
            have HB9 := Lib.hid hB9
            clear hO9 hI9 hB9 k8 ho9 hg9 hat9 hlt9 p0 p8 q0 n1 n2 lg lg5 hzz
            go_wp2
            go_roundg (l.length - (j + 1))
            case measure => have := HJT.out; omega
            case rel => exact ⟨j + 1, by have := HJT.out; omega, Nat.le_refl _, by go_num, HO9.out, HI9.out, HB9.out⟩)
        · have hje : j = l.length := by omega
          subst hje
          have hA := HA7.out
          rw [List.take_length, ← HAN.out] at hA
          have hI := HI7.out
          rw [← HIN.out] at hI
          have HAE := Lib.hid hA
          have HIE := Lib.hid hI
          clear hA hI hjl hj hjx HA7 HI7
          go_wp2
          go_roundg (L.length - (k + 1))
          case measure => have := HLT.out; omega
          case rel => exact ⟨k + 1, by have := HLT.out; omega, Nat.le_refl _, by go_num, HIE.out, HAE.out, HB7.out⟩
    · have hke : k = L.length := by omega
      subst hke
      have ho := HI.out
      have hA := HA.out
      rw [List.take_length] at ho hA
      have hil : (idsO L).length ≤ 80 := by rw [idsO_len]; omega
      have GO := Lib.hid (refOrder_any _ _ (idsO L) (arcsO L) wr (OwnI.ints ho) (OwnR.rows csArc_len hA) (by omega) (by have := HAR.out; omega))
      clear ho hA hil hlt hk hkx hi hz0 hz1 hz2
      go_wp2_with (go_at_call 65; (with_reducible refine GO.out.mono ?_); rintro e w3 ⟨v3, rfl, ho, hb⟩; obtain ⟨a3, c3, e⟩ := (OwnI.ints ho).form; subst e; have HB3 := Lib.hid (HB.out.trans (hb.mono HB.out.size)); clear ho hb)
      exact bodyPost_ret (v := .tuple #[.slice a3 (ordL (idsO L) (arcsO L)).length c3, .bool (wholeB L)]) (by simp [results, Tryz.results48, go_sem, wholeB]) rfl ⟨_, rfl, HB3.out⟩
end Go.Proofs.YthchkhgimnchcaaGreat
