/- Texts of this proof, joined: AisLoadM; WaM; XAt; WaRefA; WaRefB; AisLoadA; WaRefC. -/
import Derived.Test.YtjmgokjljmmmgaaBun7
import Derived.Deep.DeepCutAuto
/- Stage 20: Load: the table of any locks and leases as mathematics; when there is one. -/
namespace Go.Proofs.Ytjmgokjljmmmgaa
open Go.RowKit

/-- a lease in a list -/
structure Le where
  token : Int
  task : Int
  worker : Int
  unit : Int
  due : Int
  got : Int
  a : Option Addr
  c : Nat
  want : List Int
deriving Inhabited
abbrev Le.v (x : Le) : Value := .slice x.a x.want.length x.c
def csLe (x : Le) : List Value := [.int .i64 x.token, .int .i64 x.task, .int .i64 x.worker, .int .i64 x.unit, .int .i64 x.due, .int .i64 x.got, x.v]
theorem csLe_len (x : Le) : (csLe x).length = 7 := rfl
structure LeasesAt (w : World) (v : Value) (l : List Le) : Prop where
  rows : RowsAt w 7 csLe v l
  each : ∀ x ∈ l, IntsAt w x.v x.want
/-- who holds an aisle, who waits for it -/
def hdL (Ls : List Lr) (id : Int) : Int := ((Ls.find? fun x => x.id == id).map Lr.holder).getD 0
def wtL (Ls : List Lr) (id : Int) : List Int := ((Ls.find? fun x => x.id == id).map Lr.wait).getD []
def goL (Xs : List Le) (t : Int) : Nat := ((Xs.find? fun x => x.token == t).map fun x => x.got.toNat).getD 0
def waL (Xs : List Le) (t : Int) : List Int := ((Xs.find? fun x => x.token == t).map Le.want).getD []
def mkT (Ls : List Lr) (Xs : List Le) : Tb := ⟨idsL Ls, hdL Ls, wtL Ls, Xs.map Le.token, goL Xs, waL Xs⟩
/-- leases that a table may have, behind the token last -/
def lesB (ids : List Int) : Int → List Le → Bool
  | _, [] => true
  | last, x :: r => decide (last < x.token) && (rightB x.want && (decide (0 ≤ x.got) && (decide (x.got ≤ (x.want.length : Int)) && (x.want.all (fun a => inL ids a) && lesB ids x.token r))))
/-- does a token hold, and wait for, just what it must -/
def seatB (T : Tb) (t : Int) : Bool := ((T.want t).take (T.got t)).all (fun id => T.hd id == t) && (decide (T.got t = (T.want t).length) || inL (T.wt ((T.want t)[T.got t]?.getD 0)) t)
/-- has a lock just those that hold it, and wait for it -/
def holdB (T : Tb) (id h : Int) : Bool := (h == 0) || (inL T.toks h && inL ((T.want h).take (T.got h)) id)
def waitB (T : Tb) (id : Int) : List Int → List Int → Bool
  | _, [] => true
  | pre, t :: r => inL T.toks t && (!inL pre t && (decide (T.nx t = some id) && waitB T id (pre ++ [t]) r))
def lockB (T : Tb) (l : Lr) : Bool := holdB T l.id l.holder && waitB T l.id [] l.wait
def loadB (Ls : List Lr) (Xs : List Le) : Bool := (mayB (idsL Ls) && decide (Xs.length ≤ 64)) && (lesB (idsL Ls) 0 Xs && (((Xs.map Le.token).all fun t => seatB (mkT Ls Xs) t) && Ls.all fun l => lockB (mkT Ls Xs) l))

theorem inL_iff20 {l : List Int} {n : Int} : inL l n = true ↔ n ∈ l := by unfold inL; exact decide_eq_true_iff
theorem find_tok {Xs : List Le} (hn : (Xs.map Le.token).Nodup) {x : Le} (hx : x ∈ Xs) : Xs.find? (fun y => y.token == x.token) = some x := by
  induction Xs with
  | nil => cases hx
  | cons y r ih =>
    rw [List.map_cons, List.nodup_cons] at hn
    by_cases e : y.token = x.token
    · rcases List.mem_cons.1 hx with rfl | hx
      · simp
      · exact (hn.1 (e ▸ List.mem_map_of_mem hx)).elim
    · rcases List.mem_cons.1 hx with rfl | hx
      · exact (e rfl).elim
      · rw [List.find?_cons_of_neg (by simpa using e)]
        exact ih hn.2 hx
theorem find_id {Ls : List Lr} (hn : (idsL Ls).Nodup) {x : Lr} (hx : x ∈ Ls) : Ls.find? (fun y => y.id == x.id) = some x := by
  induction Ls with
  | nil => cases hx
  | cons y r ih =>
    unfold idsL at hn ih
    rw [List.map_cons, List.nodup_cons] at hn
    by_cases e : y.id = x.id
    · rcases List.mem_cons.1 hx with rfl | hx
      · simp
      · exact (hn.1 (e ▸ List.mem_map_of_mem hx)).elim
    · rcases List.mem_cons.1 hx with rfl | hx
      · exact (e rfl).elim
      · rw [List.find?_cons_of_neg (by simpa using e)]
        exact ih hn.2 hx
theorem mk_seat {Ls : List Lr} {Xs : List Le} (hn : (Xs.map Le.token).Nodup) {x : Le} (hx : x ∈ Xs) : (mkT Ls Xs).got x.token = x.got.toNat ∧ (mkT Ls Xs).want x.token = x.want := by
  have h := find_tok hn hx
  refine ⟨?_, ?_⟩
  · show goL Xs x.token = _
    unfold goL
    rw [h]; rfl
  · show waL Xs x.token = _
    unfold waL
    rw [h]; rfl
theorem mk_lock {Ls : List Lr} {Xs : List Le} (hn : (idsL Ls).Nodup) {x : Lr} (hx : x ∈ Ls) : (mkT Ls Xs).hd x.id = x.holder ∧ (mkT Ls Xs).wt x.id = x.wait := by
  have h := find_id hn hx
  refine ⟨?_, ?_⟩
  · show hdL Ls x.id = _
    unfold hdL
    rw [h]; rfl
  · show wtL Ls x.id = _
    unfold wtL
    rw [h]; rfl
theorem mk_lks {Ls : List Lr} {Xs : List Le} (hn : (idsL Ls).Nodup) : Ls.map lkp = (mkT Ls Xs).lks := by
  unfold Tb.lks
  show _ = (Ls.map Lr.id).map _
  rw [List.map_map]
  refine List.map_congr_left fun x hx => ?_
  have h := mk_lock (Xs := Xs) hn hx
  simp only [lkp, Function.comp_apply, h.1, h.2]
theorem lesB_cons {ids : List Int} {last : Int} {x : Le} {r : List Le} : lesB ids last (x :: r) = true ↔ last < x.token ∧ rightB x.want = true ∧ 0 ≤ x.got ∧ x.got ≤ (x.want.length : Int) ∧ (∀ a ∈ x.want, a ∈ ids) ∧ lesB ids x.token r = true := by
  show (decide (last < x.token) && (rightB x.want && (decide (0 ≤ x.got) && (decide (x.got ≤ (x.want.length : Int)) && (x.want.all (fun a => inL ids a) && lesB ids x.token r))))) = true ↔ _
  simp only [Bool.and_eq_true, decide_eq_true_eq, List.all_eq_true, inL_iff20]
theorem lesB_ris {ids : List Int} : ∀ (Xs : List Le) (last : Int), lesB ids last Xs = true → (∀ t ∈ Xs.map Le.token, last < t) ∧ risL (Xs.map Le.token)
  | [], _, _ => ⟨fun _ h => (by cases h), List.Pairwise.nil⟩
  | x :: r, last, h => by
    obtain ⟨h1, _, _, _, _, h6⟩ := lesB_cons.1 h
    obtain ⟨i1, i2⟩ := lesB_ris r x.token h6
    refine ⟨fun t ht => ?_, ?_⟩
    · rw [List.map_cons] at ht
      rcases List.mem_cons.1 ht with rfl | ht
      · exact h1
      · have := i1 t ht; omega
    · rw [List.map_cons]
      exact List.pairwise_cons.2 ⟨i1, i2⟩
theorem lesB_each {ids : List Int} : ∀ (Xs : List Le) (last : Int), lesB ids last Xs = true → ∀ x ∈ Xs, rightB x.want = true ∧ 0 ≤ x.got ∧ x.got ≤ (x.want.length : Int) ∧ ∀ a ∈ x.want, a ∈ ids
  | [], _, _, _, h => (by cases h)
  | x :: r, last, h, y, hy => by
    obtain ⟨_, h2, h3, h4, h5, h6⟩ := lesB_cons.1 h
    rcases List.mem_cons.1 hy with rfl | hy
    · exact ⟨h2, h3, h4, h5⟩
    · exact lesB_each r _ h6 y hy
theorem waitB_iff {T : Tb} {id : Int} : ∀ (L pre : List Int), waitB T id pre L = true ↔ (∀ t ∈ L, t ∈ T.toks ∧ t ∉ pre ∧ T.nx t = some id) ∧ L.Nodup
  | [], pre => by simp [waitB]
  | t :: r, pre => by
    show (inL T.toks t && (!inL pre t && (decide (T.nx t = some id) && waitB T id (pre ++ [t]) r))) = true ↔ _
    simp only [Bool.and_eq_true, Bool.not_eq_true', decide_eq_true_eq, inL_iff20, waitB_iff r (pre ++ [t]), List.nodup_cons]
    have hpre : inL pre t = false ↔ t ∉ pre := by unfold inL; exact decide_eq_false_iff_not
    rw [hpre]
    constructor
    · rintro ⟨h1, h2, h3, h4, h5⟩
      refine ⟨fun u hu => ?_, fun hu => ?_, h5⟩
      · rcases List.mem_cons.1 hu with rfl | hu
        · exact ⟨h1, h2, h3⟩
        · obtain ⟨k1, k2, k3⟩ := h4 u hu
          exact ⟨k1, fun h => k2 (by simp [h]), k3⟩
      · exact (h4 t hu).2.1 (by simp)
    · rintro ⟨h1, h2, h3⟩
      have ht := h1 t (by simp)
      refine ⟨ht.1, ht.2.1, ht.2.2, fun u hu => ?_, h3⟩
      obtain ⟨k1, k2, k3⟩ := h1 u (by simp [hu])
      refine ⟨k1, fun h => ?_, k3⟩
      rcases List.mem_append.1 h with h | h
      · exact k2 h
      · rw [List.mem_singleton.1 h] at hu
        exact h2 hu
theorem waitB_snoc {T : Tb} {id t : Int} : ∀ (L pre : List Int), waitB T id pre (L ++ [t]) = (waitB T id pre L && (inL T.toks t && (!inL (pre ++ L) t && decide (T.nx t = some id))))
  | [], pre => by simp [waitB]
  | u :: r, pre => by
    show (inL T.toks u && (!inL pre u && (decide (T.nx u = some id) && waitB T id (pre ++ [u]) (r ++ [t])))) = ((inL T.toks u && (!inL pre u && (decide (T.nx u = some id) && waitB T id (pre ++ [u]) r))) && _)
    rw [waitB_snoc r (pre ++ [u])]
    simp only [List.append_assoc, List.cons_append, List.nil_append, Bool.and_assoc]
theorem waitB_more {T : Tb} {id : Int} : ∀ (L R pre : List Int), waitB T id pre L = false → waitB T id pre (L ++ R) = false
  | [], R, pre, h => by simp [waitB] at h
  | u :: r, R, pre, h => by
    have h2 : (inL T.toks u && (!inL pre u && (decide (T.nx u = some id) && waitB T id (pre ++ [u]) r))) = false := h
    show (inL T.toks u && (!inL pre u && (decide (T.nx u = some id) && waitB T id (pre ++ [u]) (r ++ R)))) = false
    cases h3 : waitB T id (pre ++ [u]) r with
    | false => rw [waitB_more r R _ h3]; simp
    | true =>
      rw [h3] at h2
      simp only [Bool.and_true] at h2
      cases h4 : inL T.toks u
      · rfl
      · rw [h4] at h2
        cases h5 : inL pre u
        · rw [h5] at h2
          simp only [Bool.not_false, Bool.true_and] at h2
          rw [h2]; rfl
        · rfl
/-- what may be loaded is right -/
theorem load_ok {Ls : List Lr} {Xs : List Le} (h : loadB Ls Xs = true) (hr : ∀ x ∈ Xs, In18 x.token) : (mkT Ls Xs).Ok := by
  unfold loadB at h
  simp only [Bool.and_eq_true, decide_eq_true_eq, List.all_eq_true] at h
  obtain ⟨⟨hm, h64⟩, hle, hse, hlo⟩ := h
  have hidn : (idsL Ls).Nodup := ris_nodup (may_ris hm)
  obtain ⟨hlt, hris⟩ := lesB_ris Xs 0 hle
  have htn := ris_nodup hris
  have heach := lesB_each Xs 0 hle
  have hseat : ∀ t ∈ Xs.map Le.token, ∃ x ∈ Xs, x.token = t ∧ (mkT Ls Xs).got t = x.got.toNat ∧ (mkT Ls Xs).want t = x.want := fun t ht => by
    obtain ⟨x, hx, rfl⟩ := List.mem_map.1 ht
    exact ⟨x, hx, rfl, mk_seat htn hx⟩
  have hlock : ∀ id ∈ idsL Ls, ∃ x ∈ Ls, x.id = id ∧ (mkT Ls Xs).hd id = x.holder ∧ (mkT Ls Xs).wt id = x.wait := fun id hid => by
    obtain ⟨x, hx, rfl⟩ := List.mem_map.1 hid
    exact ⟨x, hx, rfl, mk_lock hidn hx⟩
  have hwin : ∀ t ∈ Xs.map Le.token, ∀ a ∈ (mkT Ls Xs).want t, a ∈ idsL Ls := fun t ht a ha => by
    obtain ⟨x, hx, _, _, h2⟩ := hseat t ht
    rw [h2] at ha
    exact (heach x hx).2.2.2 a ha
  have hS := fun t ht => hse t ht
  have hL : ∀ x ∈ Ls, (x.holder ≠ 0 → x.holder ∈ Xs.map Le.token ∧ x.id ∈ ((mkT Ls Xs).want x.holder).take ((mkT Ls Xs).got x.holder)) ∧ (∀ t ∈ x.wait, t ∈ Xs.map Le.token ∧ (mkT Ls Xs).nx t = some x.id) ∧ x.wait.Nodup := fun x hx => by
    have h1 := hlo x hx
    unfold lockB holdB at h1
    simp only [Bool.and_eq_true, Bool.or_eq_true, beq_iff_eq, inL_iff20] at h1
    obtain ⟨h2, h3⟩ := h1
    obtain ⟨h4, h5⟩ := (waitB_iff x.wait []).1 h3
    exact ⟨fun hne => h2.resolve_left hne, fun t ht => ⟨(h4 t ht).1, (h4 t ht).2.2⟩, h5⟩
  refine { may := hm, ris := hris, pos := fun t ht => ?_, few := by show (Xs.map Le.token).length ≤ 64; rw [List.length_map]; exact h64, wr := fun t ht => ?_, win := hwin, gl := fun t ht => ?_, hold := fun id hid hne => ?_, held := fun t ht id hid => ?_, wait := fun id hid t ht => ?_, nd := fun id hid => ?_, waits := fun t ht _ id hn => ?_, off := fun _ h => (by cases h) }
  · obtain ⟨x, hx, rfl, _⟩ := hseat t ht
    have := hlt _ ht
    exact ⟨by omega, hr x hx⟩
  · obtain ⟨x, hx, _, _, h2⟩ := hseat t ht
    rw [h2]
    exact of_decide_eq_true (heach x hx).1
  · obtain ⟨x, hx, _, h1, h2⟩ := hseat t ht
    rw [h1, h2]
    have := (heach x hx).2.2.1
    omega
  · obtain ⟨x, hx, rfl, h1, _⟩ := hlock id hid
    rw [h1] at hne ⊢
    exact (hL x hx).1 hne
  · have h1 := hS t ht
    unfold seatB at h1
    simp only [Bool.and_eq_true, List.all_eq_true, beq_iff_eq] at h1
    exact h1.1 id hid
  · obtain ⟨x, hx, rfl, _, h2⟩ := hlock id hid
    rw [h2] at ht
    exact (hL x hx).2.1 t ht
  · obtain ⟨x, hx, rfl, _, h2⟩ := hlock id hid
    rw [h2]
    exact (hL x hx).2.2
  · have h1 := hS t ht
    unfold seatB at h1
    simp only [Bool.and_eq_true, Bool.or_eq_true, decide_eq_true_eq, inL_iff20] at h1
    obtain ⟨hg, hgid⟩ := nx_at hn
    have hn2 : ((mkT Ls Xs).want t)[(mkT Ls Xs).got t]? = some id := hn
    rcases h1.2 with h2 | h2
    · omega
    · rw [hn2] at h2
      exact h2
end Go.Proofs.Ytjmgokjljmmmgaa
/- Stage 21: who waits for whom: the mathematics. -/
namespace Go.Proofs.Ytjmgokjljmmmgaa
open Go.RowKit

def waitsX (x : Le) : Bool := decide (0 ≤ x.got) && decide (x.got < (x.want.length : Int))
def fullX (x : Le) : Bool := decide (x.got = (x.want.length : Int))
/-- the aisle that a lease waits for -/
def nxX (x : Le) : Option Int := if waitsX x = true then x.want[x.got.toNat]? else none
def lkF (Ls : List Lr) (id : Int) : Option Lr := Ls.find? fun k => k.id == id
/-- the lock that a lease waits for -/
def awX (Ls : List Lr) (x : Le) : Option Lr := (nxX x).bind (lkF Ls)
def arcX (Ls : List Lr) (x : Le) : Option Arc16 := (awX Ls x).bind fun k => if k.holder = 0 then none else some ⟨x.token, k.holder⟩
def arcsW (Xs : List Le) (Ls : List Lr) : List Arc16 := Xs.filterMap (arcX Ls)
def endsW (A : List Arc16) : List Int := A.flatMap fun a => [a.src, a.dst]
def ringW (Xs : List Le) (Ls : List Lr) : Bool := !decide ((ordL (endsW (arcsW Xs Ls)) (arcsW Xs Ls)).length = (setL (endsW (arcsW Xs Ls))).length)
def headW (A : List Arc16) (n : Int) : Option Int := (A.find? fun a => a.src == n).map Arc16.dst
def stepC (h : Int → Option Int) (out : List Int) : Option (List Int) := (h (out.getLastD 0)).bind fun q => if inL out q = true then none else some (out ++ [q])
def chainC (h : Int → Option Int) (t : Int) : Nat → List Int
  | 0 => [t]
  | k + 1 => (stepC h (chainC h t k)).getD (chainC h t k)
def chainW (Xs : List Le) (Ls : List Lr) (t : Int) : List Int := chainC (headW (arcsW Xs Ls)) t (arcsW Xs Ls).length
def readyX (Ls : List Lr) (x : Le) : Bool := fullX x || ((awX Ls x).map fun k => (k.holder == 0) && (k.wait.head? == some x.token)).getD false
def readyW (Xs : List Le) (Ls : List Lr) : List Int := (Xs.filter (readyX Ls)).map Le.token
/-- leases that may be, whatever the locks are -/
def lesW : Int → List Le → Bool
  | _, [] => true
  | last, x :: r => decide (last < x.token) && (rightB x.want && (decide (0 ≤ x.got) && (decide (x.got ≤ (x.want.length : Int)) && lesW x.token r)))
def seatsW (Xs : List Le) (Ls : List Lr) : Bool := (Xs.map Le.token).all fun t => seatB (mkT Ls Xs) t
def locksW (Xs : List Le) (Ls : List Lr) : Bool := Ls.all fun l => lockB (mkT Ls Xs) l
def rightW (Xs : List Le) (Ls : List Lr) : Bool := rightB (idsL Ls) && (lesW 0 Xs && (seatsW Xs Ls && locksW Xs Ls))
def fewW (Xs : List Le) (Ls : List Lr) : Bool := (decide (Xs.length ≤ 30) && decide (Ls.length ≤ 40)) && ((Xs.all fun x => decide (x.want.length ≤ 40)) && Ls.all fun x => decide (x.wait.length ≤ 40))

theorem lesW_cons {last : Int} {x : Le} {r : List Le} : lesW last (x :: r) = true ↔ last < x.token ∧ rightB x.want = true ∧ 0 ≤ x.got ∧ x.got ≤ (x.want.length : Int) ∧ lesW x.token r = true := by
  show (decide (last < x.token) && (rightB x.want && (decide (0 ≤ x.got) && (decide (x.got ≤ (x.want.length : Int)) && lesW x.token r)))) = true ↔ _
  simp only [Bool.and_eq_true, decide_eq_true_eq]
theorem lesW_ris : ∀ (Xs : List Le) (last : Int), lesW last Xs = true → (∀ t ∈ Xs.map Le.token, last < t) ∧ risL (Xs.map Le.token)
  | [], _, _ => ⟨fun _ h => (by cases h), List.Pairwise.nil⟩
  | x :: r, last, h => by
    obtain ⟨h1, _, _, _, h6⟩ := lesW_cons.1 h
    obtain ⟨i1, i2⟩ := lesW_ris r x.token h6
    refine ⟨fun t ht => ?_, ?_⟩
    · rw [List.map_cons] at ht
      rcases List.mem_cons.1 ht with rfl | ht
      · exact h1
      · have := i1 t ht; omega
    · rw [List.map_cons]
      exact List.pairwise_cons.2 ⟨i1, i2⟩
theorem lesW_each : ∀ (Xs : List Le) (last : Int), lesW last Xs = true → ∀ x ∈ Xs, rightB x.want = true ∧ 0 ≤ x.got ∧ x.got ≤ (x.want.length : Int)
  | [], _, _, _, h => (by cases h)
  | x :: r, last, h, y, hy => by
    obtain ⟨_, h2, h3, h4, h6⟩ := lesW_cons.1 h
    rcases List.mem_cons.1 hy with rfl | hy
    · exact ⟨h2, h3, h4⟩
    · exact lesW_each r _ h6 y hy
theorem lesW_drop {Xs : List Le} {k : Nat} (hk : k < Xs.length) (last : Int) : lesW last (Xs.drop k) = (decide (last < Xs[k].token) && (rightB Xs[k].want && (decide (0 ≤ Xs[k].got) && (decide (Xs[k].got ≤ (Xs[k].want.length : Int)) && lesW Xs[k].token (Xs.drop (k + 1)))))) := by
  rw [List.drop_eq_getElem_cons hk]
  rfl

/-! ### Chains -/
theorem stepC_last (h : Int → Option Int) (pre : List Int) (n : Int) : stepC h (pre ++ [n]) = (h n).bind fun q => if inL (pre ++ [n]) q = true then none else some (pre ++ [n] ++ [q]) := by
  unfold stepC
  rw [List.getLastD_concat]
theorem chain_stop {h : Int → Option Int} {t : Int} {j : Nat} (hs : stepC h (chainC h t j) = none) : ∀ d, chainC h t (j + d) = chainC h t j
  | 0 => rfl
  | d + 1 => by
    show (stepC h (chainC h t (j + d))).getD (chainC h t (j + d)) = _
    rw [chain_stop hs d, hs]
    rfl
theorem chain_end {h : Int → Option Int} {t : Int} {j N : Nat} (hs : stepC h (chainC h t j) = none) (hj : j ≤ N) : chainC h t N = chainC h t j := by
  obtain ⟨d, rfl⟩ := Nat.exists_eq_add_of_le hj
  exact chain_stop hs d
/-- a chain as far as j steps -/
structure ChI (A : List Arc16) (t : Int) (j : Nat) (pre : List Int) (n : Int) : Prop where
  is : pre ++ [n] = chainC (headW A) t j
  len : pre.length = j
  nd : (pre ++ [n]).Nodup
  heads : ∀ x ∈ pre, ∃ a ∈ A, a.src = x
theorem ChI.zero (A : List Arc16) (t : Int) : ChI A t 0 [] t := ⟨rfl, rfl, by simp, fun _ h => (by cases h)⟩
theorem headW_mem {A : List Arc16} {n m : Int} (h : headW A n = some m) : ∃ a ∈ A, a.src = n ∧ a.dst = m := by
  unfold headW at h
  cases hf : A.find? (fun a => a.src == n) with
  | none => rw [hf] at h; cases h
  | some a =>
    rw [hf] at h
    have h1 := List.find?_some hf
    exact ⟨a, List.mem_of_find?_eq_some hf, by simpa using h1, Option.some.inj h⟩
theorem ChI.room {A : List Arc16} {t : Int} {j : Nat} {pre : List Int} {n m : Int} (h : ChI A t j pre n) (hm : headW A n = some m) : j + 1 ≤ A.length := by
  obtain ⟨a, ha, hs, _⟩ := headW_mem hm
  have := len_of_sub (pre ++ [n]) (A.map Arc16.src) h.nd fun x hx => by
    rcases List.mem_append.1 hx with hx | hx
    · obtain ⟨b, hb, hs⟩ := h.heads x hx
      exact hs ▸ List.mem_map_of_mem hb
    · rw [List.mem_singleton.1 hx, ← hs]
      exact List.mem_map_of_mem ha
  rw [List.length_append, List.length_singleton, List.length_map, h.len] at this
  exact this
theorem ChI.next {A : List Arc16} {t : Int} {j : Nat} {pre : List Int} {n m : Int} (h : ChI A t j pre n) (hm : headW A n = some m) (hi : inL (pre ++ [n]) m = false) : ChI A t (j + 1) (pre ++ [n]) m := by
  have hno : m ∉ pre ++ [n] := of_decide_eq_false hi
  refine ⟨?_, by rw [List.length_append, h.len]; rfl, ?_, fun x hx => ?_⟩
  · show _ = (stepC (headW A) (chainC (headW A) t j)).getD _
    rw [← h.is, stepC_last, hm]
    show _ = (if inL (pre ++ [n]) m = true then none else some (pre ++ [n] ++ [m])).getD _
    rw [hi]
    rfl
  · rw [List.nodup_append]
    exact ⟨h.nd, by simp, fun a ha b hb e => by rw [List.mem_singleton] at hb; subst hb; subst e; exact hno ha⟩
  · rcases List.mem_append.1 hx with hx | hx
    · exact h.heads x hx
    · obtain ⟨a, ha, hs, _⟩ := headW_mem hm
      rw [List.mem_singleton.1 hx]
      exact ⟨a, ha, hs⟩
theorem ChI.noHead {A : List Arc16} {t : Int} {j : Nat} {pre : List Int} {n : Int} (h : ChI A t j pre n) (hj : j ≤ A.length) (hm : headW A n = none) : chainC (headW A) t A.length = pre ++ [n] := by
  rw [h.is]
  refine chain_end ?_ hj
  rw [← h.is, stepC_last, hm]
  rfl
theorem ChI.was {A : List Arc16} {t : Int} {j : Nat} {pre : List Int} {n m : Int} (h : ChI A t j pre n) (hj : j ≤ A.length) (hm : headW A n = some m) (hi : inL (pre ++ [n]) m = true) : chainC (headW A) t A.length = pre ++ [n] := by
  rw [h.is]
  refine chain_end ?_ hj
  rw [← h.is, stepC_last, hm]
  show (if inL (pre ++ [n]) m = true then none else some (pre ++ [n] ++ [m])) = none
  rw [hi]
  rfl
theorem arcs_len (Xs : List Le) (Ls : List Lr) : (arcsW Xs Ls).length ≤ Xs.length := List.length_filterMap_le ..
theorem ends_len (A : List Arc16) : (endsW A).length = 2 * A.length := by
  unfold endsW
  induction A with
  | nil => rfl
  | cons a r ih => rw [List.flatMap_cons, List.length_append, ih]; simp; omega
theorem arcs_next (Xs : List Le) (Ls : List Lr) (k : Nat) (hk : k < Xs.length) : arcsW (Xs.take (k + 1)) Ls = arcsW (Xs.take k) Ls ++ (arcX Ls Xs[k]).toList := by
  unfold arcsW
  rw [List.take_succ_eq_append_getElem hk, List.filterMap_append]
  cases h : arcX Ls Xs[k] <;> simp [h]
theorem ready_next (Xs : List Le) (Ls : List Lr) (k : Nat) (hk : k < Xs.length) : readyW (Xs.take (k + 1)) Ls = readyW (Xs.take k) Ls ++ (if readyX Ls Xs[k] = true then [Xs[k].token] else []) := by
  unfold readyW
  rw [List.take_succ_eq_append_getElem hk, List.filter_append, List.map_append]
  cases h : readyX Ls Xs[k] <;> simp [h]
theorem ends_next (A : List Arc16) (k : Nat) (hk : k < A.length) : endsW (A.take (k + 1)) = endsW (A.take k) ++ [A[k].src, A[k].dst] := by
  unfold endsW
  rw [List.take_succ_eq_append_getElem hk, List.flatMap_append]
  simp
end Go.Proofs.Ytjmgokjljmmmgaa
/- A lease's cells in a list. -/
namespace Go.Proofs.Ytjmgokjljmmmgaa
open Go.RowKit
theorem leaseAt {w : World} {v : Value} {l : List Le} (h : RowsAt w 7 csLe v l) (k : Nat) (hk : k < l.length) :
    ∃ g o c, v = .slice (some ⟨g, o, none⟩) l.length c ∧ l.length ≤ c ∧ g < w.heap.size ∧ w.cell? ⟨g, o + k * 7, none⟩ = some (.int .i64 l[k].token) ∧ w.cell? ⟨g, o + k * 7 + 1, none⟩ = some (.int .i64 l[k].task) ∧ w.cell? ⟨g, o + k * 7 + 2, none⟩ = some (.int .i64 l[k].worker) ∧ w.cell? ⟨g, o + k * 7 + 3, none⟩ = some (.int .i64 l[k].unit) ∧ w.cell? ⟨g, o + k * 7 + 4, none⟩ = some (.int .i64 l[k].due) ∧ w.cell? ⟨g, o + k * 7 + 5, none⟩ = some (.int .i64 l[k].got) ∧ w.cell? ⟨g, o + k * 7 + 6, none⟩ = some l[k].v := by
  obtain ⟨g, o, c, e, hc, hg, hx⟩ := h.spot k hk
  exact ⟨g, o, c, e, hc, hg, hx 0 _ rfl, hx 1 _ rfl, hx 2 _ rfl, hx 3 _ rfl, hx 4 _ rfl, hx 5 _ rfl, hx 6 _ rfl⟩
end Go.Proofs.Ytjmgokjljmmmgaa
/- Stage 21: the document's small looks: Find, of, times, Waits. -/
namespace Go.Proofs.Ytjmgokjljmmmgaa
open Go.RowKit

set_option maxHeartbeats 2000000 in
set_option maxRecDepth 100000 in
theorem refFind21_any (vl : Value) (Ls : List Lr) (id : Int) (W : World) (ha : RowsAt W 3 csL vl Ls) (hl : Ls.length ≤ 1000000) :
    Calls Try.prog 41 #[vl, .int .i64 id] W fun e w' => e = .returned (.int .i64 (plcL (idsL Ls) id)) ∧ W = w' := by
  obtain ⟨a, c, rfl⟩ := RowsAt.form ha
  have HA := Lib.hid ha
  obtain ⟨r, hr⟩ : ∃ r, plcL (idsL Ls) id = r := ⟨_, rfl⟩
  rw [hr]
  have HR := Lib.hid hr
  clear hr ha
  go_enter Try.func41, Try.ntmps41
  go_wp2
  go_loopg [5] Ls.length (fun kx iv wr => ∃ k : Nat, k ≤ Ls.length ∧ Ls.length - k ≤ kx ∧ iv = .int .i64 k ∧ Hid (id ∉ (Ls.take k).map Lr.id) ∧ wr = W)
  case atStart => exact ⟨0, Nat.zero_le _, Nat.le_refl _, rfl, (by show id ∉ _; simp), rfl⟩
  case round =>
    obtain ⟨k, hk, hkx, rfl, hno, rfl⟩ := hrel
    by_cases hlt : k < Ls.length
    · obtain ⟨g, o, cc, e, _, _, q0, _, _⟩ := RowsAt.atL HA.out k hlt
      cases e
      have j1 : (k : Int) < (Ls.length : Int) := by omega
      have j0 : (0 : Int) ≤ (k : Int) := by omega
      have j2 : (k : Int) ≤ 1000000 := by omega
      by_cases hx : (Ls[k]'hlt).id = id
      · have HP := Lib.hid ((map_found Lr.id hlt hx hno.out).symm.trans HR.out)
        rw [hx] at q0
        clear hx hno
        go_wp2
        go_ret
        exact ⟨ret_i HP.out, rfl⟩
      · have HNO := Lib.hid (map_next Lr.id hlt hx hno.out)
        have hx2 : ((Ls[k]'hlt).id == id) = false := beq_noI hx
        generalize (Ls[k]'hlt).id = x at *
        clear hx hno
        go_wp2
        go_roundg (Ls.length - (k + 1))
        case measure => omega
        case rel => exact ⟨k + 1, by omega, Nat.le_refl _, by go_num, HNO.out, rfl⟩
    · have hke : k = Ls.length := by omega
      subst hke
      have hno2 : id ∉ idsL Ls := by have := hno.out; rwa [List.take_length] at this
      have HP := Lib.hid ((plc_none hno2).symm.trans HR.out)
      clear hno hno2 hlt
      go_wp2
      go_ret
      exact ⟨ret_i HP.out, rfl⟩
set_option maxHeartbeats 2000000 in
set_option maxRecDepth 100000 in
theorem refOf21_any (vx : Value) (Xs : List Le) (id : Int) (W : World) (ha : RowsAt W 7 csLe vx Xs) (hl : Xs.length ≤ 1000000) :
    Calls Try.prog 42 #[vx, .int .i64 id] W fun e w' => e = .returned (.int .i64 (plcL (Xs.map Le.token) id)) ∧ W = w' := by
  obtain ⟨a, c, rfl⟩ := RowsAt.form ha
  have HA := Lib.hid ha
  obtain ⟨r, hr⟩ : ∃ r, plcL (Xs.map Le.token) id = r := ⟨_, rfl⟩
  rw [hr]
  have HR := Lib.hid hr
  clear hr ha
  go_enter Try.func42, Try.ntmps42
  go_wp2
  go_loopg [5] Xs.length (fun kx iv wr => ∃ k : Nat, k ≤ Xs.length ∧ Xs.length - k ≤ kx ∧ iv = .int .i64 k ∧ Hid (id ∉ (Xs.take k).map Le.token) ∧ wr = W)
  case atStart => exact ⟨0, Nat.zero_le _, Nat.le_refl _, rfl, (by show id ∉ _; simp), rfl⟩
  case round =>
    obtain ⟨k, hk, hkx, rfl, hno, rfl⟩ := hrel
    by_cases hlt : k < Xs.length
    · obtain ⟨g, o, cc, e, _, _, q0, _⟩ := leaseAt HA.out k hlt
      cases e
      have j1 : (k : Int) < (Xs.length : Int) := by omega
      have j0 : (0 : Int) ≤ (k : Int) := by omega
      have j2 : (k : Int) ≤ 1000000 := by omega
      by_cases hx : (Xs[k]'hlt).token = id
      · have HP := Lib.hid ((map_found Le.token hlt hx hno.out).symm.trans HR.out)
        rw [hx] at q0
        clear hx hno
        go_wp2
        go_ret
        exact ⟨ret_i HP.out, rfl⟩
      · have HNO := Lib.hid (map_next Le.token hlt hx hno.out)
        have hx2 : ((Xs[k]'hlt).token == id) = false := beq_noI hx
        generalize (Xs[k]'hlt).token = x at *
        clear hx hno
        go_wp2
        go_roundg (Xs.length - (k + 1))
        case measure => omega
        case rel => exact ⟨k + 1, by omega, Nat.le_refl _, by go_num, HNO.out, rfl⟩
    · have hke : k = Xs.length := by omega
      subst hke
      have hno2 : id ∉ Xs.map Le.token := by have := hno.out; rwa [List.take_length] at this
      have HP := Lib.hid ((plc_none hno2).symm.trans HR.out)
      clear hno hno2 hlt
      go_wp2
      go_ret
      exact ⟨ret_i HP.out, rfl⟩
/-- how often a number stands in a list -/
def cntL (l : List Int) (n : Int) : Nat := (l.filter fun x => x == n).length
theorem cnt_next (l : List Int) (n : Int) (k : Nat) (hk : k < l.length) : cntL (l.take (k + 1)) n = cntL (l.take k) n + (if l[k] = n then 1 else 0) := by
  unfold cntL
  rw [List.take_succ_eq_append_getElem hk, List.filter_append, List.length_append]
  by_cases e : l[k] = n <;> simp [e]
theorem cnt_le (l : List Int) (n : Int) : cntL l n ≤ l.length := List.length_filter_le ..
set_option maxHeartbeats 2000000 in
set_option maxRecDepth 100000 in
theorem refTimes21_any (va : Value) (l : List Int) (n : Int) (W : World) (ha : IntsAt W va l) (hl : l.length ≤ 1000000) :
    Calls Try.prog 43 #[va, .int .i64 n] W fun e w' => e = .returned (.int .i64 (cntL l n : Int)) ∧ W = w' := by
  obtain ⟨a, c, rfl⟩ := ha.form
  have HA := Lib.hid ha
  obtain ⟨r, hr⟩ : ∃ r, cntL l n = r := ⟨_, rfl⟩
  rw [hr]
  have HR := Lib.hid hr
  clear hr ha
  go_enter Try.func43, Try.ntmps43
  go_wp2
  go_loopg [5, 6] l.length (fun kx cv iv wr => ∃ k q : Nat, k ≤ l.length ∧ l.length - k ≤ kx ∧ cv = .int .i64 q ∧ iv = .int .i64 k ∧ Hid (cntL (l.take k) n = q) ∧ wr = W)
  case atStart => exact ⟨0, 0, Nat.zero_le _, Nat.le_refl _, rfl, rfl, rfl, rfl⟩
  case round =>
    obtain ⟨k, q, hk, hkx, rfl, rfl, hq, rfl⟩ := hrel
    by_cases hlt : k < l.length
    · obtain ⟨g, o, cc, e, _, _, p0⟩ := HA.out.spot k hlt
      cases e
      have j1 : (k : Int) < (l.length : Int) := by omega
      have j0 : (0 : Int) ≤ (k : Int) := by omega
      have j2 : (k : Int) ≤ 1000000 := by omega
      have hnx := cnt_next l n k hlt
      rw [hq.out] at hnx
      have q2 : (q : Int) ≤ 1000000 := by
        have := cnt_le (l.take k) n
        rw [hq.out, List.length_take] at this
        omega
      have q0 : (0 : Int) ≤ (q : Int) := by omega
      by_cases hx : l[k]'hlt = n
      · rw [if_pos hx] at hnx
        have HNX := Lib.hid hnx
        rw [hx] at p0
        clear hx hnx hq
        go_wp2
        go_roundg (l.length - (k + 1))
        case measure => omega
        case rel => exact ⟨k + 1, q + 1, by omega, Nat.le_refl _, by go_num, by go_num, HNX.out, rfl⟩
      · rw [if_neg hx] at hnx
        have HNX := Lib.hid hnx
        have hx2 : (l[k]'hlt == n) = false := beq_noI hx
        generalize l[k]'hlt = x at *
        clear hx hnx hq
        go_wp2
        go_roundg (l.length - (k + 1))
        case measure => omega
        case rel => exact ⟨k + 1, q, by omega, Nat.le_refl _, rfl, by go_num, HNX.out, rfl⟩
    · have hke : k = l.length := by omega
      subst hke
      have hq2 := hq.out
      rw [List.take_length] at hq2
      have HP := Lib.hid (show (q : Int) = (r : Int) by rw [← HR.out, ← hq2])
      clear hq hq2 hlt
      go_wp2
      go_ret
      exact ⟨ret_i HP.out, rfl⟩
end Go.Proofs.Ytjmgokjljmmmgaa
/- Stage 21: the document's Waits, lease. -/
namespace Go.Proofs.Ytjmgokjljmmmgaa
open Go.RowKit

abbrev lev (x : Le) (v : Value) : Value := .agg #[.int .i64 x.token, .int .i64 x.task, .int .i64 x.worker, .int .i64 x.unit, .int .i64 x.due, .int .i64 x.got, v]
theorem lkF_idx {Ls : List Lr} {id : Int} (h : id ∈ idsL Ls) : lkF Ls id = Ls[(idsL Ls).idxOf id]? := by
  unfold idsL at h ⊢
  unfold lkF
  induction Ls with
  | nil => cases h
  | cons y r ih =>
    rw [List.map_cons, List.idxOf_cons]
    by_cases e : y.id = id
    · simp [e]
    · have hr : id ∈ r.map Lr.id := by
        rw [List.map_cons] at h
        exact (List.mem_cons.1 h).resolve_left (fun h => e h.symm)
      rw [List.find?_cons_of_neg (by simpa using e), ih hr]
      simp [beq_noI e]
theorem lkF_none {Ls : List Lr} {id : Int} (h : id ∉ idsL Ls) : lkF Ls id = none :=
  List.find?_eq_none.2 fun y hy => by
    simp only [beq_iff_eq]
    exact fun e => h (e ▸ List.mem_map_of_mem hy)
theorem lkF_in {Ls : List Lr} {id : Int} (h : id ∈ idsL Ls) : ∃ k, lkF Ls id = some k ∧ k ∈ Ls ∧ k.id = id := by
  have h1 := lkF_idx h
  have h2 := List.idxOf_lt_length_of_mem h
  have h3 : (idsL Ls).idxOf id < Ls.length := by simpa [idsL] using h2
  rw [List.getElem?_eq_getElem h3] at h1
  refine ⟨_, h1, List.getElem_mem h3, ?_⟩
  have := List.find?_some h1
  simpa using this
theorem lockSpot {w : World} {v : Value} {Ls : List Lr} (h : LocksAt w v Ls) {id : Int} (hi : id ∈ idsL Ls) :
    ∃ (k : Lr) (q g o c : Nat), lkF Ls id = some k ∧ k ∈ Ls ∧ plcL (idsL Ls) id = (q : Int) ∧ q < Ls.length ∧ v = .slice (some ⟨g, o, none⟩) Ls.length c ∧ w.cell? ⟨g, o + q * 3, none⟩ = some (.int .i64 k.id) ∧ w.cell? ⟨g, o + q * 3 + 1, none⟩ = some (.int .i64 k.holder) ∧ w.cell? ⟨g, o + q * 3 + 2, none⟩ = some (.slice k.a k.wait.length k.c) ∧ IntsAt w (.slice k.a k.wait.length k.c) k.wait := by
  have h1 := lkF_idx hi
  obtain ⟨p1, p2, _⟩ := plc_at hi
  have hl : (idsL Ls).idxOf id < Ls.length := by simpa [idsL] using p2
  rw [List.getElem?_eq_getElem hl] at h1
  obtain ⟨g, o, c, e, _, _, q0, q1, q2⟩ := h.rows.atL _ hl
  exact ⟨_, _, g, o, c, h1, List.getElem_mem hl, p1, hl, e, q0, q1, q2, h.each _ (List.getElem_mem hl)⟩
/-- where the lock is that a lease waits for -/
def wtI (Ls : List Lr) (x : Le) : Int := match nxX x with
  | some id => plcL (idsL Ls) id
  | none => -1
theorem nxX_at {x : Le} (h0 : 0 ≤ x.got) (h1 : x.got < (x.want.length : Int)) : nxX x = some (x.want[x.got.toNat]'(by omega)) := by
  unfold nxX waitsX
  rw [decide_eq_true h0, decide_eq_true h1]
  exact List.getElem?_eq_getElem (by omega)
theorem nxX_none {x : Le} (h : ¬ (0 ≤ x.got ∧ x.got < (x.want.length : Int))) : nxX x = none := by
  unfold nxX waitsX
  rw [if_neg]
  rw [Bool.and_eq_true, decide_eq_true_eq, decide_eq_true_eq]
  exact h
set_option maxHeartbeats 4000000 in
set_option maxRecDepth 100000 in
theorem refWaits21_any (x : Le) (vl : Value) (Ls : List Lr) (W : World) (ha : RowsAt W 3 csL vl Ls) (hi : IntsAt W (.slice x.a x.want.length x.c) x.want) (hl : Ls.length ≤ 1000) (hw : x.want.length ≤ 1000) :
    Calls Try.prog 27 #[lev x (.slice x.a x.want.length x.c), vl] W fun e w' => e = .returned (.int .i64 (wtI Ls x)) ∧ Below W.heap.size W w' := by
  obtain ⟨r, hr⟩ : ∃ r, wtI Ls x = r := ⟨_, rfl⟩
  rw [hr]
  have HR := Lib.hid hr
  have hb := (Below.refl W.heap.size W).alloc (Nat.le_refl _) (.cells #[.int .i64 x.token, .int .i64 x.task, .int .i64 x.worker, .int .i64 x.unit, .int .i64 x.due, .int .i64 x.got, .slice x.a x.want.length x.c] 35)
  have HB := Lib.hid hb
  have hX := Blk.new W [.int .i64 x.token, .int .i64 x.task, .int .i64 x.worker, .int .i64 x.unit, .int .i64 x.due, .int .i64 x.got, .slice x.a x.want.length x.c] 35
  have GF := Lib.hid fun id => refFind21_any vl Ls id (W.alloc (.cells #[.int .i64 x.token, .int .i64 x.task, .int .i64 x.worker, .int .i64 x.unit, .int .i64 x.due, .int .i64 x.got, .slice x.a x.want.length x.c] 35)) (RowsAt.kept ha hb) (by omega)
  have HI := hi.below hb
  have hwt : wtI Ls x = match nxX x with
    | some id => plcL (idsL Ls) id
    | none => -1 := rfl
  rw [hr] at hwt
  by_cases h0 : 0 ≤ x.got
  · by_cases h1 : x.got < (x.want.length : Int)
    · rw [nxX_at h0 h1] at hwt
      obtain ⟨g, o, c, e, _, _, p0⟩ := HI.spot x.got.toNat (by omega)
      simp only at hwt
      generalize (x.want[x.got.toNat]'(by omega)) = id at *
      obtain ⟨tk, ta, wo, un, du, go, xa, xc, xw⟩ := x
      simp only at h0 h1 e p0 hX hb HB GF hr
      dsimp only [lev]
      obtain ⟨j, rfl⟩ : ∃ j : Nat, go = (j : Int) := ⟨go.toNat, by omega⟩
      rw [Int.toNat_natCast] at p0
      obtain ⟨n, hn⟩ : ∃ n, xw.length = n := ⟨_, rfl⟩
      rw [hn] at h1 e hX hb HB GF hw p0 ⊢
      cases e
      have GF2 := Lib.hid (GF.out id)
      rw [← hwt] at GF2
      clear hr hwt hi HI HR hn GF
      have j1 : ¬ (j : Int) < 0 := by omega
      have j2 : ¬ (n : Int) ≤ (j : Int) := by omega
      have j3 : (j : Int) ≤ 1000 := by omega
      clear hb ha
      go_enter Try.func27, Try.ntmps27
      go_wp2_with (go_at_call 41; (with_reducible refine GF2.out.mono ?_); rintro e w3 ⟨rfl, rfl⟩)
      go_ret
      exact ⟨rfl, HB.out⟩
    · rw [nxX_none (fun h => h1 h.2)] at hwt
      have HF := Lib.hid (show (-1 : Int) = r from hwt.symm)
      obtain ⟨tk, ta, wo, un, du, go, xa, xc, xw⟩ := x
      simp only at h0 h1 hX hb HB hr
      dsimp only [lev]
      generalize xw.length = n at *
      have j1 : ¬ go < 0 := by omega
      have j2 : (n : Int) ≤ go := by omega
      clear hr hwt hi HI HR GF hb ha
      go_enter Try.func27, Try.ntmps27
      go_wp2
      go_ret
      exact ⟨ret_i HF.out, HB.out⟩
  · rw [nxX_none (fun h => h0 h.1)] at hwt
    have HF := Lib.hid (show (-1 : Int) = r from hwt.symm)
    obtain ⟨tk, ta, wo, un, du, go, xa, xc, xw⟩ := x
    simp only at h0 hX hb HB hr
    dsimp only [lev]
    generalize xw.length = n at *
    have j1 : go < 0 := by omega
    clear hr hwt hi HI HR GF hb ha
    go_enter Try.func27, Try.ntmps27
    go_wp2
    go_ret
    exact ⟨ret_i HF.out, HB.out⟩
end Go.Proofs.Ytjmgokjljmmmgaa
/- Stage 20: the document's seat: does a token hold, and wait for, just what it must. -/
namespace Go.Proofs.Ytjmgokjljmmmgaa
open Go.RowKit

theorem lock_spot {w : World} {v : Value} {Ls : List Lr} (h : LocksAt w v Ls) (hn : (idsL Ls).Nodup) {id : Int} (hi : id ∈ idsL Ls) :
    ∃ (q g o c : Nat) (a : Option Addr) (cc : Nat), plcL (idsL Ls) id = (q : Int) ∧ q < Ls.length ∧ v = .slice (some ⟨g, o, none⟩) Ls.length c ∧ w.cell? ⟨g, o + q * 3 + 1, none⟩ = some (.int .i64 (hdL Ls id)) ∧ w.cell? ⟨g, o + q * 3 + 2, none⟩ = some (.slice a (wtL Ls id).length cc) ∧ IntsAt w (.slice a (wtL Ls id).length cc) (wtL Ls id) := by
  obtain ⟨h1, h2, h3⟩ := plc_at hi
  have hl : (idsL Ls).idxOf id < Ls.length := by simpa [idsL] using h2
  obtain ⟨g, o, c, e, _, _, q0, q1, q2⟩ := h.rows.atL _ hl
  have hid : Ls[(idsL Ls).idxOf id].id = id := by
    have : (idsL Ls)[(idsL Ls).idxOf id]? = (Ls[(idsL Ls).idxOf id]?).map Lr.id := by unfold idsL; exact List.getElem?_map ..
    rw [this, List.getElem?_eq_getElem hl] at h3
    exact Option.some.inj h3
  have hf := find_id hn (List.getElem_mem hl)
  rw [hid] at hf
  have e1 : hdL Ls id = Ls[(idsL Ls).idxOf id].holder := by unfold hdL; rw [hf]; rfl
  have e2 : wtL Ls id = Ls[(idsL Ls).idxOf id].wait := by unfold wtL; rw [hf]; rfl
  have hea := h.each _ (List.getElem_mem hl)
  rw [e1, e2]
  exact ⟨_, g, o, c, _, _, h1, hl, e, q1, q2, hea⟩
/-- what seat tells of a token -/
def seatV (Ls : List Lr) (t : Int) (j : Nat) (l : List Int) : Bool := (l.take j).all (fun id => hdL Ls id == t) && (decide (j = l.length) || inL (wtL Ls (l[j]?.getD 0)) t)
theorem all_take_not {l : List Int} {p : Int → Bool} {k j : Nat} (hk : k < j) (hl : k < l.length) (hp : p l[k] = false) : (l.take j).all p = false := by
  rw [List.all_eq_false]
  refine ⟨l[k], ?_, by rw [hp]; simp⟩
  rw [List.mem_iff_getElem]
  exact ⟨k, by rw [List.length_take]; omega, by rw [List.getElem_take]⟩
end Go.Proofs.Ytjmgokjljmmmgaa
/- Stage 21: the document's lease. -/
namespace Go.Proofs.Ytjmgokjljmmmgaa
open Go.RowKit

/-- is a lease right, as far as it goes -/
def leaseB (Ls : List Lr) (x : Le) : Bool := rightB x.want && (decide (0 ≤ x.got) && (decide (x.got ≤ (x.want.length : Int)) && seatV Ls x.token x.got.toNat x.want))
theorem hdL_of {Ls : List Lr} {id : Int} {k : Lr} (h : lkF Ls id = some k) : hdL Ls id = k.holder ∧ wtL Ls id = k.wait := by
  unfold lkF at h
  unfold hdL wtL
  rw [h]
  exact ⟨rfl, rfl⟩
theorem hdL_no {Ls : List Lr} {id : Int} (h : lkF Ls id = none) : hdL Ls id = 0 ∧ wtL Ls id = [] := by
  unfold lkF at h
  unfold hdL wtL
  rw [h]
  exact ⟨rfl, rfl⟩
set_option maxHeartbeats 8000000 in
set_option maxRecDepth 100000 in
theorem refLease21_any (x : Le) (vl : Value) (Ls : List Lr) (W : World) (ha : LocksAt W vl Ls) (hi : IntsAt W (.slice x.a x.want.length x.c) x.want) (hl : Ls.length ≤ 1000) (hw : x.want.length ≤ 1000) (hlw : ∀ k ∈ Ls, k.wait.length ≤ 1000) (hpos : 0 < x.token) :
    Calls Try.prog 22 #[lev x (.slice x.a x.want.length x.c), vl] W fun e w' => e = .returned (.bool (leaseB Ls x)) ∧ Below W.heap.size W w' := by
  obtain ⟨r, hr⟩ : ∃ r, leaseB Ls x = r := ⟨_, rfl⟩
  rw [hr]
  have hrr : r = (rightB x.want && (decide (0 ≤ x.got) && (decide (x.got ≤ (x.want.length : Int)) && seatV Ls x.token x.got.toNat x.want))) := hr.symm
  have hb := (Below.refl W.heap.size W).alloc (Nat.le_refl _) (.cells #[.int .i64 x.token, .int .i64 x.task, .int .i64 x.worker, .int .i64 x.unit, .int .i64 x.due, .int .i64 x.got, .slice x.a x.want.length x.c] 35)
  have hX := Blk.new W [.int .i64 x.token, .int .i64 x.task, .int .i64 x.worker, .int .i64 x.unit, .int .i64 x.due, .int .i64 x.got, .slice x.a x.want.length x.c] 35
  have HA := Lib.hid (ha.below hb)
  have HI := Lib.hid (hi.below hb)
  have GR := Lib.hid (refRight_any (.slice x.a x.want.length x.c) x.want (W.alloc (.cells #[.int .i64 x.token, .int .i64 x.task, .int .i64 x.worker, .int .i64 x.unit, .int .i64 x.due, .int .i64 x.got, .slice x.a x.want.length x.c] 35)) (hi.below hb) hw)
  have GW := Lib.hid fun (w' : World) (h : Below W.heap.size W w') => refWaits21_any x vl Ls w' (RowsAt.kept ha.rows h) (hi.below h) hl hw
  have HWT := Lib.hid (show ∀ j : Nat, (hj : x.got = (j : Int)) → (hl : j < x.want.length) → nxX x = some x.want[j] from fun j hj hl => by
    rw [nxX_at (by omega) (by omega)]
    simp only [hj, Int.toNat_natCast])
  have HNW := Lib.hid (show x.got = (x.want.length : Int) → nxX x = none from fun h => nxX_none (fun h2 => by omega))
  have hwt : wtI Ls x = match nxX x with
    | some id => plcL (idsL Ls) id
    | none => -1 := rfl
  obtain ⟨wt, hwtd⟩ : ∃ wt, wtI Ls x = wt := ⟨_, rfl⟩
  rw [hwtd] at hwt
  simp only [hwtd] at GW
  obtain ⟨nx, hnx⟩ : ∃ nx, nxX x = nx := ⟨_, rfl⟩
  rw [hnx] at hwt HNW
  simp only [hnx] at HWT
  have HWI := Lib.hid hwt
  obtain ⟨tk, ta, wo, un, du, go, xa, xc, xw⟩ := x
  simp only at hw hpos hrr hb hX HA HI GR GW HWT HNW
  dsimp only [lev]
  obtain ⟨n, hn⟩ : ∃ n, xw.length = n := ⟨_, rfl⟩
  rw [hn] at hw hrr hb hX HA HI GR HNW ⊢
  dsimp only [lev] at GW
  simp only [hn] at GW
  have HN := Lib.hid hn
  have HL := Lib.hid hl
  have HLW := Lib.hid hlw
  have HPOS := Lib.hid hpos
  have HW := Lib.hid hw
  have HB := Lib.hid hb
  clear hr ha hi hl hlw hpos hwt hwtd hnx hn hw
  generalize hw1 : W.alloc (.cells #[.int .i64 tk, .int .i64 ta, .int .i64 wo, .int .i64 un, .int .i64 du, .int .i64 go, .slice xa n xc] 35) = w1 at *
  replace hX : Blk w1 W.heap.size [.int .i64 tk, .int .i64 ta, .int .i64 wo, .int .i64 un, .int .i64 du, .int .i64 go, .slice xa n xc] := hX
  have HX := Lib.hid hX
  have x0 := hX.cell 0 rfl
  have x5 := hX.cell 5 rfl
  have x6 := hX.cell 6 rfl
  clear hX hb
  go_enter Try.func22, Try.ntmps22
  cases hrb : rightB xw with
  | false =>
    rw [hrb, Bool.false_and] at hrr
    have HF := Lib.hid hrr.symm
    rw [hrb] at GR
    clear hrr hrb
    go_wp2_with (go_at_call 40; (with_reducible refine GR.out.mono ?_); rintro e w3 ⟨rfl, b3⟩; have HB3 := Lib.hid (HB.out.trans (b3.mono HB.out.size)); clear b3)
    go_ret
    exact ⟨ret_b HF.out, HB3.out⟩
  | true =>
    rw [hrb, Bool.true_and] at hrr
    rw [hrb] at GR
    clear hrb
    by_cases h0 : 0 ≤ go
    · by_cases h1 : go ≤ (n : Int)
      · rw [decide_eq_true h0, decide_eq_true h1, Bool.true_and, Bool.true_and] at hrr
        obtain ⟨j, rfl⟩ : ∃ j : Nat, go = (j : Int) := ⟨go.toNat, by omega⟩
        rw [Int.toNat_natCast] at hrr
        have q0 : ¬ (j : Int) < 0 := by omega
        have q1 : ¬ (n : Int) < (j : Int) := by omega
        have d0 : decide ((j : Int) < 0) = false := decide_eq_false q0
        have d1 : decide (n < j) = false := decide_eq_false (by omega)
        have HRR := Lib.hid hrr
        have HJ := Lib.hid (show j ≤ n by omega)
        clear hrr h0 h1
        go_wp2_with (go_at_call 40; (with_reducible refine GR.out.mono ?_); rintro e w3 ⟨rfl, b3⟩; have HB3 := Lib.hid b3; have y5 := (HX.out.kept b3).cell 5 rfl; have y6 := (HX.out.kept b3).cell 6 rfl; clear b3)
        clear y5 y6 x0 x5 x6
        have hb3 := HB3.out
        go_loopg [5] j (fun kx iv ws => ∃ k : Nat, k ≤ j ∧ j - k ≤ kx ∧ iv = .int .i64 k ∧ Hid ((xw.take k).all (fun id => hdL Ls id == tk) = true) ∧ Below w1.heap.size w1 ws)
        case atStart => exact ⟨0, Nat.zero_le _, Nat.le_refl _, rfl, rfl, hb3⟩
        case round =>
          clear hb3
          obtain ⟨k, hk, hkx, rfl, HAL, hbr⟩ := hrel
          have y0 := (HX.out.kept hbr).cell 0 rfl
          have y1 := (HX.out.kept hbr).cell 1 rfl
          have y2 := (HX.out.kept hbr).cell 2 rfl
          have y3 := (HX.out.kept hbr).cell 3 rfl
          have y4 := (HX.out.kept hbr).cell 4 rfl
          have y5 := (HX.out.kept hbr).cell 5 rfl
          have y6 := (HX.out.kept hbr).cell 6 rfl
          have hla := LocksAt.below HA.out hbr
          by_cases hlt : k < j
          · have HLT := Lib.hid (And.intro hlt hkx)
            have k0 : (0 : Int) ≤ (k : Int) := by omega
            have k1 : (k : Int) < (j : Int) := by omega
            have k2 : (k : Int) < (n : Int) := by have := HJ.out; omega
            have k3 : (k : Int) ≤ 1000 := by have := HJ.out; have := HW.out; omega
            have hkl : k < xw.length := by rw [HN.out]; have := HJ.out; omega
            obtain ⟨g2, o2, c2, e2, _, _, m0⟩ := (HI.out.below hbr).spot k hkl
            rw [HN.out] at e2
            cases e2
            have hsn : xw.take (k + 1) = xw.take k ++ [xw[k]'hkl] := List.take_succ_eq_append_getElem hkl
            have hbad : (hdL Ls (xw[k]'hkl) == tk) = false → r = false := fun h => by
              rw [HRR.out]
              unfold seatV
              rw [all_take_not hlt hkl h, Bool.false_and]
            obtain ⟨id, hid⟩ : ∃ id, xw[k]'hkl = id := ⟨_, rfl⟩
            rw [hid] at m0 hsn hbad
            have HSN := Lib.hid hsn
            have GF := Lib.hid (refFind21_any vl Ls id wr hla.rows (by have := HL.out; omega))
            have HBR := Lib.hid hbr
            by_cases hin : id ∈ idsL Ls
            · obtain ⟨kk, q, g, o, c, e1, _, e3, e4, e5, p0, p1, p2, _⟩ := lockSpot hla hin
              subst e5
              have hhd := (hdL_of e1).1
              rw [e3] at GF
              obtain ⟨id', hh, ka, kc, kw⟩ := kk
              simp only at p0 p1 p2 hhd
              rw [hhd] at hbad
              have q2 : (0 : Int) ≤ (q : Int) := by omega
              have q3 : (q : Int) < (Ls.length : Int) := by omega
              have q4 : (q : Int) ≤ 1000 := by have := HL.out; omega
              have q5 : decide ((q : Int) < 0) = false := decide_eq_false (by omega)
              by_cases he : hh = tk
              · have HAN := Lib.hid (show (xw.take (k + 1)).all (fun id => hdL Ls id == tk) = true by
                  rw [HSN.out, List.all_append, HAL.out]
                  simp [hhd, he])
                rw [he] at p1
                clear hk hkx hlt hkl hsn hbad hid hin e1 e3 e4 hhd hla hbr p0 p2 y1 y2 y3 y4 he
                go_upto_region 7 with (go_at_call 41; (with_reducible refine GF.out.mono ?_); rintro e w4 ⟨rfl, rfl⟩)
                refine wp_region_calm0 (by kernel_rfl) (by kernel_rfl) fun M => ?_
                have f0 := fun n : In M.w => n.cell (M.cell y0)
                have f1 := fun n : In M.w => n.cell (M.cell p1)
                repeat (go_big_quiet_step (fail))
                refine wpQuiet_nil ?_
                clear f0 f1 M
                intro w5 hb5
                have HB5 := Lib.hid (HBR.out.trans (hb5.mono HBR.out.size))
                clear hb5 y0 y5 y6 m0 p1
                go_wp2
                go_roundg (j - (k + 1))
                case measure => have := HLT.out; omega
                case rel => exact ⟨k + 1, by have := HLT.out; omega, Nat.le_refl _, by go_num, HAN.out, HB5.out⟩
              · have HF := Lib.hid (hbad (beq_noI he)).symm
                have he2 : (hh == tk) = false := beq_noI he
                clear hk hkx hlt hkl hsn hbad hid hin e1 e3 e4 hhd hla hbr p0 p2 y1 y2 y3 y4
                go_upto_region 7 with (go_at_call 41; (with_reducible refine GF.out.mono ?_); rintro e w4 ⟨rfl, rfl⟩)
                refine wp_region_calm0 (by kernel_rfl) (by kernel_rfl) fun M => ?_
                have f0 := fun n : In M.w => n.cell (M.cell y0)
                have f1 := fun n : In M.w => n.cell (M.cell p1)
                repeat (go_big_quiet_step (fail))
                refine wpQuiet_nil ?_
                clear f0 f1 M
                intro w5 hb5
                have HB5 := Lib.hid (HBR.out.trans (hb5.mono HBR.out.size))
                clear hb5 y0 y5 y6 m0 p1
                go_wp2
                go_ret
                exact ⟨ret_b HF.out, HB.out.trans (HB5.out.mono HB.out.size)⟩
            · rw [plc_none hin] at GF
              have hhd := (hdL_no (lkF_none hin)).1
              have HF := Lib.hid (hbad (beq_noI (by rw [hhd]; have := HPOS.out; omega))).symm
              clear hk hkx hlt hkl hsn hbad hid hin hhd hla hbr y1 y2 y3 y4
              go_upto_region 7 with (go_at_call 41; (with_reducible refine GF.out.mono ?_); rintro e w4 ⟨rfl, rfl⟩)
              refine wp_region_calm0 (by kernel_rfl) (by kernel_rfl) fun M => ?_
              have f0 := fun n : In M.w => n.cell (M.cell y0)
              repeat (go_big_quiet_step (fail))
              refine wpQuiet_nil ?_
              clear f0 M
              intro w5 hb5
              have HB5 := Lib.hid (HBR.out.trans (hb5.mono HBR.out.size))
              clear hb5 y0 y5 y6 m0
              go_wp2
              go_ret
              exact ⟨ret_b HF.out, HB.out.trans (HB5.out.mono HB.out.size)⟩
          · have hkj : k = j := by omega
            subst hkj
            have k1 : ¬ (k : Int) < (k : Int) := by omega
            have HB4 := Lib.hid (HB.out.trans (hbr.mono HB.out.size))
            have GW2 := Lib.hid (GW.out wr HB4.out)
            have HBR := Lib.hid hbr
            clear hk hkx hlt
            go_upto_region 10 with (go_at_call 27; (with_reducible refine GW2.out.mono ?_); rintro e w5 ⟨rfl, b5⟩; have HB5 := Lib.hid (HBR.out.trans (b5.mono HBR.out.size)); clear b5)
            clear y0 y1 y2 y3 y4 y5 y6 hla hbr GW2
            have z0 := (HX.out.kept HB5.out).cell 0 rfl
            have z5 := (HX.out.kept HB5.out).cell 5 rfl
            have z6 := (HX.out.kept HB5.out).cell 6 rfl
            have hla := LocksAt.below HA.out HB5.out
            by_cases hkn : k = n
            · have HF := Lib.hid (show true = r by
                rw [HRR.out]
                unfold seatV
                rw [HAL.out, decide_eq_true (hkn.trans HN.out.symm)]
                rfl)
              subst hkn
              have e1 : ((k : Int) == (k : Int)) = true := by simp
              clear hla
              refine wp_region_calm0 (by kernel_rfl) (by kernel_rfl) fun M => ?_
              have f0 := fun n : In M.w => n.cell (M.cell z0)
              have f5 := fun n : In M.w => n.cell (M.cell z5)
              have f6 := fun n : In M.w => n.cell (M.cell z6)
              repeat (go_big_quiet_step (fail))
              refine wpQuiet_nil ?_
              clear f0 f5 f6 M z0 z5 z6
              intro w6 hb6
              have HB6 := Lib.hid (HB5.out.trans (hb6.mono HB5.out.size))
              clear hb6
              go_wp2
              go_ret
              exact ⟨ret_b HF.out, HB.out.trans (HB6.out.mono HB.out.size)⟩
            · have hkl : k < xw.length := by rw [HN.out]; have := HJ.out; omega
              have hnx := HWT.out k rfl hkl
              have hwt := HWI.out
              have hin2 := HRR.out
              unfold seatV at hin2
              rw [HAL.out, decide_eq_false (by rw [HN.out]; exact hkn), List.getElem?_eq_getElem hkl] at hin2
              simp only [Option.getD_some, Bool.false_or, Bool.true_and] at hin2
              obtain ⟨id, hid⟩ : ∃ id, xw[k]'hkl = id := ⟨_, rfl⟩
              rw [hid] at hnx hin2
              rw [hnx] at hwt
              simp only at hwt
              have e1 : ((k : Int) == (n : Int)) = false := beq_noI (by omega)
              by_cases hin : id ∈ idsL Ls
              · obtain ⟨kk, q, g, o, c, e2, em, e3, e4, e5, p0, p1, p2, p3⟩ := lockSpot hla hin
                subst e5
                rw [(hdL_of e2).2] at hin2
                rw [e3] at hwt
                subst hwt
                have hkw := HLW.out kk em
                obtain ⟨id', hh, ka, kc, kw⟩ := kk
                simp only at p0 p1 p2 p3 hin2 hkw
                have GI := Lib.hid fun (w' : World) (h : Below w5.heap.size w5 w') => refIn_any (.slice ka kw.length kc) kw tk w' (p3.below h) (by omega)
                rw [← hin2] at GI
                have q2 : (0 : Int) ≤ (q : Int) := by omega
                have q3 : (q : Int) < (Ls.length : Int) := by omega
                have q4 : (q : Int) ≤ 1000 := by have := HL.out; omega
                generalize kw.length = kn at *
                clear hkl hnx hin2 hid hin e2 em e3 e4 hla p0 p1 p3 hkn hkw
                refine wp_region_calm0 (by kernel_rfl) (by kernel_rfl) fun M => ?_
                have f0 := fun n : In M.w => n.cell (M.cell z0)
                have f5 := fun n : In M.w => n.cell (M.cell z5)
                have f6 := fun n : In M.w => n.cell (M.cell z6)
                have f7 := fun n : In M.w => n.cell (M.cell p2)
                have GI2 := fun n : In M.w => GI.out n.w (M.h.trans (n.h.mono M.h.size))
                repeat (go_big_quiet_step ((go_at_call 31; with_reducible exact In.call_same (GI2 _))))
                refine wpQuiet_nil ?_
                clear f0 f5 f6 f7 GI2 M z0 z5 z6 p2
                intro w6 hb6
                have HB6 := Lib.hid (HB5.out.trans (hb6.mono HB5.out.size))
                clear hb6
                go_wp2
                go_ret
                exact ⟨rfl, HB.out.trans (HB6.out.mono HB.out.size)⟩
              · rw [(hdL_no (lkF_none hin)).2] at hin2
                rw [plc_none hin] at hwt
                subst hwt
                have HF := Lib.hid (show false = r by rw [hin2]; rfl)
                clear hkl hnx hin2 hid hin hla hkn
                refine wp_region_calm0 (by kernel_rfl) (by kernel_rfl) fun M => ?_
                have f0 := fun n : In M.w => n.cell (M.cell z0)
                have f5 := fun n : In M.w => n.cell (M.cell z5)
                have f6 := fun n : In M.w => n.cell (M.cell z6)
                repeat (go_big_quiet_step (fail))
                refine wpQuiet_nil ?_
                clear f0 f5 f6 M z0 z5 z6
                intro w6 hb6
                have HB6 := Lib.hid (HB5.out.trans (hb6.mono HB5.out.size))
                clear hb6
                go_wp2
                go_ret
                exact ⟨ret_b HF.out, HB.out.trans (HB6.out.mono HB.out.size)⟩
      · have q0 : ¬ go < 0 := by omega
        have q1 : (n : Int) < go := by omega
        rw [decide_eq_false h1, Bool.false_and, Bool.and_false] at hrr
        have HF := Lib.hid hrr.symm
        clear hrr h0 h1
        go_wp2_with (go_at_call 40; (with_reducible refine GR.out.mono ?_); rintro e w3 ⟨rfl, b3⟩; have HB3 := Lib.hid (HB.out.trans (b3.mono HB.out.size)); have y5 := (HX.out.kept b3).cell 5 rfl; have y6 := (HX.out.kept b3).cell 6 rfl; clear b3 x5 x6)
        go_ret
        exact ⟨ret_b HF.out, HB3.out⟩
    · have q0 : go < 0 := by omega
      rw [decide_eq_false h0, Bool.false_and] at hrr
      have HF := Lib.hid hrr.symm
      clear hrr h0
      go_wp2_with (go_at_call 40; (with_reducible refine GR.out.mono ?_); rintro e w3 ⟨rfl, b3⟩; have HB3 := Lib.hid (HB.out.trans (b3.mono HB.out.size)); have y5 := (HX.out.kept b3).cell 5 rfl; have y6 := (HX.out.kept b3).cell 6 rfl; clear b3 x5 x6)
      go_ret
      exact ⟨ret_b HF.out, HB3.out⟩
end Go.Proofs.Ytjmgokjljmmmgaa
