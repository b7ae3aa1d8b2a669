/- Texts of this proof, joined: WaM; AisGoesM; MapG; MapB; MapAh; WaTblM; XAt; WaRefA; WaRefB; AisLoadA; WaRefC. -/
import Derived.Test.YtjmgokjljmmmgaaGreatBun7
import Derived.Maps.OwnSet
import Derived.Maps.OwnOps
import Derived.WalkArith
import Derived.Deep.DeepCutAuto
/- Stage 21: who waits for whom: the mathematics. -/
namespace Go.Proofs.YtjmgokjljmmmgaaGreat
open Go.RowKit

def waitsX (x : Le) : Bool := decide (0 ≤ x.got) && decide (x.got < (x.want.length : Int))
def fullX (x : Le) : Bool := decide (x.got = (x.want.length : Int))
/-- the aisle that a lease waits for -/
def nxX (x : Le) : Option Int := if waitsX x = true then x.want[x.got.toNat]? else none
def lkF (Ls : List Lr) (id : Int) : Option Lr := Ls.find? fun k => k.id == id
/-- the lock that a lease waits for -/
def awX (Ls : List Lr) (x : Le) : Option Lr := (nxX x).bind (lkF Ls)
def arcX (Ls : List Lr) (x : Le) : Option Arc16 := (awX Ls x).bind fun k => if k.holder = 0 then none else some ⟨x.token, k.holder⟩
def arcsW (Xs : List Le) (Ls : List Lr) : List Arc16 := Xs.filterMap (arcX Ls)
def endsW (A : List Arc16) : List Int := A.flatMap fun a => [a.src, a.dst]
def ringW (Xs : List Le) (Ls : List Lr) : Bool := !decide ((ordL (endsW (arcsW Xs Ls)) (arcsW Xs Ls)).length = (setL (endsW (arcsW Xs Ls))).length)
def headW (A : List Arc16) (n : Int) : Option Int := (A.find? fun a => a.src == n).map Arc16.dst
def stepC (h : Int → Option Int) (out : List Int) : Option (List Int) := (h (out.getLastD 0)).bind fun q => if inL out q = true then none else some (out ++ [q])
def chainC (h : Int → Option Int) (t : Int) : Nat → List Int
  | 0 => [t]
  | k + 1 => (stepC h (chainC h t k)).getD (chainC h t k)
def chainW (Xs : List Le) (Ls : List Lr) (t : Int) : List Int := chainC (headW (arcsW Xs Ls)) t (arcsW Xs Ls).length
def readyX (Ls : List Lr) (x : Le) : Bool := fullX x || ((awX Ls x).map fun k => (k.holder == 0) && (k.wait.head? == some x.token)).getD false
def readyW (Xs : List Le) (Ls : List Lr) : List Int := (Xs.filter (readyX Ls)).map Le.token
/-- leases that may be, whatever the locks are -/
def lesW : Int → List Le → Bool
  | _, [] => true
  | last, x :: r => decide (last < x.token) && (rightB x.want && (decide (0 ≤ x.got) && (decide (x.got ≤ (x.want.length : Int)) && lesW x.token r)))
def seatsW (Xs : List Le) (Ls : List Lr) : Bool := (Xs.map Le.token).all fun t => seatB (mkT Ls Xs) t
def locksW (Xs : List Le) (Ls : List Lr) : Bool := Ls.all fun l => lockB (mkT Ls Xs) l
def rightW (Xs : List Le) (Ls : List Lr) : Bool := rightB (idsL Ls) && (lesW 0 Xs && (seatsW Xs Ls && locksW Xs Ls))
def fewW (Xs : List Le) (Ls : List Lr) : Bool := (decide (Xs.length ≤ 30) && decide (Ls.length ≤ 40)) && ((Xs.all fun x => decide (x.want.length ≤ 40)) && Ls.all fun x => decide (x.wait.length ≤ 40))

theorem lesW_cons {last : Int} {x : Le} {r : List Le} : lesW last (x :: r) = true ↔ last < x.token ∧ rightB x.want = true ∧ 0 ≤ x.got ∧ x.got ≤ (x.want.length : Int) ∧ lesW x.token r = true := by
  show (decide (last < x.token) && (rightB x.want && (decide (0 ≤ x.got) && (decide (x.got ≤ (x.want.length : Int)) && lesW x.token r)))) = true ↔ _
  simp only [Bool.and_eq_true, decide_eq_true_eq]
theorem lesW_ris : ∀ (Xs : List Le) (last : Int), lesW last Xs = true → (∀ t ∈ Xs.map Le.token, last < t) ∧ risL (Xs.map Le.token)
  | [], _, _ => ⟨fun _ h => (by cases h), List.Pairwise.nil⟩
  | x :: r, last, h => by
    obtain ⟨h1, _, _, _, h6⟩ := lesW_cons.1 h
    obtain ⟨i1, i2⟩ := lesW_ris r x.token h6
    refine ⟨fun t ht => ?_, ?_⟩
    · rw [List.map_cons] at ht
      rcases List.mem_cons.1 ht with rfl | ht
      · exact h1
      · have := i1 t ht; omega
    · rw [List.map_cons]
      exact List.pairwise_cons.2 ⟨i1, i2⟩
theorem lesW_each : ∀ (Xs : List Le) (last : Int), lesW last Xs = true → ∀ x ∈ Xs, rightB x.want = true ∧ 0 ≤ x.got ∧ x.got ≤ (x.want.length : Int)
  | [], _, _, _, h => (by cases h)
  | x :: r, last, h, y, hy => by
    obtain ⟨_, h2, h3, h4, h6⟩ := lesW_cons.1 h
    rcases List.mem_cons.1 hy with rfl | hy
    · exact ⟨h2, h3, h4⟩
    · exact lesW_each r _ h6 y hy
theorem lesW_drop {Xs : List Le} {k : Nat} (hk : k < Xs.length) (last : Int) : lesW last (Xs.drop k) = (decide (last < Xs[k].token) && (rightB Xs[k].want && (decide (0 ≤ Xs[k].got) && (decide (Xs[k].got ≤ (Xs[k].want.length : Int)) && lesW Xs[k].token (Xs.drop (k + 1)))))) := by
  rw [List.drop_eq_getElem_cons hk]
  rfl

/-! ### Chains -/
theorem stepC_last (h : Int → Option Int) (pre : List Int) (n : Int) : stepC h (pre ++ [n]) = (h n).bind fun q => if inL (pre ++ [n]) q = true then none else some (pre ++ [n] ++ [q]) := by
  unfold stepC
  rw [List.getLastD_concat]
theorem chain_stop {h : Int → Option Int} {t : Int} {j : Nat} (hs : stepC h (chainC h t j) = none) : ∀ d, chainC h t (j + d) = chainC h t j
  | 0 => rfl
  | d + 1 => by
    show (stepC h (chainC h t (j + d))).getD (chainC h t (j + d)) = _
    rw [chain_stop hs d, hs]
    rfl
theorem chain_end {h : Int → Option Int} {t : Int} {j N : Nat} (hs : stepC h (chainC h t j) = none) (hj : j ≤ N) : chainC h t N = chainC h t j := by
  obtain ⟨d, rfl⟩ := Nat.exists_eq_add_of_le hj
  exact chain_stop hs d
/-- a chain as far as j steps -/
structure ChI (A : List Arc16) (t : Int) (j : Nat) (pre : List Int) (n : Int) : Prop where
  is : pre ++ [n] = chainC (headW A) t j
  len : pre.length = j
  nd : (pre ++ [n]).Nodup
  heads : ∀ x ∈ pre, ∃ a ∈ A, a.src = x
theorem ChI.zero (A : List Arc16) (t : Int) : ChI A t 0 [] t := ⟨rfl, rfl, by simp, fun _ h => (by cases h)⟩
theorem headW_mem {A : List Arc16} {n m : Int} (h : headW A n = some m) : ∃ a ∈ A, a.src = n ∧ a.dst = m := by
  unfold headW at h
  cases hf : A.find? (fun a => a.src == n) with
  | none => rw [hf] at h; cases h
  | some a =>
    rw [hf] at h
    have h1 := List.find?_some hf
    exact ⟨a, List.mem_of_find?_eq_some hf, by simpa using h1, Option.some.inj h⟩
theorem ChI.room {A : List Arc16} {t : Int} {j : Nat} {pre : List Int} {n m : Int} (h : ChI A t j pre n) (hm : headW A n = some m) : j + 1 ≤ A.length := by
  obtain ⟨a, ha, hs, _⟩ := headW_mem hm
  have := len_of_sub (pre ++ [n]) (A.map Arc16.src) h.nd fun x hx => by
    rcases List.mem_append.1 hx with hx | hx
    · obtain ⟨b, hb, hs⟩ := h.heads x hx
      exact hs ▸ List.mem_map_of_mem hb
    · rw [List.mem_singleton.1 hx, ← hs]
      exact List.mem_map_of_mem ha
  rw [List.length_append, List.length_singleton, List.length_map, h.len] at this
  exact this
theorem ChI.next {A : List Arc16} {t : Int} {j : Nat} {pre : List Int} {n m : Int} (h : ChI A t j pre n) (hm : headW A n = some m) (hi : inL (pre ++ [n]) m = false) : ChI A t (j + 1) (pre ++ [n]) m := by
  have hno : m ∉ pre ++ [n] := of_decide_eq_false hi
  refine ⟨?_, by rw [List.length_append, h.len]; rfl, ?_, fun x hx => ?_⟩
  · show _ = (stepC (headW A) (chainC (headW A) t j)).getD _
    rw [← h.is, stepC_last, hm]
    show _ = (if inL (pre ++ [n]) m = true then none else some (pre ++ [n] ++ [m])).getD _
    rw [hi]
    rfl
  · rw [List.nodup_append]
    exact ⟨h.nd, by simp, fun a ha b hb e => by rw [List.mem_singleton] at hb; subst hb; subst e; exact hno ha⟩
  · rcases List.mem_append.1 hx with hx | hx
    · exact h.heads x hx
    · obtain ⟨a, ha, hs, _⟩ := headW_mem hm
      rw [List.mem_singleton.1 hx]
      exact ⟨a, ha, hs⟩
theorem ChI.noHead {A : List Arc16} {t : Int} {j : Nat} {pre : List Int} {n : Int} (h : ChI A t j pre n) (hj : j ≤ A.length) (hm : headW A n = none) : chainC (headW A) t A.length = pre ++ [n] := by
  rw [h.is]
  refine chain_end ?_ hj
  rw [← h.is, stepC_last, hm]
  rfl
theorem ChI.was {A : List Arc16} {t : Int} {j : Nat} {pre : List Int} {n m : Int} (h : ChI A t j pre n) (hj : j ≤ A.length) (hm : headW A n = some m) (hi : inL (pre ++ [n]) m = true) : chainC (headW A) t A.length = pre ++ [n] := by
  rw [h.is]
  refine chain_end ?_ hj
  rw [← h.is, stepC_last, hm]
  show (if inL (pre ++ [n]) m = true then none else some (pre ++ [n] ++ [m])) = none
  rw [hi]
  rfl
theorem arcs_len (Xs : List Le) (Ls : List Lr) : (arcsW Xs Ls).length ≤ Xs.length := List.length_filterMap_le ..
theorem ends_len (A : List Arc16) : (endsW A).length = 2 * A.length := by
  unfold endsW
  induction A with
  | nil => rfl
  | cons a r ih => rw [List.flatMap_cons, List.length_append, ih]; simp; omega
theorem arcs_next (Xs : List Le) (Ls : List Lr) (k : Nat) (hk : k < Xs.length) : arcsW (Xs.take (k + 1)) Ls = arcsW (Xs.take k) Ls ++ (arcX Ls Xs[k]).toList := by
  unfold arcsW
  rw [List.take_succ_eq_append_getElem hk, List.filterMap_append]
  cases h : arcX Ls Xs[k] <;> simp [h]
theorem ready_next (Xs : List Le) (Ls : List Lr) (k : Nat) (hk : k < Xs.length) : readyW (Xs.take (k + 1)) Ls = readyW (Xs.take k) Ls ++ (if readyX Ls Xs[k] = true then [Xs[k].token] else []) := by
  unfold readyW
  rw [List.take_succ_eq_append_getElem hk, List.filter_append, List.map_append]
  cases h : readyX Ls Xs[k] <;> simp [h]
theorem ends_next (A : List Arc16) (k : Nat) (hk : k < A.length) : endsW (A.take (k + 1)) = endsW (A.take k) ++ [A[k].src, A[k].dst] := by
  unfold endsW
  rw [List.take_succ_eq_append_getElem hk, List.flatMap_append]
  simp
end Go.Proofs.YtjmgokjljmmmgaaGreat
/- Stage 20: nobody is stuck: the mathematics (somebody is full, or a scan grants something; what is still to be done grows less). -/
namespace Go.Proofs.YtjmgokjljmmmgaaGreat
open Go.RowKit

theorem scanL_stay (T : Tb) : ∀ l : List Int, (T.scanL l).2 = [] → (T.scanL l).1 = T := by
  refine snoc_ind (fun _ => rfl) fun l x ih h => ?_
  rw [scanL_snoc] at h ⊢
  obtain ⟨h1, h2⟩ := List.append_eq_nil_iff.1 h
  have h3 := ih h1
  show ((T.scanL l).1.step x).1 = T
  rcases step_cases (T.scanL l).1 x with hc | ⟨t, r, h0, hw⟩
  · rw [step_none hc]; exact h3
  · rw [step_some h0 hw] at h2
    cases h2
theorem max_at (f : Int → Int) : ∀ l : List Int, l ≠ [] → ∃ x ∈ l, ∀ y ∈ l, f y ≤ f x
  | [], h => (h rfl).elim
  | a :: t, _ => by
    by_cases ht : t = []
    · subst ht
      exact ⟨a, by simp, fun y hy => by rw [List.mem_singleton.1 hy]; exact Int.le_refl _⟩
    · obtain ⟨x, hx, hm⟩ := max_at f t ht
      by_cases hc : f x ≤ f a
      · exact ⟨a, by simp, fun y hy => by
          rcases List.mem_cons.1 hy with rfl | hy
          · exact Int.le_refl _
          · have := hm y hy; omega⟩
      · exact ⟨x, by simp [hx], fun y hy => by
          rcases List.mem_cons.1 hy with rfl | hy
          · omega
          · exact hm y hy⟩
theorem not_full {T : Tb} (hf : T.fullL = []) {t : Int} (ht : t ∈ T.toks) (hg : T.got t ≤ (T.want t).length) : ∃ id, T.nx t = some id := by
  have h1 : T.got t ≠ (T.want t).length := fun e => by
    have : t ∈ T.fullL := List.mem_filter.2 ⟨ht, by unfold Tb.isFull; simpa using e⟩
    rw [hf] at this
    cases this
  exact ⟨(T.want t)[T.got t]'(by omega), List.getElem?_eq_getElem (by omega)⟩
/-- nobody is stuck -/
theorem scan_goes {T : Tb} (hok : T.Ok) (hn : T.toks ≠ []) (hf : T.fullL = []) : T.scan.2 ≠ [] := by
  intro hs
  have he : T.scan.1 = T := scanL_stay T T.ids hs
  obtain ⟨t, ht, hm⟩ := max_at (fun x => (T.nx x).getD 0) T.toks hn
  obtain ⟨id, hid⟩ := not_full hf ht (hok.gl t ht)
  have hii := hok.nx_ids ht hid
  have hw := hok.waits t ht (by simp) id hid
  have hfr := scan_free hok id hii
  rw [he] at hfr
  have h0 : T.hd id ≠ 0 := by
    rcases hfr with h | h
    · exact h
    · rw [h] at hw
      cases hw
  obtain ⟨hu, htake⟩ := hok.hold id hii h0
  obtain ⟨id2, hid2⟩ := not_full hf hu (hok.gl _ hu)
  have hlt := hok.nx_take hu hid2 htake
  have := hm _ hu
  simp only [hid, hid2, Option.getD_some] at this
  omega
/-- how much is still to be done -/
def lack (T : Tb) (t : Int) : Nat := (T.want t).length - T.got t + 1
def Tb.todo (T : Tb) : Nat := (T.toks.map (lack T)).sum
theorem sum_same {f g : Int → Nat} : ∀ l : List Int, (∀ x ∈ l, f x = g x) → (l.map f).sum = (l.map g).sum
  | [], _ => rfl
  | a :: t, h => by
    rw [List.map_cons, List.map_cons, List.sum_cons, List.sum_cons, h a (by simp), sum_same t fun x hx => h x (by simp [hx])]
theorem sum_less {f g : Int → Nat} {t : Int} {k : Nat} : ∀ l : List Int, l.Nodup → t ∈ l → (∀ x ∈ l, x ≠ t → f x = g x) → f t + k = g t → (l.map f).sum + k = (l.map g).sum
  | [], _, h, _, _ => (by cases h)
  | a :: l, hn, h, he, hk => by
    obtain ⟨ha, hn2⟩ := List.nodup_cons.1 hn
    rw [List.map_cons, List.map_cons, List.sum_cons, List.sum_cons]
    rcases List.mem_cons.1 h with rfl | h
    · rw [sum_same l fun x hx => he x (by simp [hx]) fun e => ha (e ▸ hx)]
      omega
    · have h1 := sum_less l hn2 h (fun x hx => he x (by simp [hx])) hk
      have h2 := he a (by simp) fun e => ha (e ▸ h)
      omega
theorem sum_sub {f : Int → Nat} {t : Int} : ∀ l : List Int, t ∈ l → ((l.filter fun x => decide (x ≠ t)).map f).sum + f t ≤ (l.map f).sum
  | [], h => (by cases h)
  | a :: l, h => by
    have hle : ∀ l : List Int, ((l.filter fun x => decide (x ≠ t)).map f).sum ≤ (l.map f).sum := by
      intro l
      induction l with
      | nil => exact Nat.le_refl _
      | cons b l ih =>
        rw [List.filter_cons]
        split
        · rw [List.map_cons, List.map_cons, List.sum_cons, List.sum_cons]; omega
        · rw [List.map_cons, List.sum_cons]; omega
    rw [List.filter_cons]
    by_cases e : a = t
    · subst e
      rw [if_neg (by simp), List.map_cons, List.sum_cons]
      have := hle l
      omega
    · have h' : t ∈ l := by
        rcases List.mem_cons.1 h with rfl | h
        · exact (e rfl).elim
        · exact h
      rw [if_pos (by simpa using e), List.map_cons, List.map_cons, List.sum_cons, List.sum_cons]
      have := sum_sub (f := f) l h'
      omega
theorem sum_perm {f : Int → Nat} {l l' : List Int} (h : l.Perm l') : (l.map f).sum = (l'.map f).sum := (h.map f).sum_nat
theorem ask_todo (T : Tb) (t : Int) : (T.ask t).todo = T.todo := by
  have h := ask_ids T t
  unfold Tb.todo lack
  rw [h.2.1, h.2.2.1, h.2.2.2.1]
theorem step_todo {T : Tb} (hok : T.Ok) {id : Int} (hi : id ∈ T.ids) : (T.step id).1.todo + (T.step id).2.length = T.todo := by
  rcases step_cases T id with h | ⟨t, r, h0, hw⟩
  · rw [step_none h]; rfl
  · rw [step_some h0 hw]
    show ((T.give id t r).ask t).todo + 1 = T.todo
    rw [ask_todo]
    obtain ⟨ht, hn⟩ := hok.wait id hi t (by rw [hw]; simp)
    obtain ⟨hg, _⟩ := nx_at hn
    refine sum_less (f := lack (T.give id t r)) (g := lack T) (t := t) T.toks (ris_nodup hok.ris) ht (fun x _ hx => ?_) ?_
    · show (T.want x).length - upF T.got t (T.got t + 1) x + 1 = _
      rw [upF_ne _ _ hx]; rfl
    · show (T.want t).length - upF T.got t (T.got t + 1) t + 1 + 1 = (T.want t).length - T.got t + 1
      rw [upF_same]
      omega
theorem scanL_todo {T : Tb} (hok : T.Ok) : ∀ l : List Int, (∀ x ∈ l, x ∈ T.ids) → (T.scanL l).1.todo + (T.scanL l).2.length = T.todo := by
  refine snoc_ind (fun _ => rfl) fun l x ih hl => ?_
  have h1 := ih fun y hy => hl y (by simp [hy])
  have h2 := scanL_ok hok l fun y hy => hl y (by simp [hy])
  have h3 := step_todo h2 (id := x) (by rw [(scanL_ids T l).1]; exact hl x (by simp))
  rw [scanL_snoc, List.length_append]
  show ((T.scanL l).1.step x).1.todo + _ = _
  omega
theorem scan_todo {T : Tb} (hok : T.Ok) : T.scan.1.todo + T.scan.2.length = T.todo := scanL_todo hok T.ids fun _ h => h
theorem leave_todo {T : Tb} {t : Int} (ht : t ∈ T.toks) : (T.leave t).todo + 1 ≤ T.todo := by
  have h := sum_sub (f := lack T) T.toks ht
  unfold Tb.leave
  rw [if_pos ht]
  show ((T.toks.filter fun x => decide (x ≠ t)).map (lack T)).sum + 1 ≤ T.todo
  have : 1 ≤ lack T t := by unfold lack; omega
  show _ ≤ (T.toks.map (lack T)).sum
  omega
theorem leave_toks {T : Tb} {t x : Int} (hx : x ∈ T.toks) (hn : x ≠ t) : x ∈ (T.leave t).toks := by
  unfold Tb.leave
  split
  · exact List.mem_filter.2 ⟨hx, by simpa using hn⟩
  · exact hx
theorem enter_todo {T : Tb} {t : Int} {l : List Int} (he : T.enterE t l = 0) : (T.enter t l).todo = T.todo + (l.length + 1) := by
  have ht : t ∉ T.toks := by
    intro h
    unfold Tb.enterE at he
    split at he
    · omega
    · split at he
      · omega
      · omega
  unfold Tb.enter
  rw [if_pos he, ask_todo]
  show ((insI t T.toks).map (lack (T.put t l))).sum = _
  rw [sum_perm (insG_perm (fun x => x) t T.toks), List.map_cons, List.sum_cons]
  have h1 : lack (T.put t l) t = l.length + 1 := by
    show (upF T.want t l t).length - upF T.got t 0 t + 1 = _
    rw [upF_same, upF_same]; omega
  have h2 : (T.toks.map (lack (T.put t l))).sum = (T.toks.map (lack T)).sum := sum_same _ fun x hx => by
    have hn : x ≠ t := fun e => ht (e ▸ hx)
    show (upF T.want t l x).length - upF T.got t 0 x + 1 = _
    rw [upF_ne _ _ hn, upF_ne _ _ hn]; rfl
  rw [h1, h2]
  unfold Tb.todo
  omega
theorem enter_stay {T : Tb} {t : Int} {l : List Int} (he : T.enterE t l ≠ 0) : T.enter t l = T := if_neg he
theorem full_sub {T : Tb} {x : Int} (h : x ∈ T.fullL) : x ∈ T.toks := (List.mem_filter.1 h).1
theorem full_nodup {T : Tb} (h : T.Ok) : T.fullL.Nodup := List.Nodup.sublist List.filter_sublist (ris_nodup h.ris)
theorem scan_toks (T : Tb) : T.scan.1.toks = T.toks := (scanL_ids T T.ids).2.1
end Go.Proofs.YtjmgokjljmmmgaaGreat
/- A map with keys of kind int in memory, told as a function: each key's element, or none; how many there are. The laws at the operations, for the walk. FOR ALL STAGES WITH MAPS. -/
namespace Go.Proofs.YtjmgokjljmmmgaaGreat
open Go.RowKit Go.Maps

/-- how elements stand in the map -/
structure Elt (P : Program) (e : TypeId) where
  α : Type
  val : α → Value
  enc : α → DataW Unit
  ok : α → Prop
  z : α
  R : Value → Option (DataW Unit × List MemPlace)
  out : ∀ x, ok x → R (val x) = some (enc x, [])
  inv : ∀ v x ps, R v = some (enc x, ps) → v = val x
  okz : ok z
  hz : ∀ w, (zeroValue e).run P w = .ok (val z) w

/-- in the range of int -/
def I64 (n : Int) : Prop := -9223372036854775808 ≤ n ∧ n ≤ 9223372036854775807
theorem I64.wf {n : Int} (h : I64 n) : (Lit.int .i64 n).wf = true := WalkArith.wf_i64 h
theorem kl_ne {a b : Int} (h : a ≠ b) : Lit.int .i64 a ≠ Lit.int .i64 b := fun e => h (by injection e)
/-- what a map is turned into at one key -/
def updG {α : Type} (g : Int → Option α) (id : Int) (v : Option α) : Int → Option α := fun k => if k = id then v else g k
theorem updG_same {α : Type} (g : Int → Option α) (id : Int) (v : Option α) : updG g id v id = v := if_pos rfl
theorem updG_other {α : Type} (g : Int → Option α) {id k : Int} (v : Option α) (h : k ≠ id) : updG g id v k = g k := if_neg h

/-- elements that are ints -/
def eltI (P : Program) (e : TypeId) (he : P.underlying e = some (.int .i64)) (hz : ∀ w, (zeroValue e).run P w = .ok (.int .i64 0) w) : Elt P e where
  α := Int
  val := fun n => .int .i64 n
  enc := fun n => .lit (.int .i64 n)
  ok := I64
  z := 0
  R := plainElem P e
  out := fun x hx => plainElem_int he hx.wf
  inv := fun v x ps h => by
    obtain ⟨a, rfl, e2, _⟩ := plainElem_int_inv he h
    have := congrArg Prod.fst e2
    simp at this
    rw [this]
  okz := by unfold I64; omega
  hz := hz

section
variable {P : Program} {kt e : TypeId} (E : Elt P e)

/-- block b is a map of m entries: at each number of the range of int what g tells -/
def MapG (kt : TypeId) (w : World) (b m : Nat) (g : Int → Option E.α) : Prop :=
  ∃ D, w.ownsMap P kt E.R b m D ∧ Maps.size D = m ∧ ∀ id, I64 id → match g id with
    | none => Maps.has D (.int .i64 id) = false
    | some x => Maps.has D (.int .i64 id) = true ∧ ∀ z, D.atKey (.int .i64 id) z = E.enc x
variable {E} {w w' : World} {b m : Nat} {g : Int → Option E.α}
theorem MapG.lt (h : MapG E kt w b m g) : b < w.heap.size := by
  obtain ⟨D, h1, _⟩ := h
  exact h1.lt
theorem MapG.same (h : MapG E kt w b m g) (he : w'.heap[b]? = w.heap[b]?) : MapG E kt w' b m g := by
  obtain ⟨D, ⟨es, clock, hb, r⟩, h2⟩ := h
  exact ⟨D, ⟨es, clock, he.trans hb, r⟩, h2⟩
theorem MapG.kept (h : MapG E kt w b m g) (hb : Below w.heap.size w w') : MapG E kt w' b m g := h.same (hb.block b h.lt)
theorem MapG.away (h : MapG E kt w b m g) (a : Addr) (u : Value) (hne : b ≠ a.block) : MapG E kt (w.setCell a u) b m g := h.same (Below.heap_setCell w a u b hne)
theorem MapG.grown {row : Option Nat} (h : MapG E kt w b m g) (hg : w.grownBy w' row) (hne : some b ≠ row) : MapG E kt w' b m g := h.same (hg.block b h.lt hne)
theorem MapG.new (w : World) : MapG E kt (w.alloc (.map #[] 0)) w.heap.size 0 (fun _ => none) :=
  ⟨.map [], World.ownsMap_made _ _ _ _, rfl, fun _ _ => rfl⟩
/-- a map's block is no row of cells -/
theorem MapG.ne {k : Nat} {cs : Array Value} {t : TypeId} {fz : Nat × Nat} (h : MapG E kt w b m g) (hk : w.heap[k]? = some (.cells cs t fz)) : b ≠ k := fun e => by
  obtain ⟨D, ⟨es, clock, hb, r⟩, h2⟩ := h
  rw [e, hk] at hb
  cases hb
theorem MapG.ne_cell {a : Addr} {u : Value} (h : MapG E kt w b m g) (hk : w.cell? a = some u) : b ≠ a.block := fun e => by
  obtain ⟨D, ⟨es, clock, hb, r⟩, h2⟩ := h
  rw [e] at hb
  simp [World.cell?, hb] at hk

/-! ### At the operations -/
variable {ops : Array Oper} {rest : List Oper} {o : Oper} {a : Act} {Q : Exit → Act → World → Prop}
theorem wpList_lookG2 (hg : o.guard = none) (mo x : Operand) (t : TypeId) (hop : o.op = Op.lookup t mo x true) (hk : P.underlying kt = some (.int .i64)) (ht : P.underlying t = some (.map kt e))
    (hm : a.eval mo = .map (some b)) (h : MapG E kt w b m g) (id : Int) (hi : I64 id) (hx : a.eval x = .int .i64 id)
    (hK : wpList P ops Q rest (a.put o.dst (.tuple #[E.val ((g id).getD E.z), .bool (g id).isSome])) w) : wpList P ops Q (o :: rest) a w := by
  obtain ⟨D, h1, _, h3⟩ := h
  refine wpList_lookup_own_ok w hg mo x t hop kt e (int_keyed hk) ht E.R (E.hz w) (E.enc E.z) [] (E.out _ E.okz) b m D hm h1 _ _ hx (keyOf_int_mk hk hi.wf) fun v ps hv => ?_
  have := h3 id hi
  cases hgi : g id with
  | none =>
    rw [hgi] at this hK
    simp only at this
    rw [Maps.atKey_of_not_has this] at hv
    rw [E.inv _ _ _ hv, this]
    exact hK
  | some y =>
    rw [hgi] at this hK
    simp only at this
    rw [this.2] at hv
    rw [E.inv _ _ _ hv, this.1]
    exact hK
theorem wpList_putG (hg : o.guard = none) (mo x vo : Operand) (t : TypeId) (hop : o.op = Op.mapUpdate t mo x vo) (hk : P.underlying kt = some (.int .i64)) (ht : P.underlying t = some (.map kt e))
    (hm : a.eval mo = .map (some b)) (h : MapG E kt w b m g) (hn : m < maxLen) (id : Int) (hi : I64 id) (hx : a.eval x = .int .i64 id) (y : E.α) (hy : E.ok y) (hv : a.eval vo = E.val y)
    (hK : ∀ w', MapG E kt w' b (if (g id).isSome then m else m + 1) (updG g id (some y)) → w.grownBy w' (some b) → wpList P ops Q rest (a.put o.dst undef) w') : wpList P ops Q (o :: rest) a w := by
  obtain ⟨D, h1, h2, h3⟩ := h
  refine wpList_mapUpdate_in w hg mo x vo t hop kt e (int_keyed hk) ht E.R b m D hm h1 hn _ _ _ hx hv (keyOf_int_mk hk hi.wf) (E.enc y) [] (E.out y hy) fun w' h4 h5 => ?_
  have htidy := h1.tidy (int_keyed hk)
  have hsz := Maps.size_put (k := Lit.int .i64 id) htidy (E.enc y)
  have hh : Maps.has D (.int .i64 id) = (g id).isSome := by
    have := h3 id hi
    cases hgi : g id with
    | none => rw [hgi] at this; exact this
    | some y => rw [hgi] at this; exact this.1
  rw [hh, h2] at hsz
  refine hK w' ⟨D.put (.int .i64 id) (E.enc y), ?_, hsz, fun k hkk => ?_⟩ h5.grown
  · obtain ⟨es, clock, r1, r2, r3, r4⟩ := h4
    refine ⟨es, clock, r1, r2, ?_, r4⟩
    rw [← hsz, r4]
    simp [Maps.size, length_sorted]
  · by_cases ek : k = id
    · subst ek
      rw [updG_same]
      exact ⟨Maps.has_put_same (k := Lit.int .i64 k) htidy.isMap trivial _, fun z => Maps.atKey_put_same (k := Lit.int .i64 k) htidy.isMap trivial _ z⟩
    · rw [updG_other _ _ ek]
      have := h3 k hkk
      cases hgk : g k with
      | none =>
        rw [hgk] at this
        show Maps.has _ _ = false
        rw [Maps.has_put_other (kl_ne ek)]
        exact this
      | some y2 =>
        rw [hgk] at this
        refine ⟨?_, fun z => ?_⟩
        · rw [Maps.has_put_other (kl_ne ek)]; exact this.1
        · rw [Maps.atKey_put_other (kl_ne ek)]; exact this.2 z
theorem wpList_delG (hg : o.guard = none) (mo x : Operand) (t : TypeId) (hop : o.op = Op.call { callee := Callee.builtin Builtin.delete, args := #[mo, x], argTypes := #[t, kt] }) (hk : P.underlying kt = some (.int .i64)) (ht : P.underlying t = some (.map kt e))
    (hm : a.eval mo = .map (some b)) (h : MapG E kt w b m g) (id : Int) (hi : I64 id) (hx : a.eval x = .int .i64 id)
    (hK : ∀ w', MapG E kt w' b (if (g id).isSome then m - 1 else m) (updG g id none) → w.grownBy w' (some b) → wpList P ops Q rest (a.put o.dst (.tuple #[])) w') : wpList P ops Q (o :: rest) a w := by
  obtain ⟨D, h1, h2, h3⟩ := h
  refine wpList_delete_own w hg mo x t kt hop e (int_keyed hk) ht E.R b m D hm h1 _ _ hx (keyOf_int_mk hk hi.wf) fun w' h4 h5 => ?_
  have htidy := h1.tidy (int_keyed hk)
  have hsz := Maps.size_del (k := Lit.int .i64 id) htidy
  have hh : Maps.has D (.int .i64 id) = (g id).isSome := by
    have := h3 id hi
    cases hgi : g id with
    | none => rw [hgi] at this; exact this
    | some y => rw [hgi] at this; exact this.1
  rw [hh, h2] at hsz
  have hsz2 : Maps.size (D.del (.int .i64 id)) = if (g id).isSome then m - 1 else m := by
    by_cases hi2 : (g id).isSome = true
    · rw [if_pos hi2] at hsz ⊢; omega
    · rw [if_neg hi2] at hsz ⊢; omega
  refine hK w' ⟨D.del (.int .i64 id), ?_, hsz2, fun k hkk => ?_⟩ h5.grown
  · obtain ⟨es, clock, r1, r2, r3, r4⟩ := h4
    refine ⟨es, clock, r1, r2, ?_, r4⟩
    rw [← hsz2, r4]
    simp [Maps.size, length_sorted]
  · by_cases ek : k = id
    · subst ek
      rw [updG_same]
      exact Maps.has_del_same
    · rw [updG_other _ _ ek]
      have := h3 k hkk
      cases hgk : g k with
      | none =>
        rw [hgk] at this
        show Maps.has _ _ = false
        rw [Maps.has_del_other (kl_ne ek)]
        exact this
      | some y2 =>
        rw [hgk] at this
        refine ⟨?_, fun z => ?_⟩
        · rw [Maps.has_del_other (kl_ne ek)]; exact this.1
        · rw [Maps.atKey_del_other (kl_ne ek)]; exact this.2 z
theorem wpList_lenG (hg : o.guard = none) (mo : Operand) (t : TypeId) (hop : o.op = Op.call { callee := Callee.builtin Builtin.len, args := #[mo], argTypes := #[t] }) (ht : P.underlying t = some (.map kt e))
    (hm : a.eval mo = .map (some b)) (h : MapG E kt w b m g) (hK : wpList P ops Q rest (a.put o.dst (.int .i64 m)) w) : wpList P ops Q (o :: rest) a w := by
  obtain ⟨D, h1, h2, _⟩ := h
  refine wpList_len_own w hg mo t hop kt e ht E.R b m D hm h1 ?_
  rw [h2]
  exact hK
/-- 'm[k]' and 'v, ok := m[k]' as equations, for regions that draw -/
theorem MapG.look (h : MapG E kt w b m g) (hk : P.underlying kt = some (.int .i64)) {t : TypeId} (ht : P.underlying t = some (.map kt e)) {id : Int} (hi : I64 id) :
    (Instr.lookup t (.map (some b)) (.int .i64 id) true).run P w = .ok (.tuple #[E.val ((g id).getD E.z), .bool (g id).isSome]) w := by
  obtain ⟨D, h1, _, h3⟩ := h
  obtain ⟨v, ps, hrun, hv⟩ := h1.look_ok (int_keyed hk) ht (E.hz w) (E.out _ E.okz) (keyOf_int_mk hk hi.wf)
  rw [hrun]
  have := h3 id hi
  cases hgi : g id with
  | none =>
    rw [hgi] at this
    simp only at this
    rw [Maps.atKey_of_not_has this] at hv
    rw [E.inv _ _ _ hv, this]
    rfl
  | some y =>
    rw [hgi] at this
    simp only at this
    rw [this.2] at hv
    rw [E.inv _ _ _ hv, this.1]
    rfl
theorem MapG.look1 (h : MapG E kt w b m g) (hk : P.underlying kt = some (.int .i64)) {t : TypeId} (ht : P.underlying t = some (.map kt e)) {id : Int} (hi : I64 id) :
    (Instr.lookup t (.map (some b)) (.int .i64 id) false).run P w = .ok (E.val ((g id).getD E.z)) w := by
  obtain ⟨D, h1, _, h3⟩ := h
  obtain ⟨v, ps, hrun, hv⟩ := h1.lookup (int_keyed hk) ht (E.hz w) (E.out _ E.okz) (keyOf_int_mk hk hi.wf)
  rw [hrun]
  have := h3 id hi
  cases hgi : g id with
  | none =>
    rw [hgi] at this
    simp only at this
    rw [Maps.atKey_of_not_has this] at hv
    rw [E.inv _ _ _ hv]
    rfl
  | some y =>
    rw [hgi] at this
    simp only at this
    rw [this.2] at hv
    rw [E.inv _ _ _ hv]
    rfl
theorem MapG.len (h : MapG E kt w b m g) {t : TypeId} (ht : P.underlying t = some (.map kt e)) (ty : TypeId) : (Builtin.len_ #[t] ty #[.map (some b)]).run P w = .ok (.int .i64 m) w := by
  obtain ⟨D, h1, h2, _⟩ := h
  rw [h1.len ht ty, h2]
end
end Go.Proofs.YtjmgokjljmmmgaaGreat
/- Maps from ints to bools (map[int]bool): XMapG's laws in plain words. FOR ALL LATER STAGES (without XMapI's map[int]int). -/
namespace Go.Proofs.YtjmgokjljmmmgaaGreat
open Go.RowKit Go.Maps

/-- what a store does, as an equation of its run -/
theorem MapG.stored {P : Program} {kt e : TypeId} {E : Elt P e} {w : World} {b m : Nat} {g : Int → Option E.α} (h : MapG E kt w b m g) (hk : P.underlying kt = some (.int .i64)) {t : TypeId} (ht : P.underlying t = some (.map kt e)) (hn : m < maxLen) {id : Int} (hi : I64 id) (y : E.α) (hy : E.ok y) :
    ∃ w', (Instr.mapUpdate t (.map (some b)) (.int .i64 id) (E.val y)).run P w = .ok () w' ∧ MapG E kt w' b (if (g id).isSome then m else m + 1) (updG g id (some y)) ∧ w.grownBy w' (some b) := by
  obtain ⟨D, h1, h2, h3⟩ := h
  obtain ⟨w', hrun, h4, h5⟩ := h1.store (int_keyed hk) ht hn (keyOf_int_mk hk hi.wf) (E.out y hy)
  have htidy := h1.tidy (int_keyed hk)
  have hsz := Maps.size_put (k := Lit.int .i64 id) htidy (E.enc y)
  have hh : Maps.has D (.int .i64 id) = (g id).isSome := by
    have := h3 id hi
    cases hgi : g id with
    | none => rw [hgi] at this; exact this
    | some y => rw [hgi] at this; exact this.1
  rw [hh, h2] at hsz
  refine ⟨w', hrun, ⟨D.put (.int .i64 id) (E.enc y), ?_, hsz, fun k hkk => ?_⟩, h5.grown⟩
  · obtain ⟨es, clock, r1, r2, r3, r4⟩ := h4
    refine ⟨es, clock, r1, r2, ?_, r4⟩
    rw [← hsz, r4]
    simp [Maps.size, length_sorted]
  · by_cases ek : k = id
    · subst ek
      rw [updG_same]
      exact ⟨Maps.has_put_same (k := Lit.int .i64 k) htidy.isMap trivial _, fun z => Maps.atKey_put_same (k := Lit.int .i64 k) htidy.isMap trivial _ z⟩
    · rw [updG_other _ _ ek]
      have := h3 k hkk
      cases hgk : g k with
      | none =>
        rw [hgk] at this
        show Maps.has _ _ = false
        rw [Maps.has_put_other (kl_ne ek)]
        exact this
      | some y2 =>
        rw [hgk] at this
        refine ⟨?_, fun z => ?_⟩
        · rw [Maps.has_put_other (kl_ne ek)]; exact this.1
        · rw [Maps.atKey_put_other (kl_ne ek)]; exact this.2 z

def readB : Value → Option (DataW Unit × List MemPlace)
  | .bool b => some (.lit (.bool b), [])
  | _ => none
noncomputable def EB : Elt Tryz.prog 4 where
  α := Bool
  val := fun x => .bool x
  enc := fun x => .lit (.bool x)
  ok := fun _ => True
  z := false
  R := readB
  out := fun _ _ => rfl
  inv := fun v x ps h => by
    unfold readB at h
    split at h
    · simp only [Option.some.injEq, Prod.mk.injEq, DataW.lit.injEq, Lit.bool.injEq] at h
      rw [h.1]
    · cases h
  okz := trivial
  hz := fun w => by kernel_rfl
def MapB (w : World) (b m : Nat) (g : Int → Option Bool) : Prop := MapG EB 3 w b m g
section
variable {w w' : World} {b m : Nat} {g : Int → Option Bool}
theorem MapB.lt (h : MapB w b m g) : b < w.heap.size := MapG.lt h
theorem MapB.same (h : MapB w b m g) (he : w'.heap[b]? = w.heap[b]?) : MapB w' b m g := MapG.same h he
theorem MapB.kept (h : MapB w b m g) (hb : Below w.heap.size w w') : MapB w' b m g := MapG.kept h hb
theorem MapB.away (h : MapB w b m g) (a : Addr) (u : Value) (hne : b ≠ a.block) : MapB (w.setCell a u) b m g := MapG.away h a u hne
theorem MapB.new (w : World) : MapB (w.alloc (.map #[] 0)) w.heap.size 0 (fun _ => none) := MapG.new w
theorem MapB.ne_cell {a : Addr} {u : Value} (h : MapB w b m g) (hk : w.cell? a = some u) : b ≠ a.block := MapG.ne_cell h hk
theorem MapB.look1 (h : MapB w b m g) {id : Int} (hi : I64 id) : (Instr.lookup 105 (.map (some b)) (.int .i64 id) false).run Tryz.prog w = .ok (.bool ((g id).getD false)) w :=
  MapG.look1 (E := EB) h Tryz.underlying3 Tryz.underlying105 hi
theorem MapB.put (h : MapB w b m g) (hn : m ≤ 1000000) {id : Int} (hi : I64 id) (y : Bool) :
    ∃ w', (Instr.mapUpdate 105 (.map (some b)) (.int .i64 id) (.bool y)).run Tryz.prog w = .ok () w' ∧ MapB w' b (if (g id).isSome then m else m + 1) (updG g id (some y)) ∧ w.grownBy w' (some b) :=
  MapG.stored (E := EB) h Tryz.underlying3 Tryz.underlying105 (by unfold maxLen; omega) hi y trivial
variable {ops : Array Oper} {rest : List Oper} {o : Oper} {a : Act} {Q : Exit → Act → World → Prop}
theorem wpList_delB (hg : o.guard = none) (hd : o.dst = none) (mo x : Operand) (hop : o.op = Op.call { callee := Callee.builtin Builtin.delete, args := #[mo, x], argTypes := #[105, 3] })
    (hm : a.eval mo = .map (some b)) (h : MapB w b m g) (id : Int) (hi : I64 id) (hx : a.eval x = .int .i64 id)
    (hK : ∀ w', MapB w' b (if (g id).isSome then m - 1 else m) (updG g id none) → w.grownBy w' (some b) → wpList Tryz.prog ops Q rest a w') : wpList Tryz.prog ops Q (o :: rest) a w := by
  refine wpList_delG (E := EB) hg mo x 105 hop Tryz.underlying3 Tryz.underlying105 hm h id hi hx fun w' h1 h2 => by
    rw [hd]
    exact hK w' h1 h2
theorem wpList_lenB (hg : o.guard = none) (mo : Operand) (hop : o.op = Op.call { callee := Callee.builtin Builtin.len, args := #[mo], argTypes := #[105] })
    (hm : a.eval mo = .map (some b)) (h : MapB w b m g) (hK : wpList Tryz.prog ops Q rest (a.put o.dst (.int .i64 m)) w) : wpList Tryz.prog ops Q (o :: rest) a w :=
  wpList_lenG (E := EB) hg mo 105 hop Tryz.underlying105 hm h hK
end
end Go.Proofs.YtjmgokjljmmmgaaGreat
/- A map from ints to lists that lie anywhere. FOR ALL LATER STAGES. -/
namespace Go.Proofs.YtjmgokjljmmmgaaGreat
open Go.RowKit Go.Maps

/-- a list's header, wherever it points -/
structure Ah where
  a : Option Addr
  n : Nat
  c : Nat
def ahv (x : Ah) : Value := .slice x.a x.n x.c
def ah0 : Ah := ⟨none, 0, 0⟩
def encA : Ah → DataW Unit
  | ⟨none, n, c⟩ => .agg [.lit (.int .i64 (-1)), .lit (.int .i64 0), .lit (.int .i64 0), .lit (.int .i64 (n : Int)), .lit (.int .i64 (c : Int))]
  | ⟨some ⟨b, o, none⟩, n, c⟩ => .agg [.lit (.int .i64 (b : Int)), .lit (.int .i64 (o : Int)), .lit (.int .i64 (-1)), .lit (.int .i64 (n : Int)), .lit (.int .i64 (c : Int))]
  | ⟨some ⟨b, o, some s⟩, n, c⟩ => .agg [.lit (.int .i64 (b : Int)), .lit (.int .i64 (o : Int)), .lit (.int .i64 (s : Int)), .lit (.int .i64 (n : Int)), .lit (.int .i64 (c : Int))]
def readA : Value → Option (DataW Unit × List MemPlace)
  | .slice a n c => some (encA ⟨a, n, c⟩, [])
  | _ => none
theorem encA_inj {x y : Ah} (h : encA x = encA y) : x = y := by
  obtain ⟨a, n, c⟩ := x
  obtain ⟨a', n', c'⟩ := y
  rcases a with _ | ⟨b, o, _ | s⟩ <;> rcases a' with _ | ⟨b', o', _ | s'⟩ <;>
    simp only [encA, DataW.agg.injEq, List.cons.injEq, DataW.lit.injEq, Lit.int.injEq, true_and, and_true] at h
  all_goals first
    | (exfalso; omega)
    | (obtain ⟨h1, h2⟩ := h; have e1 : n = n' := by omega
       have e2 : c = c' := by omega
       subst e1 e2; rfl)
    | (obtain ⟨h1, h2, h3, h4⟩ := h; have e1 : b = b' := by omega
       have e2 : o = o' := by omega
       have e3 : n = n' := by omega
       have e4 : c = c' := by omega
       subst e1 e2 e3 e4; rfl)
    | (obtain ⟨h1, h2, h3, h4, h5⟩ := h; have e1 : b = b' := by omega
       have e2 : o = o' := by omega
       have e3 : s = s' := by omega
       have e4 : n = n' := by omega
       have e5 : c = c' := by omega
       subst e1 e2 e3 e4 e5; rfl)
noncomputable def EA : Elt Tryz.prog 22 where
  α := Ah
  val := ahv
  enc := encA
  ok := fun _ => True
  z := ah0
  R := readA
  out := fun x _ => rfl
  inv := fun v x ps h => by
    unfold readA at h
    split at h
    · rename_i a n c
      have h1 := congrArg Prod.fst (Option.some.inj h)
      have h2 : (⟨a, n, c⟩ : Ah) = x := encA_inj h1
      rw [← h2]
      rfl
    · cases h
  okz := trivial
  hz := fun w => by kernel_rfl
def MapA (w : World) (b m : Nat) (g : Int → Option Ah) : Prop := MapG EA 3 w b m g
section
variable {w w' : World} {b m : Nat} {g : Int → Option Ah}
theorem MapA.lt (h : MapA w b m g) : b < w.heap.size := MapG.lt h
theorem MapA.same (h : MapA w b m g) (he : w'.heap[b]? = w.heap[b]?) : MapA w' b m g := MapG.same h he
theorem MapA.kept (h : MapA w b m g) (hb : Below w.heap.size w w') : MapA w' b m g := MapG.kept h hb
theorem MapA.new (w : World) : MapA (w.alloc (.map #[] 0)) w.heap.size 0 (fun _ => none) := MapG.new w
theorem MapA.ne_cell {a : Addr} {u : Value} (h : MapA w b m g) (hk : w.cell? a = some u) : b ≠ a.block := MapG.ne_cell h hk
theorem MapA.look1 (h : MapA w b m g) {id : Int} (hi : I64 id) : (Instr.lookup 31 (.map (some b)) (.int .i64 id) false).run Tryz.prog w = .ok (ahv ((g id).getD ah0)) w :=
  MapG.look1 (E := EA) h Tryz.underlying3 Tryz.underlying31 hi
theorem MapA.put (h : MapA w b m g) (hn : m ≤ 1000000) {id : Int} (hi : I64 id) (y : Ah) :
    ∃ w', (Instr.mapUpdate 31 (.map (some b)) (.int .i64 id) (ahv y)).run Tryz.prog w = .ok () w' ∧ MapA w' b (if (g id).isSome then m else m + 1) (updG g id (some y)) ∧ w.grownBy w' (some b) :=
  MapG.stored (E := EA) h Tryz.underlying3 Tryz.underlying31 (by unfold maxLen; omega) hi y trivial
end
end Go.Proofs.YtjmgokjljmmmgaaGreat
/- Stage 21: what a table of aisles has is right, without a ring, and with somebody ready: the mathematics. -/
namespace Go.Proofs.YtjmgokjljmmmgaaGreat
open Go.RowKit

/-- these leases and locks are the table's -/
structure FitT (T : Tb) (Xs : List Le) (Vs : List Lr) : Prop where
  toks : Xs.map Le.token = T.toks
  seat : ∀ x ∈ Xs, x.got = (T.got x.token : Int) ∧ x.want = T.want x.token
  lks : Vs.map lkp = T.lks
section
variable {T : Tb} {Xs : List Le} {Vs : List Lr}
theorem FitT.ids (h : FitT T Xs Vs) : idsL Vs = T.ids := by
  have := congrArg (List.map Prod.fst) h.lks
  unfold Tb.lks at this
  rw [List.map_map, List.map_map] at this
  simpa [idsL, Function.comp_def, lkp] using this
theorem FitT.lk (h : FitT T Xs Vs) {k : Lr} (hk : k ∈ Vs) : k.id ∈ T.ids ∧ k.holder = T.hd k.id ∧ k.wait = T.wt k.id := by
  have h1 : lkp k ∈ T.lks := by rw [← h.lks]; exact List.mem_map_of_mem hk
  obtain ⟨id, hid, e⟩ := List.mem_map.1 h1
  simp only [lkp, Prod.mk.injEq] at e
  obtain ⟨rfl, e2, e3⟩ := e
  exact ⟨hid, e2.symm, e3.symm⟩
theorem FitT.tok (h : FitT T Xs Vs) {x : Le} (hx : x ∈ Xs) : x.token ∈ T.toks := by rw [← h.toks]; exact List.mem_map_of_mem hx
theorem FitT.find (h : FitT T Xs Vs) (hok : T.Ok) {id : Int} (hi : id ∈ T.ids) : ∃ k ∈ Vs, lkF Vs id = some k ∧ k.id = id ∧ k.holder = T.hd id ∧ k.wait = T.wt id := by
  rw [← h.ids] at hi
  obtain ⟨k, hk, rfl⟩ := List.mem_map.1 hi
  have hn : (idsL Vs).Nodup := by rw [h.ids]; exact ris_nodup (may_ris hok.may)
  exact ⟨k, hk, find_id hn hk, rfl, (h.lk hk).2.1, (h.lk hk).2.2⟩
theorem FitT.nx (h : FitT T Xs Vs) {x : Le} (hx : x ∈ Xs) : nxX x = T.nx x.token := by
  obtain ⟨h1, h2⟩ := h.seat x hx
  unfold nxX waitsX Tb.nx
  rw [h1, h2, Int.toNat_natCast]
  by_cases hl : T.got x.token < (T.want x.token).length
  · rw [if_pos (by simp only [Bool.and_eq_true, decide_eq_true_eq]; omega)]
  · rw [if_neg (by simp only [Bool.and_eq_true, decide_eq_true_eq]; omega), List.getElem?_eq_none (by omega)]
theorem FitT.mkS (h : FitT T Xs Vs) (hok : T.Ok) {t : Int} (ht : t ∈ T.toks) : (mkT Vs Xs).got t = T.got t ∧ (mkT Vs Xs).want t = T.want t := by
  rw [← h.toks] at ht
  obtain ⟨x, hx, rfl⟩ := List.mem_map.1 ht
  have hn : (Xs.map Le.token).Nodup := by rw [h.toks]; exact ris_nodup hok.ris
  obtain ⟨e1, e2⟩ := mk_seat (Ls := Vs) hn hx
  rw [e1, e2, (h.seat x hx).1, (h.seat x hx).2, Int.toNat_natCast]
  exact ⟨rfl, rfl⟩
theorem FitT.mkL (h : FitT T Xs Vs) (hok : T.Ok) {id : Int} (hi : id ∈ T.ids) : (mkT Vs Xs).hd id = T.hd id ∧ (mkT Vs Xs).wt id = T.wt id := by
  obtain ⟨k, hk, _, rfl, e1, e2⟩ := h.find hok hi
  have hn : (idsL Vs).Nodup := by rw [h.ids]; exact ris_nodup (may_ris hok.may)
  obtain ⟨e3, e4⟩ := mk_lock (Xs := Xs) hn hk
  rw [e3, e4]
  exact ⟨e1, e2⟩
theorem FitT.mkN (h : FitT T Xs Vs) (hok : T.Ok) {t : Int} (ht : t ∈ T.toks) : (mkT Vs Xs).nx t = T.nx t := by
  unfold Tb.nx
  rw [(h.mkS hok ht).1, (h.mkS hok ht).2]
theorem lesW_mk : ∀ (Xs : List Le) (last : Int), (∀ t ∈ Xs.map Le.token, last < t) → risL (Xs.map Le.token) → (∀ x ∈ Xs, rightB x.want = true ∧ 0 ≤ x.got ∧ x.got ≤ (x.want.length : Int)) → lesW last Xs = true
  | [], _, _, _, _ => rfl
  | x :: r, last, h1, h2, h3 => by
    rw [List.map_cons] at h1 h2
    obtain ⟨p1, p2⟩ := List.pairwise_cons.1 h2
    obtain ⟨q1, q2, q3⟩ := h3 x (by simp)
    exact lesW_cons.2 ⟨h1 _ (by simp), q1, q2, q3, lesW_mk r x.token p1 p2 fun y hy => h3 y (by simp [hy])⟩
theorem waitB_mk {M : Tb} {id : Int} : ∀ (l pre : List Int), (∀ t ∈ l, t ∈ M.toks ∧ M.nx t = some id) → (pre ++ l).Nodup → waitB M id pre l = true
  | [], _, _, _ => rfl
  | t :: r, pre, h, hn => by
    obtain ⟨h1, h2⟩ := h t (by simp)
    have h3 : t ∉ pre := fun hp => (List.nodup_append.1 hn).2.2 t hp t (by simp) rfl
    show (inL M.toks t && (!inL pre t && (decide (M.nx t = some id) && waitB M id (pre ++ [t]) r))) = true
    rw [inL_iff.2 h1, inL_not.2 h3, decide_eq_true h2, waitB_mk r (pre ++ [t]) (fun u hu => h u (by simp [hu])) (by rw [List.append_assoc]; exact hn)]
    rfl
/-- what a table has is right -/
theorem FitT.right (h : FitT T Xs Vs) (hok : T.Ok) : rightW Xs Vs = true := by
  unfold rightW
  have a1 : rightB (idsL Vs) = true := by rw [h.ids]; exact decide_eq_true (may_ris hok.may)
  have a2 : lesW 0 Xs = true := by
    refine lesW_mk Xs 0 (fun t ht => ?_) (by rw [h.toks]; exact hok.ris) fun x hx => ?_
    · rw [h.toks] at ht
      have := (hok.pos t ht).1
      omega
    · obtain ⟨e1, e2⟩ := h.seat x hx
      have ht := h.tok hx
      rw [e1, e2]
      refine ⟨decide_eq_true (hok.wr _ ht), by omega, ?_⟩
      have := hok.gl _ ht
      omega
  have a3 : seatsW Xs Vs = true := by
    refine List.all_eq_true.2 fun t ht => ?_
    rw [h.toks] at ht
    unfold seatB
    rw [(h.mkS hok ht).1, (h.mkS hok ht).2, Bool.and_eq_true]
    refine ⟨List.all_eq_true.2 fun id hid => ?_, ?_⟩
    · rw [(h.mkL hok (hok.win t ht id (List.mem_of_mem_take hid))).1, hok.held t ht id hid]
      simp
    · by_cases he : T.got t = (T.want t).length
      · rw [decide_eq_true he, Bool.true_or]
      · have hlt : T.got t < (T.want t).length := by have := hok.gl t ht; omega
        have hn : T.nx t = some (T.want t)[T.got t] := List.getElem?_eq_getElem hlt
        rw [decide_eq_false he, Bool.false_or, List.getElem?_eq_getElem hlt, Option.getD_some, (h.mkL hok (hok.nx_ids ht hn)).2]
        exact inL_iff.2 (hok.waits t ht (by simp) _ hn)
  have a4 : locksW Xs Vs = true := by
    refine List.all_eq_true.2 fun k hk => ?_
    obtain ⟨hi, e1, e2⟩ := h.lk hk
    unfold lockB
    rw [Bool.and_eq_true]
    refine ⟨?_, ?_⟩
    · unfold holdB
      by_cases h0 : k.holder = 0
      · rw [h0]; rfl
      · obtain ⟨b1, b2⟩ := hok.hold k.id hi (by rw [← e1]; exact h0)
        rw [← e1] at b1 b2
        rw [(h.mkS hok b1).1, (h.mkS hok b1).2, inL_iff.2 b2, inL_iff.2 (show k.holder ∈ (mkT Vs Xs).toks by show _ ∈ Xs.map Le.token; rw [h.toks]; exact b1)]
        simp
    · rw [e2]
      refine waitB_mk _ _ (fun t ht => ?_) (by simpa using hok.nd k.id hi)
      obtain ⟨b1, b2⟩ := hok.wait k.id hi t ht
      exact ⟨by show _ ∈ Xs.map Le.token; rw [h.toks]; exact b1, by rw [h.mkN hok b1]; exact b2⟩
  rw [a1, a2, a3, a4]
  rfl
theorem FitT.arc (h : FitT T Xs Vs) (hok : T.Ok) {a : Arc16} (ha : a ∈ arcsW Xs Vs) : a.src ∈ T.toks ∧ ∃ id ∈ T.ids, T.nx a.src = some id ∧ T.hd id ≠ 0 ∧ a.dst = T.hd id := by
  obtain ⟨x, hx, e⟩ := List.mem_filterMap.1 ha
  unfold arcX awX at e
  rw [h.nx hx] at e
  cases hn : T.nx x.token with
  | none => rw [hn] at e; cases e
  | some id =>
    have ht := h.tok hx
    have hi := hok.nx_ids ht hn
    obtain ⟨k, _, h1, h2, h3, _⟩ := h.find hok hi
    rw [hn, Option.bind_some, h1, Option.bind_some, h3] at e
    split at e
    · cases e
    · rename_i h0
      have e' := (Option.some.inj e).symm
      subst e'
      exact ⟨ht, id, hi, hn, h0, rfl⟩
/-- nobody waits for itself through others -/
theorem FitT.ring (h : FitT T Xs Vs) (hok : T.Ok) : ringW Xs Vs = false := by
  unfold ringW
  have hl := left_len (endsW (arcsW Xs Vs)) (arcsW Xs Vs)
  have h0 : leftL (endsW (arcsW Xs Vs)) (arcsW Xs Vs) = [] := by
    refine Classical.byContradiction fun hne => ?_
    obtain ⟨n0, hn0⟩ : ∃ n, n ∈ leftL (endsW (arcsW Xs Vs)) (arcsW Xs Vs) := List.exists_mem_of_ne_nil _ hne
    have hm : ((leftL (endsW (arcsW Xs Vs)) (arcsW Xs Vs)).filter fun n => inL T.toks n && (T.nx n).isSome) ≠ [] := by
      obtain ⟨a, ha, _, hs⟩ := left_arc hn0
      obtain ⟨h1, id, _, h2, _⟩ := h.arc hok ha
      exact List.ne_nil_of_mem (List.mem_filter.2 ⟨hs, by rw [inL_iff.2 h1, h2]; rfl⟩)
    obtain ⟨t, ht, hmin⟩ := max_at (fun x => - (T.nx x).getD 0) _ hm
    obtain ⟨ht1, ht2⟩ := List.mem_filter.1 ht
    rw [Bool.and_eq_true] at ht2
    obtain ⟨id, hid⟩ := Option.isSome_iff_exists.1 ht2.2
    obtain ⟨a, ha, hd, hs⟩ := left_arc ht1
    obtain ⟨h1, id2, hi2, h2, h3, h4⟩ := h.arc hok ha
    have h5 := hmin a.src (List.mem_filter.2 ⟨hs, by rw [inL_iff.2 h1, h2]; rfl⟩)
    simp only [hid, h2, Option.getD_some] at h5
    have h6 := (hok.hold id2 hi2 h3).2
    rw [← h4, hd] at h6
    have := hok.nx_take (inL_iff.1 ht2.1) hid h6
    omega
  rw [h0, List.length_nil, Nat.add_zero] at hl
  rw [decide_eq_true hl]
  rfl
/-- somebody is ready, if there is anybody -/
theorem FitT.ready (h : FitT T Xs Vs) (hok : T.Ok) (hne : Xs ≠ []) : readyW Xs Vs ≠ [] := by
  intro hr
  have hno : ∀ x ∈ Xs, readyX Vs x = false := fun x hx => by
    cases hc : readyX Vs x with
    | false => rfl
    | true =>
      have : x.token ∈ readyW Xs Vs := List.mem_map_of_mem (List.mem_filter.2 ⟨hx, hc⟩)
      rw [hr] at this
      cases this
  have hnt : ∀ t ∈ T.toks, ∃ id, T.nx t = some id ∧ id ∈ T.ids ∧ T.hd id ≠ 0 := fun t ht => by
    rw [← h.toks] at ht
    obtain ⟨x, hx, rfl⟩ := List.mem_map.1 ht
    have ht := h.tok hx
    obtain ⟨f1, _⟩ := Bool.or_eq_false_iff.1 (hno x hx)
    have hlt : T.got x.token < (T.want x.token).length := by
      have h1 := hok.gl _ ht
      have h2 := of_decide_eq_false f1
      rw [(h.seat x hx).1, (h.seat x hx).2] at h2
      omega
    have hn : T.nx x.token = some (T.want x.token)[T.got x.token] := List.getElem?_eq_getElem hlt
    generalize (T.want x.token)[T.got x.token] = id at hn
    have hi := hok.nx_ids ht hn
    refine ⟨id, hn, hi, fun h0 => ?_⟩
    have hw := hok.waits _ ht (by simp) id hn
    obtain ⟨u, r, hu⟩ : ∃ u r, T.wt id = u :: r := by
      cases hc : T.wt id with
      | nil => rw [hc] at hw; cases hw
      | cons u r => exact ⟨u, r, rfl⟩
    obtain ⟨hut, hun⟩ := hok.wait id hi u (by rw [hu]; simp)
    have hut' := hut
    rw [← h.toks] at hut
    obtain ⟨y, hy, rfl⟩ := List.mem_map.1 hut
    obtain ⟨_, f2⟩ := Bool.or_eq_false_iff.1 (hno y hy)
    obtain ⟨k, _, k1, k2, k3, k4⟩ := h.find hok hi
    unfold awX at f2
    rw [h.nx hy, hun, Option.bind_some, k1, Option.map_some, Option.getD_some, k3, h0, k4, hu] at f2
    simp at f2
  obtain ⟨t, ht, hm⟩ := max_at (fun x => (T.nx x).getD 0) T.toks (by rw [← h.toks]; simpa using hne)
  obtain ⟨id, h1, hi, h2⟩ := hnt t ht
  obtain ⟨hu, htake⟩ := hok.hold id hi h2
  obtain ⟨id2, h3, _, _⟩ := hnt _ hu
  have hlt := hok.nx_take hu h3 htake
  have := hm _ hu
  simp only [h1, h3, Option.getD_some] at this
  omega
theorem FitT.small (h : FitT T Xs Vs) (hok : T.Ok) : (Xs.length ≤ 64 ∧ Vs.length ≤ 32) ∧ (∀ x ∈ Xs, x.want.length ≤ 1000) ∧ (∀ k ∈ Vs, k.wait.length ≤ 1000) ∧ (∀ x ∈ Xs, In18 x.token ∧ ∀ a ∈ x.want, In18 a) ∧ ∀ k ∈ Vs, In18 k.id ∧ In18 k.holder ∧ ∀ a ∈ k.wait, In18 a := by
  have hid : ∀ a ∈ T.ids, In18 a := fun a ha => by
    have := may_pos hok.may a ha
    unfold In18
    omega
  refine ⟨⟨?_, ?_⟩, fun x hx => ?_, fun k hk => ?_, fun x hx => ⟨(hok.pos _ (h.tok hx)).2, fun a ha => ?_⟩, fun k hk => ?_⟩
  · have := hok.few
    rw [← h.toks, List.length_map] at this
    exact this
  · have h1 := may_len hok.may
    rw [← h.ids] at h1
    unfold idsL at h1
    rwa [List.length_map] at h1
  · rw [(h.seat x hx).2]
    have := hok.wantlen (h.tok hx)
    omega
  · rw [(h.lk hk).2.2]
    have := hok.wlen (h.lk hk).1
    omega
  · rw [(h.seat x hx).2] at ha
    exact hid a (hok.win _ (h.tok hx) a ha)
  · obtain ⟨hi, e1, e2⟩ := h.lk hk
    refine ⟨hid _ hi, ?_, fun a ha => ?_⟩
    · rw [e1]
      by_cases h0 : T.hd k.id = 0
      · rw [h0]; unfold In18; omega
      · exact (hok.pos _ (hok.hold _ hi h0).1).2
    · rw [e2] at ha
      exact (hok.pos _ (hok.wait _ hi a ha).1).2
end
/-- a lease as the law lays it -/
def leT (T : Tb) (g : Int → Option Ah) (t : Int) : Le := ⟨t, 0, 0, 0, 0, (T.got t : Int), ((g t).getD ah0).a, ((g t).getD ah0).c, T.want t⟩
theorem leT_fit {T : Tb} {g : Int → Option Ah} {Vs : List Lr} (h : Vs.map lkp = T.lks) : FitT T (T.toks.map (leT T g)) Vs where
  toks := by rw [List.map_map]; exact List.map_id' T.toks
  seat := fun x hx => by
    obtain ⟨t, _, rfl⟩ := List.mem_map.1 hx
    exact ⟨rfl, rfl⟩
  lks := h
end Go.Proofs.YtjmgokjljmmmgaaGreat
/- A lease's cells in a list. -/
namespace Go.Proofs.YtjmgokjljmmmgaaGreat
open Go.RowKit
theorem leaseAt {w : World} {v : Value} {l : List Le} (h : RowsAt w 7 csLe v l) (k : Nat) (hk : k < l.length) :
    ∃ g o c, v = .slice (some ⟨g, o, none⟩) l.length c ∧ l.length ≤ c ∧ g < w.heap.size ∧ w.cell? ⟨g, o + k * 7, none⟩ = some (.int .i64 l[k].token) ∧ w.cell? ⟨g, o + k * 7 + 1, none⟩ = some (.int .i64 l[k].task) ∧ w.cell? ⟨g, o + k * 7 + 2, none⟩ = some (.int .i64 l[k].worker) ∧ w.cell? ⟨g, o + k * 7 + 3, none⟩ = some (.int .i64 l[k].unit) ∧ w.cell? ⟨g, o + k * 7 + 4, none⟩ = some (.int .i64 l[k].due) ∧ w.cell? ⟨g, o + k * 7 + 5, none⟩ = some (.int .i64 l[k].got) ∧ w.cell? ⟨g, o + k * 7 + 6, none⟩ = some l[k].v := by
  obtain ⟨g, o, c, e, hc, hg, hx⟩ := h.spot k hk
  exact ⟨g, o, c, e, hc, hg, hx 0 _ rfl, hx 1 _ rfl, hx 2 _ rfl, hx 3 _ rfl, hx 4 _ rfl, hx 5 _ rfl, hx 6 _ rfl⟩
end Go.Proofs.YtjmgokjljmmmgaaGreat
/- Stage 21: the document's small looks: Find, of, times, Waits. -/
namespace Go.Proofs.YtjmgokjljmmmgaaGreat
open Go.RowKit

/-- how often a number stands in a list -/
def cntL (l : List Int) (n : Int) : Nat := (l.filter fun x => x == n).length
theorem cnt_next (l : List Int) (n : Int) (k : Nat) (hk : k < l.length) : cntL (l.take (k + 1)) n = cntL (l.take k) n + (if l[k] = n then 1 else 0) := by
  unfold cntL
  rw [List.take_succ_eq_append_getElem hk, List.filter_append, List.length_append]
  by_cases e : l[k] = n <;> simp [e]
theorem cnt_le (l : List Int) (n : Int) : cntL l n ≤ l.length := List.length_filter_le ..
end Go.Proofs.YtjmgokjljmmmgaaGreat
/- Stage 21: the document's Waits, lease. -/
namespace Go.Proofs.YtjmgokjljmmmgaaGreat
open Go.RowKit

abbrev lev (x : Le) (v : Value) : Value := .agg #[.int .i64 x.token, .int .i64 x.task, .int .i64 x.worker, .int .i64 x.unit, .int .i64 x.due, .int .i64 x.got, v]
theorem lkF_idx {Ls : List Lr} {id : Int} (h : id ∈ idsL Ls) : lkF Ls id = Ls[(idsL Ls).idxOf id]? := by
  unfold idsL at h ⊢
  unfold lkF
  induction Ls with
  | nil => cases h
  | cons y r ih =>
    rw [List.map_cons, List.idxOf_cons]
    by_cases e : y.id = id
    · simp [e]
    · have hr : id ∈ r.map Lr.id := by
        rw [List.map_cons] at h
        exact (List.mem_cons.1 h).resolve_left (fun h => e h.symm)
      rw [List.find?_cons_of_neg (by simpa using e), ih hr]
      simp [beq_noI e]
theorem lkF_none {Ls : List Lr} {id : Int} (h : id ∉ idsL Ls) : lkF Ls id = none :=
  List.find?_eq_none.2 fun y hy => by
    simp only [beq_iff_eq]
    exact fun e => h (e ▸ List.mem_map_of_mem hy)
theorem lkF_in {Ls : List Lr} {id : Int} (h : id ∈ idsL Ls) : ∃ k, lkF Ls id = some k ∧ k ∈ Ls ∧ k.id = id := by
  have h1 := lkF_idx h
  have h2 := List.idxOf_lt_length_of_mem h
  have h3 : (idsL Ls).idxOf id < Ls.length := by simpa [idsL] using h2
  rw [List.getElem?_eq_getElem h3] at h1
  refine ⟨_, h1, List.getElem_mem h3, ?_⟩
  have := List.find?_some h1
  simpa using this
theorem lockSpot {w : World} {v : Value} {Ls : List Lr} (h : LocksAt w v Ls) {id : Int} (hi : id ∈ idsL Ls) :
    ∃ (k : Lr) (q g o c : Nat), lkF Ls id = some k ∧ k ∈ Ls ∧ plcL (idsL Ls) id = (q : Int) ∧ q < Ls.length ∧ v = .slice (some ⟨g, o, none⟩) Ls.length c ∧ w.cell? ⟨g, o + q * 3, none⟩ = some (.int .i64 k.id) ∧ w.cell? ⟨g, o + q * 3 + 1, none⟩ = some (.int .i64 k.holder) ∧ w.cell? ⟨g, o + q * 3 + 2, none⟩ = some (.slice k.a k.wait.length k.c) ∧ IntsAt w (.slice k.a k.wait.length k.c) k.wait := by
  have h1 := lkF_idx hi
  obtain ⟨p1, p2, _⟩ := plc_at hi
  have hl : (idsL Ls).idxOf id < Ls.length := by simpa [idsL] using p2
  rw [List.getElem?_eq_getElem hl] at h1
  obtain ⟨g, o, c, e, _, _, q0, q1, q2⟩ := h.rows.atL _ hl
  exact ⟨_, _, g, o, c, h1, List.getElem_mem hl, p1, hl, e, q0, q1, q2, h.each _ (List.getElem_mem hl)⟩
/-- where the lock is that a lease waits for -/
def wtI (Ls : List Lr) (x : Le) : Int := match nxX x with
  | some id => plcL (idsL Ls) id
  | none => -1
theorem nxX_at {x : Le} (h0 : 0 ≤ x.got) (h1 : x.got < (x.want.length : Int)) : nxX x = some (x.want[x.got.toNat]'(by omega)) := by
  unfold nxX waitsX
  rw [decide_eq_true h0, decide_eq_true h1]
  exact List.getElem?_eq_getElem (by omega)
theorem nxX_none {x : Le} (h : ¬ (0 ≤ x.got ∧ x.got < (x.want.length : Int))) : nxX x = none := by
  unfold nxX waitsX
  rw [if_neg]
  rw [Bool.and_eq_true, decide_eq_true_eq, decide_eq_true_eq]
  exact h
end Go.Proofs.YtjmgokjljmmmgaaGreat
/- Stage 20: the document's seat: does a token hold, and wait for, just what it must. -/
namespace Go.Proofs.YtjmgokjljmmmgaaGreat
open Go.RowKit

theorem lock_spot {w : World} {v : Value} {Ls : List Lr} (h : LocksAt w v Ls) (hn : (idsL Ls).Nodup) {id : Int} (hi : id ∈ idsL Ls) :
    ∃ (q g o c : Nat) (a : Option Addr) (cc : Nat), plcL (idsL Ls) id = (q : Int) ∧ q < Ls.length ∧ v = .slice (some ⟨g, o, none⟩) Ls.length c ∧ w.cell? ⟨g, o + q * 3 + 1, none⟩ = some (.int .i64 (hdL Ls id)) ∧ w.cell? ⟨g, o + q * 3 + 2, none⟩ = some (.slice a (wtL Ls id).length cc) ∧ IntsAt w (.slice a (wtL Ls id).length cc) (wtL Ls id) := by
  obtain ⟨h1, h2, h3⟩ := plc_at hi
  have hl : (idsL Ls).idxOf id < Ls.length := by simpa [idsL] using h2
  obtain ⟨g, o, c, e, _, _, q0, q1, q2⟩ := h.rows.atL _ hl
  have hid : Ls[(idsL Ls).idxOf id].id = id := by
    have : (idsL Ls)[(idsL Ls).idxOf id]? = (Ls[(idsL Ls).idxOf id]?).map Lr.id := by unfold idsL; exact List.getElem?_map ..
    rw [this, List.getElem?_eq_getElem hl] at h3
    exact Option.some.inj h3
  have hf := find_id hn (List.getElem_mem hl)
  rw [hid] at hf
  have e1 : hdL Ls id = Ls[(idsL Ls).idxOf id].holder := by unfold hdL; rw [hf]; rfl
  have e2 : wtL Ls id = Ls[(idsL Ls).idxOf id].wait := by unfold wtL; rw [hf]; rfl
  have hea := h.each _ (List.getElem_mem hl)
  rw [e1, e2]
  exact ⟨_, g, o, c, _, _, h1, hl, e, q1, q2, hea⟩
/-- what seat tells of a token -/
def seatV (Ls : List Lr) (t : Int) (j : Nat) (l : List Int) : Bool := (l.take j).all (fun id => hdL Ls id == t) && (decide (j = l.length) || inL (wtL Ls (l[j]?.getD 0)) t)
theorem all_take_not {l : List Int} {p : Int → Bool} {k j : Nat} (hk : k < j) (hl : k < l.length) (hp : p l[k] = false) : (l.take j).all p = false := by
  rw [List.all_eq_false]
  refine ⟨l[k], ?_, by rw [hp]; simp⟩
  rw [List.mem_iff_getElem]
  exact ⟨k, by rw [List.length_take]; omega, by rw [List.getElem_take]⟩
end Go.Proofs.YtjmgokjljmmmgaaGreat
/- Stage 21: the document's lease. -/
namespace Go.Proofs.YtjmgokjljmmmgaaGreat
open Go.RowKit

/-- is a lease right, as far as it goes -/
def leaseB (Ls : List Lr) (x : Le) : Bool := rightB x.want && (decide (0 ≤ x.got) && (decide (x.got ≤ (x.want.length : Int)) && seatV Ls x.token x.got.toNat x.want))
theorem hdL_of {Ls : List Lr} {id : Int} {k : Lr} (h : lkF Ls id = some k) : hdL Ls id = k.holder ∧ wtL Ls id = k.wait := by
  unfold lkF at h
  unfold hdL wtL
  rw [h]
  exact ⟨rfl, rfl⟩
theorem hdL_no {Ls : List Lr} {id : Int} (h : lkF Ls id = none) : hdL Ls id = 0 ∧ wtL Ls id = [] := by
  unfold lkF at h
  unfold hdL wtL
  rw [h]
  exact ⟨rfl, rfl⟩
end Go.Proofs.YtjmgokjljmmmgaaGreat
