/- Stage 17's program: some: a function that is handed on is asked one number of a list behind the other. -/
import Derived.Test.YtgkhjnfkpodddaaIsMath
import Derived.Test.YtgkhjnfkpodddaaLabels
import Derived.Test.YtgkhjnfkpodddaaOwnO
import Derived.Test.YtgkhjnfkpodddaaOff
import Derived.Test.YtgkhjnfkpodddaaOneI
import Derived.Shelf.Abstract
namespace Go.Proofs.Ytgkhjnfkpodddaa
open Go.RowKit

/-- what a handed function keeps: s, in the blocks F -/
structure KeepJ {σ : Type} (J : σ → (Nat → Prop) → World → Prop) : Prop where
  lt : ∀ {s F w}, J s F w → ∀ k, F k → k < w.heap.size
  out : ∀ {s F w w'}, J s F w → w.heap.size ≤ w'.heap.size → (∀ k, F k → w'.heap[k]? = w.heap[k]?) → J s F w'
theorem KeepJ.kept {σ : Type} {J : σ → (Nat → Prop) → World → Prop} (T : KeepJ J) {s : σ} {F : Nat → Prop} {w w' : World} (h : J s F w) (hb : Below w.heap.size w w') : J s F w' := T.out h hb.size fun k hk => hb.block k (T.lt h k hk)

set_option maxHeartbeats 1000000 in
theorem iSome_any {σ : Type} {J : σ → (Nat → Prop) → World → Prop} (f : σ → Int → σ × Bool) (g : FuncId) (q : Value) (eg : ∀ args w, (callFunc g args).run Try.prog w = .ok (.enter g args) w)
    (va : Value) (l : List Int) (w : World) (hl : IntsAt w va l) (hlen : l.length ≤ 1000000) (s0 : σ) (F0 : Nat → Prop) (hF : OffV F0 va l.length) (hJ : J s0 F0 w) (R : Nat → σ → Prop) (hR0 : R 0 s0) (hRs : ∀ k s x, R k s → R (k + 1) (f s x).1)
    (hT : ∀ s F w' x k, x ∈ l → k < l.length → R k s → J s F w' → Only F0 w w' → Calls Try.prog g #[.int .i64 x, q] w' fun e w'' => e = .returned (.bool (f s x).2) ∧ ∃ F', J (f s x).1 F' w'' ∧ Mv F F' w' w'') :
    Calls Try.prog 26 #[va, .func (.func g) #[] #[q]] w fun e w' => e = .returned (.bool (runS f s0 l).2) ∧ ∃ F', J (runS f s0 l).1 F' w' ∧ Mv F0 F' w w' := by
  obtain ⟨r, hr⟩ : ∃ r, runS f s0 l = r := ⟨_, rfl⟩
  rw [hr]
  have HR := Lib.hid hr
  have HT := Lib.hid hT
  have HRS := Lib.hid hRs
  have HR0 := Lib.hid hR0
  have HJ := Lib.hid hJ
  have HF := Lib.hid hF
  have HL := Lib.hid hl
  have HLE := Lib.hid hlen
  obtain ⟨a, c, rfl⟩ := hl.form
  clear hr hT hJ hF hl hRs hR0
  go_enter Try.func26, Try.ntmps26
  go_wp2
  refine wp_scope_goto 0 (fun n a' w' => ∃ (j : Nat) (z : Int) (s : σ) (F : Nat → Prop), n = l.length - j ∧ z = j ∧ j ≤ l.length ∧ runS f s (l.drop j) = r ∧ R j s ∧ J s F w' ∧ Mv F0 F w w' ∧ ∃ u2 u3 u6 u7 u8 u9 u10 u11 u12 u13 u14 u15 u16 u17, a' = { tmps := #[.slice a l.length c, .func (.func g) #[] #[q], u2, u3, .bool false, .int .i64 z, u6, u7, u8, u9, u10, u11, u12, u13, u14, u15, u16, u17], defers := [] }) rfl rfl ?_ ?_
  · rintro n a' w' ⟨j, _, s, F, rfl, rfl, hj, hrun, hrk, hj2, hmv, u2, u3, u6, u7, u8, u9, u10, u11, u12, u13, u14, u15, u16, u17, rfl⟩ K hK
    have HK := Lib.hid hK
    have HJ2 := Lib.hid hj2
    have HM := Lib.hid hmv
    have HRU := Lib.hid hrun
    have HRK := Lib.hid hrk
    clear hK hj2 hmv hrun hrk
    by_cases hlt : j < l.length
    · have hrow := (HL.out.rows.only HM.out.only HF.out).ints
      obtain ⟨gb, o, cc, e, hlc, _, p0⟩ := hrow.spot j hlt
      cases e
      have hx := HT.out s F w' l[j] j (List.getElem_mem hlt) hlt HRK.out HJ2.out HM.out.only
      have hrn := HRS.out j s l[j] HRK.out
      have hno := runS_no f s l j hlt
      have hyes := runS_yes f s l j hlt
      generalize l[j] = x at *
      obtain ⟨s', b, hsb⟩ : ∃ s' b, f s x = (s', b) := ⟨_, _, rfl⟩
      rw [hsb] at hx hno hyes hrn
      have HRN := Lib.hid hrn
      have HX := Lib.hid hx
      have HN := Lib.hid hno
      have HY := Lib.hid hyes
      have j0 : (0 : Int) ≤ (j : Int) := by omega
      have j1 : (j : Int) < (l.length : Int) := by omega
      clear hx hno hyes hsb hrow hrn
      cases b with
      | false =>
        go_wp2_with (go_at_fn g; (with_reducible refine HX.out.mono ?_); rintro e w1 ⟨rfl, F', hj1, hm1⟩; have HJ3 := Lib.hid hj1; have HM3 := Lib.hid hm1; clear hj1 hm1)
        go_step3
        exact ⟨rfl, HK.out (l.length - (j + 1)) _ _ (by omega) ⟨j + 1, _, s', F', rfl, by omega, by omega, (HN.out trivial).symm.trans HRU.out, HRN.out, HJ3.out, HM.out.trans HM3.out, _, _, _, _, _, _, _, _, _, _, _, _, _, _,  rfl⟩⟩
      | true =>
        go_wp2_with (go_at_fn g; (with_reducible refine HX.out.mono ?_); rintro e w1 ⟨rfl, F', hj1, hm1⟩; have HJ3 := Lib.hid hj1; have HM3 := Lib.hid hm1; clear hj1 hm1)
        simp only [Exit.jump]
        go_ret
        have hrr := (HY.out trivial).symm.trans HRU.out
        rw [← hrr]
        exact ⟨rfl, F', HJ3.out, HM.out.trans HM3.out⟩
    · have e : j = l.length := by omega
      subst e
      have hrr := HRU.out
      rw [runS_end] at hrr
      have HRR := Lib.hid hrr
      clear hrr hlt
      go_wp2
      simp only [Exit.jump]
      go_ret
      rw [← HRR.out]
      exact ⟨rfl, F, HJ2.out, HM.out⟩
  · intro K hpass
    go_wp2
    go_step3
    rename_i hback
    exact hback _ _ (hpass (l.length - 0) _ _ ⟨0, _, s0, F0, rfl, rfl, by omega, HR.out, HR0.out, HJ.out, Mv.refl _ _, _, _, _, _, _, _, _, _, _, _, _, _, _, _,  rfl⟩)
end Go.Proofs.Ytgkhjnfkpodddaa
