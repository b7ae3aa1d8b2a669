/- Stage 17's program: Of; what is in a list (among), what is beside it; And, Less, Within, Or; the contracts as one. -/
import Derived.Test.YtgkhjnfkpodddaaIsE
import Derived.Test.YtgkhjnfkpodddaaSortI
import Derived.Test.YtgkhjnfkpodddaaConcatI
import Derived.Test.YtgkhjnfkpodddaaIdLaw
namespace Go.Proofs.Ytgkhjnfkpodddaa
open Go.RowKit

theorem store_func (P : Program) (w : World) (a : Addr) (m : Mode) (f : Fn) (x y : Array Value) : (store a (.func f x y) m).run P w = stored P w a (.func f x y) m := run_store P w a _ m rfl
attribute [local go_sem] store_func
theorem below_drew17 {w : World} : ∀ q, Below w.heap.size w (w.drewN q)
  | 0 => Below.refl _ _
  | q + 1 => (below_drew17 q).drew

set_option maxHeartbeats 1000000 in
theorem iOf_any (va : Value) (l : List Int) (w : World) (ha : IntsAt w va l) (hl : l.length ≤ 1000000) :
    Calls Try.prog 8 #[va] w fun e w' => ∃ v, e = .returned v ∧ IntsAt w' v (setL l) ∧ Below w.heap.size w w' := by
  have CL := Lib.hid (cloneI_any va l w ha hl)
  have HSS := Lib.hid (set_sort l)
  clear ha
  go_enter Try.func8, Try.ntmps8
  go_upto_region 2 with (go_at_call 23; (with_reducible refine CL.out.mono ?_); rintro e w1 ⟨v1, rfl, ho, hb⟩; have HO1 := Lib.hid ho; have HB1 := Lib.hid hb; clear ho hb)
  have SO := Lib.hid (sortI_any w1 _ v1 l HO1.out hl)
  have HC := Lib.hid (OwnI.cells17 HO1.out)
  clear CL HO1
  go_wp2_with (first
    | (go_at_call 24; (with_reducible refine SO.out.mono ?_); rintro e w3 ⟨rfl, h3, o3, k3⟩; have CO := Lib.hid k3; clear h3 k3 o3)
    | (go_at_call 25; (with_reducible refine CO.out.mono ?_); rintro e w4 ⟨u4, rfl, h4, e4, o4⟩; rw [HSS.out] at h4; have HU := Lib.hid h4; have HO4 := Lib.hid o4; clear h4 e4 o4))
  go_ret
  exact ⟨_, rfl, HU.out, HB1.out.trans (Only.below HO4.out (fun k hk => (HC.out k hk).1) HB1.out.size)⟩

/-- what is in a list: its numbers in order, in the box p -/
def AmAt (w : World) (p : Nat) (b : List Int) : Prop := ∃ v, Blk w p [v] ∧ IntsAt w v (setL b)
theorem AmAt.kept {w w' : World} {p : Nat} {b : List Int} (h : AmAt w p b) (hb : Below w.heap.size w w') : AmAt w' p b := by
  obtain ⟨v, h1, h2⟩ := h
  exact ⟨v, h1.kept hb, h2.below hb⟩
theorem searchI_any (v : Value) (L : List Int) (x : Int) (w : World) (h : IntsAt w v L) (hr : risL L) (hl : L.length ≤ 1000000) :
    Calls Try.prog 42 #[v, .int .i64 x] w fun e w' => (∃ n : Int, e = .returned (.tuple #[.int .i64 n, .bool (inL L x)])) ∧ Below w.heap.size w w' := by
  by_cases h0 : L.length = 0
  · obtain ⟨a, c, rfl⟩ := h.form
    have e : inL L x = false := inL_not.2 (by rw [List.eq_nil_of_length_eq_zero h0]; simp)
    rw [h0, e]
    refine (Try.slices_BinarySearch_int_empty a c x w).mono ?_
    rintro e w1 ⟨rfl, rfl⟩
    exact ⟨⟨_, rfl⟩, Below.refl _ _⟩
  · obtain ⟨a, c, rfl, hc, hx⟩ := h
    obtain ⟨g, o, rfl, hg, hcell⟩ := hx (by omega)
    have hs : (L.take L.length).Pairwise (· ≤ ·) := by
      rw [List.take_length]
      exact List.Pairwise.imp (fun h => Int.le_of_lt h) hr
    refine (Try.slices_BinarySearch_int g o L.length c L x w (Nat.le_refl _) (by omega) (fun j hj => ?_) hs).mono ?_
    · rw [hcell j L[j] (List.getElem?_eq_getElem hj), List.getD_eq_getElem?_getD, List.getElem?_eq_getElem hj]
      rfl
    · rintro e w1 ⟨rfl, q, rfl⟩
      rw [List.take_length]
      have e : L.contains x = inL L x := by
        unfold inL
        rw [Bool.eq_iff_iff, List.contains_iff_mem, decide_eq_true_iff]
      rw [e]
      exact ⟨⟨_, rfl⟩, below_drew17 q⟩

set_option maxHeartbeats 1000000 in
theorem iAmong_any (va : Value) (l : List Int) (w : World) (ha : IntsAt w va l) (hl : l.length ≤ 1000000) :
    Calls Try.prog 33 #[va] w fun e w' => ∃ p, e = .returned (.func (.func 41) #[] #[.pointer (some ⟨p, 0, none⟩)]) ∧ AmAt w' p l ∧ Below w.heap.size w w' := by
  have hmf : ∀ (fn : Fn) (first cap : Array Value) (w : World), (Instr.makeFunc fn first cap).run Try.prog w = .ok (.func fn first cap) w := fun _ _ _ _ => rfl
  have OF := Lib.hid (iOf_any va l w ha hl)
  clear ha
  go_enter Try.func33, Try.ntmps33
  go_wp2_with (go_at_call 8; (with_reducible refine OF.out.mono ?_); rintro e w1 ⟨v1, rfl, hi, hb⟩; have HB1 := Lib.hid hb; obtain ⟨a1, c1, e1⟩ := hi.form; subst e1; have HI := Lib.hid hi; clear hi hb)
  go_ret
  have hal := (Below.refl w1.heap.size w1).alloc (Nat.le_refl _) (.cells #[.slice a1 (setL l).length c1] 22)
  exact ⟨_, rfl, ⟨_, Blk.new w1 [.slice a1 (setL l).length c1] 22, HI.out.below hal⟩, HB1.out.trans (hal.mono HB1.out.size)⟩

set_option maxHeartbeats 1000000 in
theorem iAmong1_any (p : Nat) (b : List Int) (x : Int) (w : World) (h : AmAt w p b) (hl : b.length ≤ 1000000) :
    Calls Try.prog 41 #[.int .i64 x, .pointer (some ⟨p, 0, none⟩)] w fun e w' => e = .returned (.bool (inL b x)) ∧ Below w.heap.size w w' := by
  obtain ⟨v, h1, h2⟩ := h
  have c0 := h1.cell 0 rfl
  have hs := searchI_any v (setL b) x w h2 (setL_ris b) (Nat.le_trans (setL_le b) hl)
  rw [inL_set] at hs
  have HS := Lib.hid hs
  obtain ⟨a, c, rfl⟩ := h2.form
  clear h1 h2 hs
  go_enter Try.func41, Try.ntmps41
  go_wp2_with (go_at_call 42; (with_reducible refine HS.out.mono ?_); rintro e w1 ⟨⟨n, rfl⟩, hb⟩; have HB := Lib.hid hb; clear hb)
  go_ret
  exact ⟨rfl, HB.out⟩

/-- what is beside a list -/
def BeAt (w : World) (p : Nat) (b : List Int) : Prop := ∃ p', Blk w p [.func (.func 41) #[] #[.pointer (some ⟨p', 0, none⟩)]] ∧ AmAt w p' b
theorem BeAt.kept {w w' : World} {p : Nat} {b : List Int} (h : BeAt w p b) (hb : Below w.heap.size w w') : BeAt w' p b := by
  obtain ⟨v, h1, h2⟩ := h
  exact ⟨v, h1.kept hb, h2.kept hb⟩

set_option maxHeartbeats 1000000 in
theorem iBeside_any (va : Value) (l : List Int) (w : World) (ha : IntsAt w va l) (hl : l.length ≤ 1000000) :
    Calls Try.prog 35 #[va] w fun e w' => ∃ p, e = .returned (.func (.func 43) #[] #[.pointer (some ⟨p, 0, none⟩)]) ∧ BeAt w' p l ∧ Below w.heap.size w w' := by
  have hmf : ∀ (fn : Fn) (first cap : Array Value) (w : World), (Instr.makeFunc fn first cap).run Try.prog w = .ok (.func fn first cap) w := fun _ _ _ _ => rfl
  have OF := Lib.hid (iAmong_any va l w ha hl)
  clear ha
  go_enter Try.func35, Try.ntmps35
  go_wp2_with (go_at_call 33; (with_reducible refine OF.out.mono ?_); rintro e w1 ⟨p1, rfl, hi, hb⟩; have HI := Lib.hid hi; have HB1 := Lib.hid hb; clear hi hb)
  go_ret
  have hal := (Below.refl w1.heap.size w1).alloc (Nat.le_refl _) (.cells #[.func (.func 41) #[] #[.pointer (some ⟨p1, 0, none⟩)]] 36)
  exact ⟨_, rfl, ⟨p1, Blk.new w1 [.func (.func 41) #[] #[.pointer (some ⟨p1, 0, none⟩)]] 36, HI.out.kept hal⟩, HB1.out.trans (hal.mono HB1.out.size)⟩

set_option maxHeartbeats 1000000 in
theorem iBeside1_any (p : Nat) (b : List Int) (x : Int) (w : World) (h : BeAt w p b) (hl : b.length ≤ 1000000) :
    Calls Try.prog 43 #[.int .i64 x, .pointer (some ⟨p, 0, none⟩)] w fun e w' => e = .returned (.bool (!inL b x)) ∧ Below w.heap.size w w' := by
  obtain ⟨p', h1, h2⟩ := h
  have c0 := h1.cell 0 rfl
  have HS := Lib.hid (iAmong1_any p' b x w h2 hl)
  clear h1 h2
  go_enter Try.func43, Try.ntmps43
  go_wp2_with (go_at_call 41; (with_reducible refine HS.out.mono ?_); rintro e w1 ⟨rfl, hb⟩; have HB := Lib.hid hb; clear hb)
  go_ret
  exact ⟨rfl, HB.out⟩

set_option maxHeartbeats 1000000 in
theorem iAnd_any (va vb : Value) (a b : List Int) (w : World) (ha : IntsAt w va a) (hb : IntsAt w vb b) (hla : a.length ≤ 1000000) (hlb : b.length ≤ 1000000) :
    Calls Try.prog 18 #[va, vb] w fun e w' => ∃ v, e = .returned v ∧ IntsAt w' v (andL a b) ∧ Below w.heap.size w w' := by
  have OF := Lib.hid (iOf_any va a w ha hla)
  have HVB := Lib.hid hb
  have HPP := Lib.hid (pick_pos a b)
  have hS : (setL a).length ≤ 1000000 := Nat.le_trans (setL_le a) hla
  obtain ⟨ab, cb, rfl⟩ := hb.form
  clear ha hb
  go_enter Try.func18, Try.ntmps18
  go_wp2_with (first
    | (go_at_call 8; (with_reducible refine OF.out.mono ?_); rintro e w1 ⟨v1, rfl, hi, hb⟩; have HI := Lib.hid hi; have HB1 := Lib.hid hb; have AM := Lib.hid (iAmong_any _ b w1 (HVB.out.below hb) hlb); clear hi hb)
    | (go_at_call 33; (with_reducible refine AM.out.mono ?_); rintro e w2 ⟨p2, rfl, hm, hb⟩; have HM := Lib.hid hm; have HB2 := Lib.hid (HB1.out.trans (hb.mono HB1.out.size)); have PK := Lib.hid (iPick_any (inL b) 41 (.pointer (some ⟨p2, 0, none⟩)) (fun _ _ => by kernel_rfl) v1 (setL a) w2 (HI.out.below hb) hS (fun w' x _ h => iAmong1_any p2 b x w' (HM.out.kept h) hlb)); rw [HPP.out] at PK; clear hm hb)
    | (go_at_call 32; (with_reducible refine PK.out.mono ?_); rintro e w3 ⟨v3, rfl, hi, hb⟩; have HI3 := Lib.hid hi; have HB3 := Lib.hid (HB2.out.trans (hb.mono HB2.out.size)); clear hi hb))
  go_ret
  exact ⟨_, rfl, HI3.out, HB3.out⟩

set_option maxHeartbeats 1000000 in
theorem iLess_any (va vb : Value) (a b : List Int) (w : World) (ha : IntsAt w va a) (hb : IntsAt w vb b) (hla : a.length ≤ 1000000) (hlb : b.length ≤ 1000000) :
    Calls Try.prog 20 #[va, vb] w fun e w' => ∃ v, e = .returned v ∧ IntsAt w' v (lessL a b) ∧ Below w.heap.size w w' := by
  have OF := Lib.hid (iOf_any va a w ha hla)
  have HVB := Lib.hid hb
  have HPP := Lib.hid (pick_neg a b)
  have hS : (setL a).length ≤ 1000000 := Nat.le_trans (setL_le a) hla
  obtain ⟨ab, cb, rfl⟩ := hb.form
  clear ha hb
  go_enter Try.func20, Try.ntmps20
  go_wp2_with (first
    | (go_at_call 8; (with_reducible refine OF.out.mono ?_); rintro e w1 ⟨v1, rfl, hi, hb⟩; have HI := Lib.hid hi; have HB1 := Lib.hid hb; have AM := Lib.hid (iBeside_any _ b w1 (HVB.out.below hb) hlb); clear hi hb)
    | (go_at_call 35; (with_reducible refine AM.out.mono ?_); rintro e w2 ⟨p2, rfl, hm, hb⟩; have HM := Lib.hid hm; have HB2 := Lib.hid (HB1.out.trans (hb.mono HB1.out.size)); have PK := Lib.hid (iPick_any (fun x => !inL b x) 43 (.pointer (some ⟨p2, 0, none⟩)) (fun _ _ => by kernel_rfl) v1 (setL a) w2 (HI.out.below hb) hS (fun w' x _ h => iBeside1_any p2 b x w' (HM.out.kept h) hlb)); rw [HPP.out] at PK; clear hm hb)
    | (go_at_call 32; (with_reducible refine PK.out.mono ?_); rintro e w3 ⟨v3, rfl, hi, hb⟩; have HI3 := Lib.hid hi; have HB3 := Lib.hid (HB2.out.trans (hb.mono HB2.out.size)); clear hi hb))
  go_ret
  exact ⟨_, rfl, HI3.out, HB3.out⟩

set_option maxHeartbeats 1000000 in
theorem iWithin_any (va vb : Value) (a b : List Int) (w : World) (ha : IntsAt w va a) (hb : IntsAt w vb b) (hla : a.length ≤ 1000000) (hlb : b.length ≤ 1000000) :
    Calls Try.prog 22 #[va, vb] w fun e w' => e = .returned (.bool (withinB a b)) ∧ Below w.heap.size w w' := by
  have BE := Lib.hid (iBeside_any vb b w hb hlb)
  have HVA := Lib.hid ha
  have hrs := runS_any (fun x => !inL b x) a
  have han := any_not a b
  rw [← hrs] at han
  generalize withinB a b = r at *
  have HAN := Lib.hid han
  obtain ⟨aa, ca, rfl⟩ := ha.form
  clear ha hb hrs han
  go_enter Try.func22, Try.ntmps22
  go_wp2_with (first
    | (go_at_call 35; (with_reducible refine BE.out.mono ?_); rintro e w2 ⟨p2, rfl, hm, hb⟩; have HB2 := Lib.hid hb; have SM := Lib.hid (iSome_any (J := fun (_ : Unit) F w' => BeAt w' p2 b ∧ ∀ k, ¬ F k) (fun _ x => ((), !inL b x)) 43 (.pointer (some ⟨p2, 0, none⟩)) (fun _ _ => by kernel_rfl) _ a w2 (HVA.out.below hb) hla () (fun _ => False) (fun _ _ _ h => h) ⟨hm, fun _ h => h⟩ (fun _ _ => True) trivial (fun _ _ _ _ => trivial) (fun s F w' x k _ _ _ hj _ => (iBeside1_any p2 b x w' hj.1 hlb).mono (by rintro e w3 ⟨rfl, h3⟩; exact ⟨rfl, F, ⟨hj.1.kept h3, hj.2⟩, Mv.of_below h3⟩))); clear hm hb)
    | (go_at_call 26; (with_reducible refine SM.out.mono ?_); rintro e w3 ⟨rfl, F', _, hm⟩; have HB3 := Lib.hid (HB2.out.trans (hm.only.below (fun k hk => hk.elim) HB2.out.size)); clear hm))
  go_ret
  exact ⟨by rw [← HAN.out]; rfl, HB3.out⟩

set_option maxHeartbeats 1000000 in
theorem iOr_any (va vb : Value) (a b : List Int) (w : World) (ha : IntsAt w va a) (hb : IntsAt w vb b) (hla : a.length ≤ 100000) (hlb : b.length ≤ 100000) :
    Calls Try.prog 16 #[va, vb] w fun e w' => ∃ v, e = .returned v ∧ IntsAt w' v (orL a b) ∧ Below w.heap.size w w' := by
  have hcat : catI [a, b] = a ++ b := by simp [catI]
  have hlen : (a ++ b).length ≤ 1000000 := by rw [List.length_append]; omega
  have hc := concatI_any _ [a, b] _ (iss_two ha.rows hb.rows 22) (by simp) (by rw [hcat]; omega)
  rw [hcat] at hc
  have HAL := Lib.hid ((Below.refl w.heap.size w).alloc (Nat.le_refl _) (.cells #[va, vb] 22))
  obtain ⟨aa, ca, rfl⟩ := ha.form
  obtain ⟨ab, cb, rfl⟩ := hb.form
  have HC := Lib.hid hc
  unfold orL
  generalize a ++ b = l at *
  clear ha hb hc hcat
  go_enter Try.func16, Try.ntmps16
  go_wp2_with (first
    | (go_at_call 31; (with_reducible refine HC.out.mono ?_); rintro e w1 ⟨v1, rfl, ho, hb⟩; have HB1 := Lib.hid (HAL.out.trans (hb.mono HAL.out.size)); have OF := Lib.hid (iOf_any v1 l w1 (OwnI.ints ho) hlen); clear ho hb)
    | (go_at_call 8; (with_reducible refine OF.out.mono ?_); rintro e w2 ⟨v2, rfl, hi, hb⟩; have HI := Lib.hid hi; have HB2 := Lib.hid (HB1.out.trans (hb.mono HB1.out.size)); clear hi hb))
  go_ret
  exact ⟨_, rfl, HI.out, HB2.out⟩

theorem iProg : IdProg where
  of va l w h1 h2 _ := iOf_any va l w h1 (by omega)
  right va l w h1 h2 _ := iRight_any va l w h1 (by omega)
  has va l n w h1 h2 _ _ := iHas_any va l n w h1 (by omega)
  or va vb a b w h1 h2 h3 h4 _ _ := iOr_any va vb a b w h1 h2 (by omega) (by omega)
  and va vb a b w h1 h2 h3 h4 _ _ := iAnd_any va vb a b w h1 h2 (by omega) (by omega)
  less va vb a b w h1 h2 h3 h4 _ _ := iLess_any va vb a b w h1 h2 (by omega) (by omega)
  within va vb a b w h1 h2 h3 h4 _ _ := iWithin_any va vb a b w h1 h2 (by omega) (by omega)
  above va l n w h1 h2 _ _ := iAbove_any va l n w h1 (by omega)
end Go.Proofs.Ytgkhjnfkpodddaa
