/- Texts of this proof, joined: WpB; WpC; MapG; MapB; MapAh; MapW; WpM. -/
import Derived.Test.YtjmgokjljmmmgaaBun11
import Derived.Shelf.Abstract
import Derived.Maps.OwnSet
import Derived.Maps.OwnOps
import Derived.WalkArith
/- Stage 21's program: tokensOf (whatever is asked), mayBeLeases, idsRise. -/
namespace Go.Proofs.Ytjmgokjljmmmgaa
open Go.RowKit

theorem tok_next (p : Le → Bool) (Xs : List Le) (k : Nat) (hk : k < Xs.length) : ((Xs.take (k + 1)).filter p).map Le.token = ((Xs.take k).filter p).map Le.token ++ (if p Xs[k] = true then [Xs[k].token] else []) := by
  rw [List.take_succ_eq_append_getElem hk, List.filter_append, List.map_append]
  cases h : p Xs[k] <;> simp [h]
theorem tok_le (p : Le → Bool) (Xs : List Le) : ((Xs.filter p).map Le.token).length ≤ Xs.length := by
  rw [List.length_map]
  exact List.length_filter_le ..
set_option maxHeartbeats 8000000 in
set_option maxRecDepth 100000 in
theorem pTokensOf_any (g : FuncId) (caps : Array Value) (eg : ∀ args w, (callFunc g args).run Try.prog w = .ok (.enter g args) w) (p : Le → Bool) (vx : Value) (Xs : List Le) (W : World) (hx : RowsAt W 7 csLe vx Xs) (hl : Xs.length ≤ 1000)
    (hso : ∀ x ∈ Xs, ∀ w', Below W.heap.size W w' → Calls Try.prog g (#[lv7 x.token x.task x.worker x.unit x.due x.got (.slice x.a x.want.length x.c)] ++ caps) w' fun e w'' => e = .returned (.bool (p x)) ∧ Below w'.heap.size w' w'') :
    Calls Try.prog 32 #[vx, .func (.func g) #[] caps] W fun e w' => ∃ v, e = .returned v ∧ OwnI w' W.heap.size v ((Xs.filter p).map Le.token) ∧ Below W.heap.size W w' := by
  obtain ⟨R, hR⟩ : ∃ R, (Xs.filter p).map Le.token = R := ⟨_, rfl⟩
  rw [hR]
  have HR := Lib.hid hR
  have HX := Lib.hid hx
  have HL := Lib.hid hl
  have HSO := Lib.hid hso
  obtain ⟨a, c, rfl⟩ := RowsAt.form hx
  clear hR
  have hb0 := Below.refl W.heap.size W
  clear hx hl hso
  go_enter Try.func32, Try.ntmps32
  go_wp2
  go_loopg [5, 10] Xs.length (fun kx sv iv ws => ∃ k : Nat, k ≤ Xs.length ∧ Xs.length - k ≤ kx ∧ iv = .int .i64 k ∧ Hid (OwnI ws W.heap.size sv (((Xs.take k).filter p).map Le.token)) ∧ Hid (Below W.heap.size W ws))
  case atStart => exact ⟨0, Nat.zero_le _, Nat.le_refl _, rfl, OwnR.nil _ _ _ _ _, hb0⟩
  case round =>
    clear hb0
    obtain ⟨k, hk, hkx, rfl, HO, HB⟩ := hrel
    obtain ⟨aT, cT, e⟩ := (OwnI.ints HO.out).form
    subst e
    by_cases hlt : k < Xs.length
    · have HLT := Lib.hid (And.intro hlt hkx)
      have k0 : (0 : Int) ≤ (k : Int) := by omega
      have k1 : (k : Int) < (Xs.length : Int) := by omega
      have k2 : (k : Int) ≤ 1000 := by have := HL.out; omega
      obtain ⟨g1, o, cc, e, z0, z1, p0, p1, p2, p3, p4, p5, p6⟩ := leaseAt (RowsAt.kept HX.out HB.out) k hlt
      cases e
      clear z0 z1
      have hnx := tok_next p Xs k hlt
      have hle : (((Xs.take k).filter p).map Le.token).length ≤ 1000 := by
        have := tok_le p (Xs.take k)
        rw [List.length_take] at this
        have := HL.out
        omega
      have hso := HSO.out _ (List.getElem_mem hlt)
      obtain ⟨x, hx⟩ : ∃ x, Xs[k]'hlt = x := ⟨_, rfl⟩
      rw [hx] at p0 p1 p2 p3 p4 p5 p6 hnx hso
      have hbx := (Below.refl wr.heap.size wr).alloc (Nat.le_refl _) (.cells #[.int .i64 x.token, .int .i64 x.task, .int .i64 x.worker, .int .i64 x.unit, .int .i64 x.due, .int .i64 x.got, .slice x.a x.want.length x.c] 35)
      have hX := Blk.new wr [.int .i64 x.token, .int .i64 x.task, .int .i64 x.worker, .int .i64 x.unit, .int .i64 x.due, .int .i64 x.got, .slice x.a x.want.length x.c] 35
      obtain ⟨b, hb⟩ : ∃ b, p x = b := ⟨_, rfl⟩
      rw [hb] at hnx hso
      obtain ⟨tk, ta, wo, un, du, go, xa, xc, xw⟩ := x
      simp only at p0 p1 p2 p3 p4 p5 hnx hX hbx hso
      change _ = some (Value.slice xa xw.length xc) at p6
      generalize xw.length = xn at *
      have HLE := Lib.hid hle
      generalize ((Xs.take k).filter p).map Le.token = D at *
      have HNX := Lib.hid hnx
      have GS := Lib.hid (hso _ (HB.out.trans (hbx.mono HB.out.size)))
      have HXB := Lib.hid hX
      have HOX := Lib.hid (OwnR.kept HO.out hbx)
      have HBX := Lib.hid (HB.out.trans (hbx.mono HB.out.size))
      clear hk hkx hlt hx hnx hle hso hX hbx hb
      cases b with
      | false =>
        have HN2 := Lib.hid (HNX.out.trans (List.append_nil D))
        go_wp2_with (go_at_fn g; (with_reducible refine GS.out.mono ?_); rintro e w3 ⟨rfl, b3⟩; have HO3 := Lib.hid (OwnR.kept HOX.out b3); have HB3 := Lib.hid (HBX.out.trans (b3.mono HBX.out.size)); clear b3)
        go_roundg (Xs.length - (k + 1))
        case measure => have := HLT.out; omega
        case rel => exact ⟨k + 1, by have := HLT.out; omega, Nat.le_refl _, by go_num, by rw [HN2.out]; exact HO3.out, HB3.out⟩
      | true =>
        go_wp2_with (first
          | (go_at_fn g; (with_reducible refine GS.out.mono ?_); rintro e w3 ⟨rfl, b3⟩; have HO3 := Lib.hid (OwnR.kept HOX.out b3); have HB3 := Lib.hid (HBX.out.trans (b3.mono HBX.out.size)); have x0 := (HXB.out.kept b3).cell 0 rfl; clear b3)
          | (at_builtin; refine app1 HO3.out HB3.out.size (by have := HLE.out; omega) rfl _ _ rfl rfl rfl ?_; intro v6 w6 o6 b6; have HO6 := Lib.hid o6; have HB6 := Lib.hid (HB3.out.trans b6); clear o6 b6 x0))
        go_roundg (Xs.length - (k + 1))
        case measure => have := HLT.out; omega
        case rel => exact ⟨k + 1, by have := HLT.out; omega, Nat.le_refl _, by go_num, by rw [HNX.out]; exact HO6.out, HB6.out⟩
    · have k1 : ¬ (k : Int) < (Xs.length : Int) := by omega
      have ho := HO.out
      have hke : Xs.take k = Xs := List.take_of_length_le (by omega)
      rw [hke, HR.out] at ho
      rw [hke, HR.out]
      have HO2 := Lib.hid ho
      clear hk hkx hlt ho HO hke
      go_wp2
      go_ret
      exact ⟨_, rfl, HO2.out, HB.out⟩
/-- may a lease be, whatever the locks are -/
def mayX (x : Le) : Bool := decide (1 ≤ x.token) && (rightB x.want && (fullX x || waitsX x))
set_option maxHeartbeats 4000000 in
set_option maxRecDepth 100000 in
theorem pMay1_any (x : Le) (w : World) (hi : IntsAt w (.slice x.a x.want.length x.c) x.want) (hl : x.want.length ≤ 1000) :
    Calls Try.prog 36 #[lv7 x.token x.task x.worker x.unit x.due x.got (.slice x.a x.want.length x.c)] w fun e w' => e = .returned (.bool (mayX x)) ∧ Below w.heap.size w w' := by
  have hb := (Below.refl w.heap.size w).alloc (Nat.le_refl _) (.cells #[.int .i64 x.token, .int .i64 x.task, .int .i64 x.worker, .int .i64 x.unit, .int .i64 x.due, .int .i64 x.got, .slice x.a x.want.length x.c] 35)
  have HB := Lib.hid hb
  have hX := Blk.new w [.int .i64 x.token, .int .i64 x.task, .int .i64 x.worker, .int .i64 x.unit, .int .i64 x.due, .int .i64 x.got, .slice x.a x.want.length x.c] 35
  have HX := Lib.hid hX
  have GR := Lib.hid (iRight_any (.slice x.a x.want.length x.c) x.want (w.alloc (.cells #[.int .i64 x.token, .int .i64 x.task, .int .i64 x.worker, .int .i64 x.unit, .int .i64 x.due, .int .i64 x.got, .slice x.a x.want.length x.c] 35)) (hi.below hb) (by omega))
  have GF := Lib.hid fun w' => pFull_any x.token x.task x.worker x.unit x.due x.got x.a x.want.length x.c w'
  have GW := Lib.hid fun w' => pWaiting_any x.token x.task x.worker x.unit x.due x.got x.a x.want.length x.c w'
  obtain ⟨r, hr⟩ : ∃ r, mayX x = r := ⟨_, rfl⟩
  rw [hr]
  have hrr : r = (decide (1 ≤ x.token) && (rightB x.want && (decide (x.got = (x.want.length : Int)) || (decide (0 ≤ x.got) && decide (x.got < (x.want.length : Int)))))) := hr.symm
  obtain ⟨q2, hq2⟩ : ∃ q2, rightB x.want = q2 := ⟨_, rfl⟩
  obtain ⟨q3, hq3⟩ : ∃ q3, decide (x.got = (x.want.length : Int)) = q3 := ⟨_, rfl⟩
  obtain ⟨q4, hq4⟩ : ∃ q4, (decide (0 ≤ x.got) && decide (x.got < (x.want.length : Int))) = q4 := ⟨_, rfl⟩
  simp only [hq2] at GR hrr
  simp only [hq3] at GF hrr
  simp only [hq4] at GW hrr
  obtain ⟨tk, ta, wo, un, du, go, xa, xc, xw⟩ := x
  simp only at hrr GR GF GW HB HX ⊢
  clear hb hX hi hl hr hq2 hq3 hq4
  generalize xw.length = n at *
  go_enter Try.func36, Try.ntmps36
  by_cases h1 : 1 ≤ tk
  · rw [decide_eq_true h1, Bool.true_and] at hrr
    cases q2 with
    | false =>
      have HF := Lib.hid (show false = r by rw [hrr]; rfl)
      clear hrr
      go_wp2_with (go_at_call 35; (with_reducible refine GR.out.mono ?_); rintro e w3 ⟨rfl, b3⟩; have HB3 := Lib.hid (HB.out.trans (b3.mono HB.out.size)); clear b3)
      go_ret
      exact ⟨ret_b HF.out, HB3.out⟩
    | true =>
      rw [Bool.true_and] at hrr
      cases q3 with
      | true =>
        have HF := Lib.hid (show true = r by rw [hrr]; rfl)
        clear hrr
        go_wp2_with (first
          | (go_at_call 35; (with_reducible refine GR.out.mono ?_); rintro e w3 ⟨rfl, b3⟩; have HB3 := Lib.hid (HB.out.trans (b3.mono HB.out.size)); have hx3 := HX.out.kept b3; have y0 := hx3.cell 0 rfl; have y1 := hx3.cell 1 rfl; have y2 := hx3.cell 2 rfl; have y3 := hx3.cell 3 rfl; have y4 := hx3.cell 4 rfl; have y5 := hx3.cell 5 rfl; have y6 := hx3.cell 6 rfl; clear b3 hx3)
          | (go_at_call 34; (with_reducible refine (GF.out _).mono ?_); rintro e w4 ⟨rfl, b4⟩; have HB4 := Lib.hid (HB3.out.trans (b4.mono HB3.out.size)); clear b4))
        go_ret
        exact ⟨ret_b HF.out, HB4.out⟩
      | false =>
        rw [Bool.false_or] at hrr
        subst hrr
        go_wp2_with (first
          | (go_at_call 35; (with_reducible refine GR.out.mono ?_); rintro e w3 ⟨rfl, b3⟩; have HB3 := Lib.hid (HB.out.trans (b3.mono HB.out.size)); have HX3 := Lib.hid (HX.out.kept b3); have y0 := HX3.out.cell 0 rfl; have y1 := HX3.out.cell 1 rfl; have y2 := HX3.out.cell 2 rfl; have y3 := HX3.out.cell 3 rfl; have y4 := HX3.out.cell 4 rfl; have y5 := HX3.out.cell 5 rfl; have y6 := HX3.out.cell 6 rfl; clear b3)
          | (go_at_call 34; (with_reducible refine (GF.out _).mono ?_); rintro e w4 ⟨rfl, b4⟩; have HB4 := Lib.hid (HB3.out.trans (b4.mono HB3.out.size)); clear y0 y1 y2 y3 y4 y5 y6; have hx4 := HX3.out.kept b4; have y0 := hx4.cell 0 rfl; have y1 := hx4.cell 1 rfl; have y2 := hx4.cell 2 rfl; have y3 := hx4.cell 3 rfl; have y4 := hx4.cell 4 rfl; have y5 := hx4.cell 5 rfl; have y6 := hx4.cell 6 rfl; clear b4 hx4)
          | (go_at_call 37; (with_reducible refine (GW.out _).mono ?_); rintro e w5 ⟨rfl, b5⟩; have HB5 := Lib.hid (HB4.out.trans (b5.mono HB4.out.size)); clear b5))
        go_ret
        exact ⟨rfl, HB5.out⟩
  · rw [decide_eq_false h1, Bool.false_and] at hrr
    have HF := Lib.hid (show false = r by rw [hrr])
    clear hrr
    go_wp2
    go_ret
    exact ⟨ret_b HF.out, HB.out⟩
end Go.Proofs.Ytjmgokjljmmmgaa
/- Stage 21's program: mayBeLeases, idsRise. -/
namespace Go.Proofs.Ytjmgokjljmmmgaa
open Go.RowKit

theorem lesW_iff : ∀ (Xs : List Le) (last : Int), lesW last Xs = true ↔ (∀ x ∈ Xs, rightB x.want = true ∧ 0 ≤ x.got ∧ x.got ≤ (x.want.length : Int)) ∧ (∀ x ∈ Xs, last < x.token) ∧ risL (Xs.map Le.token)
  | [], last => by
    simp only [lesW, List.not_mem_nil, false_imp_iff, implies_true, true_and, true_iff]
    exact List.Pairwise.nil
  | x :: r, last => by
    rw [lesW_cons, lesW_iff r x.token]
    simp only [List.mem_cons, forall_eq_or_imp, List.map_cons]
    unfold risL
    rw [List.pairwise_cons]
    simp only [List.mem_map, forall_exists_index, and_imp, forall_apply_eq_imp_iff₂]
    constructor
    · rintro ⟨h1, h2, h3, h4, h5, h6, h7⟩
      exact ⟨⟨⟨h2, h3, h4⟩, h5⟩, ⟨h1, fun y hy => by have := h6 y hy; omega⟩, h6, h7⟩
    · rintro ⟨⟨⟨h2, h3, h4⟩, h5⟩, ⟨h1, _⟩, h6, h7⟩
      exact ⟨h1, h2, h3, h4, h5, h6, h7⟩
theorem mayX_iff (x : Le) : mayX x = true ↔ 1 ≤ x.token ∧ rightB x.want = true ∧ 0 ≤ x.got ∧ x.got ≤ (x.want.length : Int) := by
  unfold mayX fullX waitsX
  simp only [Bool.and_eq_true, Bool.or_eq_true, decide_eq_true_eq]
  constructor
  · rintro ⟨h1, h2, h3 | h3⟩
    · exact ⟨h1, h2, by omega, by omega⟩
    · exact ⟨h1, h2, by omega, by omega⟩
  · rintro ⟨h1, h2, h3, h4⟩
    exact ⟨h1, h2, by omega⟩
theorem may_all (Xs : List Le) : ((Xs.filter mayX).map Le.token).length = Xs.length ↔ ∀ x ∈ Xs, mayX x = true := by
  rw [List.length_map, List.length_filter_eq_length_iff]
theorem may_eq (Xs : List Le) : (decide (((Xs.filter mayX).map Le.token).length = Xs.length) && rightB ((Xs.filter mayX).map Le.token)) = lesW 0 Xs := by
  have hr : ∀ l, rightB l = true ↔ risL l := fun l => decide_eq_true_iff
  rw [Bool.eq_iff_iff, lesW_iff, Bool.and_eq_true, decide_eq_true_eq, may_all, hr]
  constructor
  · rintro ⟨h1, h2⟩
    rw [List.filter_eq_self.2 h1] at h2
    exact ⟨fun x hx => ((mayX_iff x).1 (h1 x hx)).2, fun x hx => by have := ((mayX_iff x).1 (h1 x hx)).1; omega, h2⟩
  · rintro ⟨h1, h2, h3⟩
    have ha : ∀ x ∈ Xs, mayX x = true := fun x hx => (mayX_iff x).2 ⟨by have := h2 x hx; omega, h1 x hx⟩
    refine ⟨ha, ?_⟩
    rw [List.filter_eq_self.2 ha]
    exact h3
set_option maxHeartbeats 4000000 in
set_option maxRecDepth 100000 in
theorem pMayBe_any (vx : Value) (Xs : List Le) (W : World) (hx : LeasesAt W vx Xs) (hl : Xs.length ≤ 1000) (hw : ∀ x ∈ Xs, x.want.length ≤ 1000) :
    Calls Try.prog 19 #[vx] W fun e w' => e = .returned (.bool (lesW 0 Xs)) ∧ Below W.heap.size W w' := by
  have HT := Lib.hid (pTokensOf_any 36 #[] (fun _ _ => by kernel_rfl) mayX vx Xs W hx.rows hl fun x hxm w' hb => pMay1_any x w' ((hx.each x hxm).below hb) (hw x hxm))
  rw [← may_eq]
  have hml : ((Xs.filter mayX).map Le.token).length ≤ 1000 := Nat.le_trans (tok_le mayX Xs) hl
  generalize (Xs.filter mayX).map Le.token = M at *
  obtain ⟨ax, cx, rfl⟩ := RowsAt.form hx.rows
  have GR := Lib.hid fun (w' : World) (v : Value) (h : IntsAt w' v M) => iRight_any v M w' h (by omega)
  obtain ⟨q, hq⟩ : ∃ q, rightB M = q := ⟨_, rfl⟩
  rw [hq] at GR ⊢
  obtain ⟨m, hm⟩ : ∃ m, M.length = m := ⟨_, rfl⟩
  rw [hm]
  have HM := Lib.hid hm
  clear hx hl hw hq hm hml
  by_cases he : m = Xs.length
  · subst he
    rw [decide_eq_true rfl, Bool.true_and]
    have e1 : ((Xs.length : Int) == (Xs.length : Int)) = true := by simp
    go_enter Try.func19, Try.ntmps19
    go_wp2_with (first
      | (go_at_call 32; (with_reducible refine HT.out.mono ?_); rintro e w1 ⟨v1, rfl, h1, b1⟩; have H1 := Lib.hid (OwnI.ints h1); obtain ⟨a1, c1, e1'⟩ := H1.out.form; rw [HM.out] at e1'; subst e1'; have HB1 := Lib.hid b1; clear h1 b1)
      | (go_at_call 35; (with_reducible refine (GR.out _ _ H1.out).mono ?_); rintro e w2 ⟨rfl, b2⟩; have HB2 := Lib.hid (HB1.out.trans (b2.mono HB1.out.size)); clear b2))
    go_ret
    exact ⟨rfl, HB2.out⟩
  · rw [decide_eq_false he, Bool.false_and]
    have e1 : ((m : Int) == (Xs.length : Int)) = false := beq_noI (by omega)
    have e2 : (m == Xs.length) = false := by simpa using he
    go_enter Try.func19, Try.ntmps19
    go_wp2_with (go_at_call 32; (with_reducible refine HT.out.mono ?_); rintro e w1 ⟨v1, rfl, h1, b1⟩; have H1 := Lib.hid (OwnI.ints h1); obtain ⟨a1, c1, e1'⟩ := H1.out.form; rw [HM.out] at e1'; subst e1'; have HB1 := Lib.hid b1; clear h1 b1)
    go_ret
    exact ⟨rfl, HB1.out⟩
theorem idsL_nxt (Ls : List Lr) (k : Nat) (hk : k < Ls.length) : idsL (Ls.take (k + 1)) = idsL (Ls.take k) ++ [Ls[k].id] := by
  unfold idsL
  rw [List.take_succ_eq_append_getElem hk, List.map_append, List.map_singleton]
set_option maxHeartbeats 4000000 in
set_option maxRecDepth 100000 in
theorem pIdsRise_any (vl : Value) (Ls : List Lr) (W : World) (hl : RowsAt W 3 csL vl Ls) (hll : Ls.length ≤ 1000) :
    Calls Try.prog 18 #[vl] W fun e w' => e = .returned (.bool (rightB (idsL Ls))) ∧ Below W.heap.size W w' := by
  obtain ⟨al, cl, rfl⟩ := RowsAt.form hl
  have HL := Lib.hid hl
  have HLL := Lib.hid hll
  obtain ⟨R, hR⟩ : ∃ R, idsL Ls = R := ⟨_, rfl⟩
  rw [hR]
  have hrl : R.length ≤ 1000 := by rw [← hR]; simpa [idsL] using hll
  have GR := Lib.hid fun (w' : World) (v : Value) (h : IntsAt w' v R) => iRight_any v R w' h (by omega)
  have HR := Lib.hid hR
  have hb0 := Below.refl W.heap.size W
  clear hl hll hR hrl
  go_enter Try.func18, Try.ntmps18
  go_wp2
  go_loopg [3, 8] Ls.length (fun kx sv iv ws => ∃ k : Nat, k ≤ Ls.length ∧ Ls.length - k ≤ kx ∧ iv = .int .i64 k ∧ Hid (OwnI ws W.heap.size sv (idsL (Ls.take k))) ∧ Hid (Below W.heap.size W ws))
  case atStart => exact ⟨0, Nat.zero_le _, Nat.le_refl _, rfl, OwnR.nil _ _ _ _ _, hb0⟩
  case round =>
    clear hb0
    obtain ⟨k, hk, hkx, rfl, HO, HB⟩ := hrel
    obtain ⟨aT, cT, e⟩ := (OwnI.ints HO.out).form
    subst e
    by_cases hlt : k < Ls.length
    · have HLT := Lib.hid (And.intro hlt hkx)
      have k0 : (0 : Int) ≤ (k : Int) := by omega
      have k1 : (k : Int) < (Ls.length : Int) := by omega
      have k2 : (k : Int) ≤ 1000 := by have := HLL.out; omega
      obtain ⟨g, o, cc, e, z0, z1, p0, p1, p2⟩ := RowsAt.atL (RowsAt.kept HL.out HB.out) k hlt
      cases e
      clear z0 z1
      have hnx := idsL_nxt Ls k hlt
      have hle : (idsL (Ls.take k)).length ≤ 1000 := by
        unfold idsL
        rw [List.length_map, List.length_take]
        have := HLL.out
        omega
      obtain ⟨x, hx⟩ : ∃ x, Ls[k]'hlt = x := ⟨_, rfl⟩
      rw [hx] at p0 p1 p2 hnx
      have hbx := HB.out.alloc HB.out.size (.cells #[.int .i64 x.id, .int .i64 x.holder, .slice x.a x.wait.length x.c] 37)
      have hox := OwnR.alloc HO.out (.cells #[.int .i64 x.id, .int .i64 x.holder, .slice x.a x.wait.length x.c] 37)
      have hX := Blk.new wr [.int .i64 x.id, .int .i64 x.holder, .slice x.a x.wait.length x.c] 37
      obtain ⟨id, hh, xa, xc, xw⟩ := x
      simp only at p0 p1 hnx hbx hox hX
      change _ = some (Value.slice xa xw.length xc) at p2
      generalize xw.length = xn at *
      have HNX := Lib.hid hnx
      have HLE := Lib.hid hle
      have HBX := Lib.hid hbx
      have HOX := Lib.hid hox
      generalize idsL (Ls.take k) = D at *
      clear hk hkx hlt hnx hle hx hbx hox
      go_upto_region 5 with fail
      generalize wr.alloc (.cells #[.int .i64 id, .int .i64 hh, .slice xa xn xc] 37) = w5 at *
      have x0 := Blk.cell (vs := [.int .i64 id, .int .i64 hh, .slice xa xn xc]) hX 0 rfl
      clear hX
      go_wp2_with (at_builtin; refine app1 HOX.out HBX.out.size (by have := HLE.out; omega) rfl _ _ rfl rfl rfl ?_; intro v6 w6 o6 b6; have HO6 := Lib.hid o6; have HB6 := Lib.hid (HBX.out.trans b6); clear o6 b6 p0 p1 p2 x0)
      go_roundg (Ls.length - (k + 1))
      case measure => have := HLT.out; omega
      case rel => exact ⟨k + 1, by have := HLT.out; omega, Nat.le_refl _, by go_num, by rw [HNX.out]; exact HO6.out, HB6.out⟩
    · have k1 : ¬ (k : Int) < (Ls.length : Int) := by omega
      have ho := OwnI.ints HO.out
      have hke : Ls.take k = Ls := List.take_of_length_le (by omega)
      rw [hke, HR.out] at ho
      rw [hke, HR.out]
      have GR2 := Lib.hid (GR.out _ _ ho)
      clear hk hkx hlt ho HO hke
      go_wp2_with (go_at_call 35; (with_reducible refine GR2.out.mono ?_); rintro e w2 ⟨rfl, b2⟩; have HB2 := Lib.hid (HB.out.trans (b2.mono HB.out.size)); clear b2)
      go_ret
      exact ⟨rfl, HB2.out⟩
end Go.Proofs.Ytjmgokjljmmmgaa
/- A map with keys of kind int in memory, told as a function: each key's element, or none; how many there are. The laws at the operations, for the walk. FOR ALL STAGES WITH MAPS. -/
namespace Go.Proofs.Ytjmgokjljmmmgaa
open Go.RowKit Go.Maps

/-- how elements stand in the map -/
structure Elt (P : Program) (e : TypeId) where
  α : Type
  val : α → Value
  enc : α → DataW Unit
  ok : α → Prop
  z : α
  R : Value → Option (DataW Unit × List MemPlace)
  out : ∀ x, ok x → R (val x) = some (enc x, [])
  inv : ∀ v x ps, R v = some (enc x, ps) → v = val x
  okz : ok z
  hz : ∀ w, (zeroValue e).run P w = .ok (val z) w

/-- in the range of int -/
def I64 (n : Int) : Prop := -9223372036854775808 ≤ n ∧ n ≤ 9223372036854775807
theorem I64.wf {n : Int} (h : I64 n) : (Lit.int .i64 n).wf = true := WalkArith.wf_i64 h
theorem kl_ne {a b : Int} (h : a ≠ b) : Lit.int .i64 a ≠ Lit.int .i64 b := fun e => h (by injection e)
/-- what a map is turned into at one key -/
def updG {α : Type} (g : Int → Option α) (id : Int) (v : Option α) : Int → Option α := fun k => if k = id then v else g k
theorem updG_same {α : Type} (g : Int → Option α) (id : Int) (v : Option α) : updG g id v id = v := if_pos rfl
theorem updG_other {α : Type} (g : Int → Option α) {id k : Int} (v : Option α) (h : k ≠ id) : updG g id v k = g k := if_neg h

/-- elements that are ints -/
def eltI (P : Program) (e : TypeId) (he : P.underlying e = some (.int .i64)) (hz : ∀ w, (zeroValue e).run P w = .ok (.int .i64 0) w) : Elt P e where
  α := Int
  val := fun n => .int .i64 n
  enc := fun n => .lit (.int .i64 n)
  ok := I64
  z := 0
  R := plainElem P e
  out := fun x hx => plainElem_int he hx.wf
  inv := fun v x ps h => by
    obtain ⟨a, rfl, e2, _⟩ := plainElem_int_inv he h
    have := congrArg Prod.fst e2
    simp at this
    rw [this]
  okz := by unfold I64; omega
  hz := hz

section
variable {P : Program} {kt e : TypeId} (E : Elt P e)

/-- block b is a map of m entries: at each number of the range of int what g tells -/
def MapG (kt : TypeId) (w : World) (b m : Nat) (g : Int → Option E.α) : Prop :=
  ∃ D, w.ownsMap P kt E.R b m D ∧ Maps.size D = m ∧ ∀ id, I64 id → match g id with
    | none => Maps.has D (.int .i64 id) = false
    | some x => Maps.has D (.int .i64 id) = true ∧ ∀ z, D.atKey (.int .i64 id) z = E.enc x
variable {E} {w w' : World} {b m : Nat} {g : Int → Option E.α}
theorem MapG.lt (h : MapG E kt w b m g) : b < w.heap.size := by
  obtain ⟨D, h1, _⟩ := h
  exact h1.lt
theorem MapG.same (h : MapG E kt w b m g) (he : w'.heap[b]? = w.heap[b]?) : MapG E kt w' b m g := by
  obtain ⟨D, ⟨es, clock, hb, r⟩, h2⟩ := h
  exact ⟨D, ⟨es, clock, he.trans hb, r⟩, h2⟩
theorem MapG.kept (h : MapG E kt w b m g) (hb : Below w.heap.size w w') : MapG E kt w' b m g := h.same (hb.block b h.lt)
theorem MapG.away (h : MapG E kt w b m g) (a : Addr) (u : Value) (hne : b ≠ a.block) : MapG E kt (w.setCell a u) b m g := h.same (Below.heap_setCell w a u b hne)
theorem MapG.grown {row : Option Nat} (h : MapG E kt w b m g) (hg : w.grownBy w' row) (hne : some b ≠ row) : MapG E kt w' b m g := h.same (hg.block b h.lt hne)
theorem MapG.new (w : World) : MapG E kt (w.alloc (.map #[] 0)) w.heap.size 0 (fun _ => none) :=
  ⟨.map [], World.ownsMap_made _ _ _ _, rfl, fun _ _ => rfl⟩
/-- a map's block is no row of cells -/
theorem MapG.ne {k : Nat} {cs : Array Value} {t : TypeId} {fz : Nat × Nat} (h : MapG E kt w b m g) (hk : w.heap[k]? = some (.cells cs t fz)) : b ≠ k := fun e => by
  obtain ⟨D, ⟨es, clock, hb, r⟩, h2⟩ := h
  rw [e, hk] at hb
  cases hb
theorem MapG.ne_cell {a : Addr} {u : Value} (h : MapG E kt w b m g) (hk : w.cell? a = some u) : b ≠ a.block := fun e => by
  obtain ⟨D, ⟨es, clock, hb, r⟩, h2⟩ := h
  rw [e] at hb
  simp [World.cell?, hb] at hk

/-! ### At the operations -/
variable {ops : Array Oper} {rest : List Oper} {o : Oper} {a : Act} {Q : Exit → Act → World → Prop}
theorem wpList_lookG2 (hg : o.guard = none) (mo x : Operand) (t : TypeId) (hop : o.op = Op.lookup t mo x true) (hk : P.underlying kt = some (.int .i64)) (ht : P.underlying t = some (.map kt e))
    (hm : a.eval mo = .map (some b)) (h : MapG E kt w b m g) (id : Int) (hi : I64 id) (hx : a.eval x = .int .i64 id)
    (hK : wpList P ops Q rest (a.put o.dst (.tuple #[E.val ((g id).getD E.z), .bool (g id).isSome])) w) : wpList P ops Q (o :: rest) a w := by
  obtain ⟨D, h1, _, h3⟩ := h
  refine wpList_lookup_own_ok w hg mo x t hop kt e (int_keyed hk) ht E.R (E.hz w) (E.enc E.z) [] (E.out _ E.okz) b m D hm h1 _ _ hx (keyOf_int_mk hk hi.wf) fun v ps hv => ?_
  have := h3 id hi
  cases hgi : g id with
  | none =>
    rw [hgi] at this hK
    simp only at this
    rw [Maps.atKey_of_not_has this] at hv
    rw [E.inv _ _ _ hv, this]
    exact hK
  | some y =>
    rw [hgi] at this hK
    simp only at this
    rw [this.2] at hv
    rw [E.inv _ _ _ hv, this.1]
    exact hK
theorem wpList_putG (hg : o.guard = none) (mo x vo : Operand) (t : TypeId) (hop : o.op = Op.mapUpdate t mo x vo) (hk : P.underlying kt = some (.int .i64)) (ht : P.underlying t = some (.map kt e))
    (hm : a.eval mo = .map (some b)) (h : MapG E kt w b m g) (hn : m < maxLen) (id : Int) (hi : I64 id) (hx : a.eval x = .int .i64 id) (y : E.α) (hy : E.ok y) (hv : a.eval vo = E.val y)
    (hK : ∀ w', MapG E kt w' b (if (g id).isSome then m else m + 1) (updG g id (some y)) → w.grownBy w' (some b) → wpList P ops Q rest (a.put o.dst undef) w') : wpList P ops Q (o :: rest) a w := by
  obtain ⟨D, h1, h2, h3⟩ := h
  refine wpList_mapUpdate_in w hg mo x vo t hop kt e (int_keyed hk) ht E.R b m D hm h1 hn _ _ _ hx hv (keyOf_int_mk hk hi.wf) (E.enc y) [] (E.out y hy) fun w' h4 h5 => ?_
  have htidy := h1.tidy (int_keyed hk)
  have hsz := Maps.size_put (k := Lit.int .i64 id) htidy (E.enc y)
  have hh : Maps.has D (.int .i64 id) = (g id).isSome := by
    have := h3 id hi
    cases hgi : g id with
    | none => rw [hgi] at this; exact this
    | some y => rw [hgi] at this; exact this.1
  rw [hh, h2] at hsz
  refine hK w' ⟨D.put (.int .i64 id) (E.enc y), ?_, hsz, fun k hkk => ?_⟩ h5.grown
  · obtain ⟨es, clock, r1, r2, r3, r4⟩ := h4
    refine ⟨es, clock, r1, r2, ?_, r4⟩
    rw [← hsz, r4]
    simp [Maps.size, length_sorted]
  · by_cases ek : k = id
    · subst ek
      rw [updG_same]
      exact ⟨Maps.has_put_same (k := Lit.int .i64 k) htidy.isMap trivial _, fun z => Maps.atKey_put_same (k := Lit.int .i64 k) htidy.isMap trivial _ z⟩
    · rw [updG_other _ _ ek]
      have := h3 k hkk
      cases hgk : g k with
      | none =>
        rw [hgk] at this
        show Maps.has _ _ = false
        rw [Maps.has_put_other (kl_ne ek)]
        exact this
      | some y2 =>
        rw [hgk] at this
        refine ⟨?_, fun z => ?_⟩
        · rw [Maps.has_put_other (kl_ne ek)]; exact this.1
        · rw [Maps.atKey_put_other (kl_ne ek)]; exact this.2 z
theorem wpList_delG (hg : o.guard = none) (mo x : Operand) (t : TypeId) (hop : o.op = Op.call { callee := Callee.builtin Builtin.delete, args := #[mo, x], argTypes := #[t, kt] }) (hk : P.underlying kt = some (.int .i64)) (ht : P.underlying t = some (.map kt e))
    (hm : a.eval mo = .map (some b)) (h : MapG E kt w b m g) (id : Int) (hi : I64 id) (hx : a.eval x = .int .i64 id)
    (hK : ∀ w', MapG E kt w' b (if (g id).isSome then m - 1 else m) (updG g id none) → w.grownBy w' (some b) → wpList P ops Q rest (a.put o.dst (.tuple #[])) w') : wpList P ops Q (o :: rest) a w := by
  obtain ⟨D, h1, h2, h3⟩ := h
  refine wpList_delete_own w hg mo x t kt hop e (int_keyed hk) ht E.R b m D hm h1 _ _ hx (keyOf_int_mk hk hi.wf) fun w' h4 h5 => ?_
  have htidy := h1.tidy (int_keyed hk)
  have hsz := Maps.size_del (k := Lit.int .i64 id) htidy
  have hh : Maps.has D (.int .i64 id) = (g id).isSome := by
    have := h3 id hi
    cases hgi : g id with
    | none => rw [hgi] at this; exact this
    | some y => rw [hgi] at this; exact this.1
  rw [hh, h2] at hsz
  have hsz2 : Maps.size (D.del (.int .i64 id)) = if (g id).isSome then m - 1 else m := by
    by_cases hi2 : (g id).isSome = true
    · rw [if_pos hi2] at hsz ⊢; omega
    · rw [if_neg hi2] at hsz ⊢; omega
  refine hK w' ⟨D.del (.int .i64 id), ?_, hsz2, fun k hkk => ?_⟩ h5.grown
  · obtain ⟨es, clock, r1, r2, r3, r4⟩ := h4
    refine ⟨es, clock, r1, r2, ?_, r4⟩
    rw [← hsz2, r4]
    simp [Maps.size, length_sorted]
  · by_cases ek : k = id
    · subst ek
      rw [updG_same]
      exact Maps.has_del_same
    · rw [updG_other _ _ ek]
      have := h3 k hkk
      cases hgk : g k with
      | none =>
        rw [hgk] at this
        show Maps.has _ _ = false
        rw [Maps.has_del_other (kl_ne ek)]
        exact this
      | some y2 =>
        rw [hgk] at this
        refine ⟨?_, fun z => ?_⟩
        · rw [Maps.has_del_other (kl_ne ek)]; exact this.1
        · rw [Maps.atKey_del_other (kl_ne ek)]; exact this.2 z
theorem wpList_lenG (hg : o.guard = none) (mo : Operand) (t : TypeId) (hop : o.op = Op.call { callee := Callee.builtin Builtin.len, args := #[mo], argTypes := #[t] }) (ht : P.underlying t = some (.map kt e))
    (hm : a.eval mo = .map (some b)) (h : MapG E kt w b m g) (hK : wpList P ops Q rest (a.put o.dst (.int .i64 m)) w) : wpList P ops Q (o :: rest) a w := by
  obtain ⟨D, h1, h2, _⟩ := h
  refine wpList_len_own w hg mo t hop kt e ht E.R b m D hm h1 ?_
  rw [h2]
  exact hK
/-- 'm[k]' and 'v, ok := m[k]' as equations, for regions that draw -/
theorem MapG.look (h : MapG E kt w b m g) (hk : P.underlying kt = some (.int .i64)) {t : TypeId} (ht : P.underlying t = some (.map kt e)) {id : Int} (hi : I64 id) :
    (Instr.lookup t (.map (some b)) (.int .i64 id) true).run P w = .ok (.tuple #[E.val ((g id).getD E.z), .bool (g id).isSome]) w := by
  obtain ⟨D, h1, _, h3⟩ := h
  obtain ⟨v, ps, hrun, hv⟩ := h1.look_ok (int_keyed hk) ht (E.hz w) (E.out _ E.okz) (keyOf_int_mk hk hi.wf)
  rw [hrun]
  have := h3 id hi
  cases hgi : g id with
  | none =>
    rw [hgi] at this
    simp only at this
    rw [Maps.atKey_of_not_has this] at hv
    rw [E.inv _ _ _ hv, this]
    rfl
  | some y =>
    rw [hgi] at this
    simp only at this
    rw [this.2] at hv
    rw [E.inv _ _ _ hv, this.1]
    rfl
theorem MapG.look1 (h : MapG E kt w b m g) (hk : P.underlying kt = some (.int .i64)) {t : TypeId} (ht : P.underlying t = some (.map kt e)) {id : Int} (hi : I64 id) :
    (Instr.lookup t (.map (some b)) (.int .i64 id) false).run P w = .ok (E.val ((g id).getD E.z)) w := by
  obtain ⟨D, h1, _, h3⟩ := h
  obtain ⟨v, ps, hrun, hv⟩ := h1.lookup (int_keyed hk) ht (E.hz w) (E.out _ E.okz) (keyOf_int_mk hk hi.wf)
  rw [hrun]
  have := h3 id hi
  cases hgi : g id with
  | none =>
    rw [hgi] at this
    simp only at this
    rw [Maps.atKey_of_not_has this] at hv
    rw [E.inv _ _ _ hv]
    rfl
  | some y =>
    rw [hgi] at this
    simp only at this
    rw [this.2] at hv
    rw [E.inv _ _ _ hv]
    rfl
theorem MapG.len (h : MapG E kt w b m g) {t : TypeId} (ht : P.underlying t = some (.map kt e)) (ty : TypeId) : (Builtin.len_ #[t] ty #[.map (some b)]).run P w = .ok (.int .i64 m) w := by
  obtain ⟨D, h1, h2, _⟩ := h
  rw [h1.len ht ty, h2]
end
end Go.Proofs.Ytjmgokjljmmmgaa
/- Maps from ints to bools (map[int]bool): XMapG's laws in plain words. FOR ALL LATER STAGES (without XMapI's map[int]int). -/
namespace Go.Proofs.Ytjmgokjljmmmgaa
open Go.RowKit Go.Maps

/-- what a store does, as an equation of its run -/
theorem MapG.stored {P : Program} {kt e : TypeId} {E : Elt P e} {w : World} {b m : Nat} {g : Int → Option E.α} (h : MapG E kt w b m g) (hk : P.underlying kt = some (.int .i64)) {t : TypeId} (ht : P.underlying t = some (.map kt e)) (hn : m < maxLen) {id : Int} (hi : I64 id) (y : E.α) (hy : E.ok y) :
    ∃ w', (Instr.mapUpdate t (.map (some b)) (.int .i64 id) (E.val y)).run P w = .ok () w' ∧ MapG E kt w' b (if (g id).isSome then m else m + 1) (updG g id (some y)) ∧ w.grownBy w' (some b) := by
  obtain ⟨D, h1, h2, h3⟩ := h
  obtain ⟨w', hrun, h4, h5⟩ := h1.store (int_keyed hk) ht hn (keyOf_int_mk hk hi.wf) (E.out y hy)
  have htidy := h1.tidy (int_keyed hk)
  have hsz := Maps.size_put (k := Lit.int .i64 id) htidy (E.enc y)
  have hh : Maps.has D (.int .i64 id) = (g id).isSome := by
    have := h3 id hi
    cases hgi : g id with
    | none => rw [hgi] at this; exact this
    | some y => rw [hgi] at this; exact this.1
  rw [hh, h2] at hsz
  refine ⟨w', hrun, ⟨D.put (.int .i64 id) (E.enc y), ?_, hsz, fun k hkk => ?_⟩, h5.grown⟩
  · obtain ⟨es, clock, r1, r2, r3, r4⟩ := h4
    refine ⟨es, clock, r1, r2, ?_, r4⟩
    rw [← hsz, r4]
    simp [Maps.size, length_sorted]
  · by_cases ek : k = id
    · subst ek
      rw [updG_same]
      exact ⟨Maps.has_put_same (k := Lit.int .i64 k) htidy.isMap trivial _, fun z => Maps.atKey_put_same (k := Lit.int .i64 k) htidy.isMap trivial _ z⟩
    · rw [updG_other _ _ ek]
      have := h3 k hkk
      cases hgk : g k with
      | none =>
        rw [hgk] at this
        show Maps.has _ _ = false
        rw [Maps.has_put_other (kl_ne ek)]
        exact this
      | some y2 =>
        rw [hgk] at this
        refine ⟨?_, fun z => ?_⟩
        · rw [Maps.has_put_other (kl_ne ek)]; exact this.1
        · rw [Maps.atKey_put_other (kl_ne ek)]; exact this.2 z

def readB : Value → Option (DataW Unit × List MemPlace)
  | .bool b => some (.lit (.bool b), [])
  | _ => none
noncomputable def EB : Elt Try.prog 4 where
  α := Bool
  val := fun x => .bool x
  enc := fun x => .lit (.bool x)
  ok := fun _ => True
  z := false
  R := readB
  out := fun _ _ => rfl
  inv := fun v x ps h => by
    unfold readB at h
    split at h
    · simp only [Option.some.injEq, Prod.mk.injEq, DataW.lit.injEq, Lit.bool.injEq] at h
      rw [h.1]
    · cases h
  okz := trivial
  hz := fun w => by kernel_rfl
def MapB (w : World) (b m : Nat) (g : Int → Option Bool) : Prop := MapG EB 3 w b m g
section
variable {w w' : World} {b m : Nat} {g : Int → Option Bool}
theorem MapB.lt (h : MapB w b m g) : b < w.heap.size := MapG.lt h
theorem MapB.same (h : MapB w b m g) (he : w'.heap[b]? = w.heap[b]?) : MapB w' b m g := MapG.same h he
theorem MapB.kept (h : MapB w b m g) (hb : Below w.heap.size w w') : MapB w' b m g := MapG.kept h hb
theorem MapB.away (h : MapB w b m g) (a : Addr) (u : Value) (hne : b ≠ a.block) : MapB (w.setCell a u) b m g := MapG.away h a u hne
theorem MapB.new (w : World) : MapB (w.alloc (.map #[] 0)) w.heap.size 0 (fun _ => none) := MapG.new w
theorem MapB.ne_cell {a : Addr} {u : Value} (h : MapB w b m g) (hk : w.cell? a = some u) : b ≠ a.block := MapG.ne_cell h hk
theorem MapB.look1 (h : MapB w b m g) {id : Int} (hi : I64 id) : (Instr.lookup 62 (.map (some b)) (.int .i64 id) false).run Try.prog w = .ok (.bool ((g id).getD false)) w :=
  MapG.look1 (E := EB) h Try.underlying3 Try.underlying62 hi
theorem MapB.put (h : MapB w b m g) (hn : m ≤ 1000000) {id : Int} (hi : I64 id) (y : Bool) :
    ∃ w', (Instr.mapUpdate 62 (.map (some b)) (.int .i64 id) (.bool y)).run Try.prog w = .ok () w' ∧ MapB w' b (if (g id).isSome then m else m + 1) (updG g id (some y)) ∧ w.grownBy w' (some b) :=
  MapG.stored (E := EB) h Try.underlying3 Try.underlying62 (by unfold maxLen; omega) hi y trivial
variable {ops : Array Oper} {rest : List Oper} {o : Oper} {a : Act} {Q : Exit → Act → World → Prop}
theorem wpList_delB (hg : o.guard = none) (hd : o.dst = none) (mo x : Operand) (hop : o.op = Op.call { callee := Callee.builtin Builtin.delete, args := #[mo, x], argTypes := #[62, 3] })
    (hm : a.eval mo = .map (some b)) (h : MapB w b m g) (id : Int) (hi : I64 id) (hx : a.eval x = .int .i64 id)
    (hK : ∀ w', MapB w' b (if (g id).isSome then m - 1 else m) (updG g id none) → w.grownBy w' (some b) → wpList Try.prog ops Q rest a w') : wpList Try.prog ops Q (o :: rest) a w := by
  refine wpList_delG (E := EB) hg mo x 62 hop Try.underlying3 Try.underlying62 hm h id hi hx fun w' h1 h2 => by
    rw [hd]
    exact hK w' h1 h2
theorem wpList_lenB (hg : o.guard = none) (mo : Operand) (hop : o.op = Op.call { callee := Callee.builtin Builtin.len, args := #[mo], argTypes := #[62] })
    (hm : a.eval mo = .map (some b)) (h : MapB w b m g) (hK : wpList Try.prog ops Q rest (a.put o.dst (.int .i64 m)) w) : wpList Try.prog ops Q (o :: rest) a w :=
  wpList_lenG (E := EB) hg mo 62 hop Try.underlying62 hm h hK
end
end Go.Proofs.Ytjmgokjljmmmgaa
/- A map from ints to lists that lie anywhere. FOR ALL LATER STAGES. -/
namespace Go.Proofs.Ytjmgokjljmmmgaa
open Go.RowKit Go.Maps

/-- a list's header, wherever it points -/
structure Ah where
  a : Option Addr
  n : Nat
  c : Nat
def ahv (x : Ah) : Value := .slice x.a x.n x.c
def ah0 : Ah := ⟨none, 0, 0⟩
def encA : Ah → DataW Unit
  | ⟨none, n, c⟩ => .agg [.lit (.int .i64 (-1)), .lit (.int .i64 0), .lit (.int .i64 0), .lit (.int .i64 (n : Int)), .lit (.int .i64 (c : Int))]
  | ⟨some ⟨b, o, none⟩, n, c⟩ => .agg [.lit (.int .i64 (b : Int)), .lit (.int .i64 (o : Int)), .lit (.int .i64 (-1)), .lit (.int .i64 (n : Int)), .lit (.int .i64 (c : Int))]
  | ⟨some ⟨b, o, some s⟩, n, c⟩ => .agg [.lit (.int .i64 (b : Int)), .lit (.int .i64 (o : Int)), .lit (.int .i64 (s : Int)), .lit (.int .i64 (n : Int)), .lit (.int .i64 (c : Int))]
def readA : Value → Option (DataW Unit × List MemPlace)
  | .slice a n c => some (encA ⟨a, n, c⟩, [])
  | _ => none
theorem encA_inj {x y : Ah} (h : encA x = encA y) : x = y := by
  obtain ⟨a, n, c⟩ := x
  obtain ⟨a', n', c'⟩ := y
  rcases a with _ | ⟨b, o, _ | s⟩ <;> rcases a' with _ | ⟨b', o', _ | s'⟩ <;>
    simp only [encA, DataW.agg.injEq, List.cons.injEq, DataW.lit.injEq, Lit.int.injEq, true_and, and_true] at h
  all_goals first
    | (exfalso; omega)
    | (obtain ⟨h1, h2⟩ := h; have e1 : n = n' := by omega
       have e2 : c = c' := by omega
       subst e1 e2; rfl)
    | (obtain ⟨h1, h2, h3, h4⟩ := h; have e1 : b = b' := by omega
       have e2 : o = o' := by omega
       have e3 : n = n' := by omega
       have e4 : c = c' := by omega
       subst e1 e2 e3 e4; rfl)
    | (obtain ⟨h1, h2, h3, h4, h5⟩ := h; have e1 : b = b' := by omega
       have e2 : o = o' := by omega
       have e3 : s = s' := by omega
       have e4 : n = n' := by omega
       have e5 : c = c' := by omega
       subst e1 e2 e3 e4 e5; rfl)
noncomputable def EA : Elt Try.prog 30 where
  α := Ah
  val := ahv
  enc := encA
  ok := fun _ => True
  z := ah0
  R := readA
  out := fun x _ => rfl
  inv := fun v x ps h => by
    unfold readA at h
    split at h
    · rename_i a n c
      have h1 := congrArg Prod.fst (Option.some.inj h)
      have h2 : (⟨a, n, c⟩ : Ah) = x := encA_inj h1
      rw [← h2]
      rfl
    · cases h
  okz := trivial
  hz := fun w => by kernel_rfl
def MapA (w : World) (b m : Nat) (g : Int → Option Ah) : Prop := MapG EA 3 w b m g
section
variable {w w' : World} {b m : Nat} {g : Int → Option Ah}
theorem MapA.lt (h : MapA w b m g) : b < w.heap.size := MapG.lt h
theorem MapA.same (h : MapA w b m g) (he : w'.heap[b]? = w.heap[b]?) : MapA w' b m g := MapG.same h he
theorem MapA.kept (h : MapA w b m g) (hb : Below w.heap.size w w') : MapA w' b m g := MapG.kept h hb
theorem MapA.new (w : World) : MapA (w.alloc (.map #[] 0)) w.heap.size 0 (fun _ => none) := MapG.new w
theorem MapA.ne_cell {a : Addr} {u : Value} (h : MapA w b m g) (hk : w.cell? a = some u) : b ≠ a.block := MapG.ne_cell h hk
theorem MapA.look1 (h : MapA w b m g) {id : Int} (hi : I64 id) : (Instr.lookup 67 (.map (some b)) (.int .i64 id) false).run Try.prog w = .ok (ahv ((g id).getD ah0)) w :=
  MapG.look1 (E := EA) h Try.underlying3 Try.underlying67 hi
theorem MapA.put (h : MapA w b m g) (hn : m ≤ 1000000) {id : Int} (hi : I64 id) (y : Ah) :
    ∃ w', (Instr.mapUpdate 67 (.map (some b)) (.int .i64 id) (ahv y)).run Try.prog w = .ok () w' ∧ MapA w' b (if (g id).isSome then m else m + 1) (updG g id (some y)) ∧ w.grownBy w' (some b) :=
  MapG.stored (E := EA) h Try.underlying3 Try.underlying67 (by unfold maxLen; omega) hi y trivial
end
end Go.Proofs.Ytjmgokjljmmmgaa
/- Maps from ints to locks, and to leases (api.Lock, api.Lease). -/
namespace Go.Proofs.Ytjmgokjljmmmgaa
open Go.RowKit Go.Maps

/-- a lock, its list anywhere -/
structure Kh where
  id : Int
  holder : Int
  v : Ah
def khv (x : Kh) : Value := .agg #[.int .i64 x.id, .int .i64 x.holder, ahv x.v]
def kh0 : Kh := ⟨0, 0, ah0⟩
def encK (x : Kh) : DataW Unit := .agg [.lit (.int .i64 x.id), .lit (.int .i64 x.holder), encA x.v]
def readK : Value → Option (DataW Unit × List MemPlace)
  | .agg a => match a.toList with
    | [.int .i64 i, .int .i64 h, .slice s n c] => some (encK ⟨i, h, ⟨s, n, c⟩⟩, [])
    | _ => none
  | _ => none
theorem encK_inj {x y : Kh} (h : encK x = encK y) : x = y := by
  obtain ⟨a, b, c⟩ := x
  obtain ⟨a', b', c'⟩ := y
  simp only [encK, DataW.agg.injEq, List.cons.injEq, DataW.lit.injEq, Lit.int.injEq, true_and, and_true] at h
  obtain ⟨rfl, rfl, h3⟩ := h
  rw [encA_inj h3]
theorem readK_inv (v : Value) (y : DataW Unit × List MemPlace) (h : readK v = some y) : ∃ c, v = khv c ∧ y = (encK c, []) := by
  unfold readK at h
  split at h
  · rename_i a
    split at h
    · rename_i i hh s n c e
      refine ⟨⟨i, hh, ⟨s, n, c⟩⟩, ?_, (Option.some.inj h).symm⟩
      show Value.agg a = Value.agg _
      rw [← Array.toArray_toList (xs := a), e]
      rfl
    · cases h
  · cases h
noncomputable def EK : Elt Try.prog 37 where
  α := Kh
  val := khv
  enc := encK
  ok := fun _ => True
  z := kh0
  R := readK
  out := fun _ _ => rfl
  inv := fun v x ps h => by
    obtain ⟨c, h1, h2⟩ := readK_inv v _ h
    rw [h1, encK_inj (congrArg Prod.fst h2)]
  okz := trivial
  hz := fun w => by kernel_rfl
def MapK (w : World) (b m : Nat) (g : Int → Option Kh) : Prop := MapG EK 3 w b m g
section
variable {w w' : World} {b m : Nat} {g : Int → Option Kh}
theorem MapK.lt (h : MapK w b m g) : b < w.heap.size := MapG.lt h
theorem MapK.same (h : MapK w b m g) (he : w'.heap[b]? = w.heap[b]?) : MapK w' b m g := MapG.same h he
theorem MapK.kept (h : MapK w b m g) (hb : Below w.heap.size w w') : MapK w' b m g := MapG.kept h hb
theorem MapK.new (w : World) : MapK (w.alloc (.map #[] 0)) w.heap.size 0 (fun _ => none) := MapG.new w
theorem MapK.look1 (h : MapK w b m g) {id : Int} (hi : I64 id) : (Instr.lookup 74 (.map (some b)) (.int .i64 id) false).run Try.prog w = .ok (khv ((g id).getD kh0)) w :=
  MapG.look1 (E := EK) h Try.underlying3 Try.underlying74 hi
theorem MapK.look (h : MapK w b m g) {id : Int} (hi : I64 id) : (Instr.lookup 74 (.map (some b)) (.int .i64 id) true).run Try.prog w = .ok (.tuple #[khv ((g id).getD kh0), .bool (g id).isSome]) w :=
  MapG.look (E := EK) h Try.underlying3 Try.underlying74 hi
theorem MapK.put (h : MapK w b m g) (hn : m ≤ 1000000) {id : Int} (hi : I64 id) (y : Kh) :
    ∃ w', (Instr.mapUpdate 74 (.map (some b)) (.int .i64 id) (khv y)).run Try.prog w = .ok () w' ∧ MapK w' b (if (g id).isSome then m else m + 1) (updG g id (some y)) ∧ w.grownBy w' (some b) :=
  MapG.stored (E := EK) h Try.underlying3 Try.underlying74 (by unfold maxLen; omega) hi y trivial
end

/-- a lease, its list anywhere -/
structure Xh where
  token : Int
  task : Int
  worker : Int
  unit : Int
  due : Int
  got : Int
  v : Ah
def xhv (x : Xh) : Value := .agg #[.int .i64 x.token, .int .i64 x.task, .int .i64 x.worker, .int .i64 x.unit, .int .i64 x.due, .int .i64 x.got, ahv x.v]
def xh0 : Xh := ⟨0, 0, 0, 0, 0, 0, ah0⟩
def encX (x : Xh) : DataW Unit := .agg [.lit (.int .i64 x.token), .lit (.int .i64 x.task), .lit (.int .i64 x.worker), .lit (.int .i64 x.unit), .lit (.int .i64 x.due), .lit (.int .i64 x.got), encA x.v]
def readX : Value → Option (DataW Unit × List MemPlace)
  | .agg a => match a.toList with
    | [.int .i64 i1, .int .i64 i2, .int .i64 i3, .int .i64 i4, .int .i64 i5, .int .i64 i6, .slice s n c] => some (encX ⟨i1, i2, i3, i4, i5, i6, ⟨s, n, c⟩⟩, [])
    | _ => none
  | _ => none
theorem encX_inj {x y : Xh} (h : encX x = encX y) : x = y := by
  obtain ⟨a1, a2, a3, a4, a5, a6, c⟩ := x
  obtain ⟨b1, b2, b3, b4, b5, b6, c'⟩ := y
  simp only [encX, DataW.agg.injEq, List.cons.injEq, DataW.lit.injEq, Lit.int.injEq, true_and, and_true] at h
  obtain ⟨rfl, rfl, rfl, rfl, rfl, rfl, h3⟩ := h
  rw [encA_inj h3]
theorem readX_inv (v : Value) (y : DataW Unit × List MemPlace) (h : readX v = some y) : ∃ c, v = xhv c ∧ y = (encX c, []) := by
  unfold readX at h
  split at h
  · rename_i a
    split at h
    · rename_i i1 i2 i3 i4 i5 i6 s n c e
      refine ⟨⟨i1, i2, i3, i4, i5, i6, ⟨s, n, c⟩⟩, ?_, (Option.some.inj h).symm⟩
      show Value.agg a = Value.agg _
      rw [← Array.toArray_toList (xs := a), e]
      rfl
    · cases h
  · cases h
noncomputable def EX : Elt Try.prog 35 where
  α := Xh
  val := xhv
  enc := encX
  ok := fun _ => True
  z := xh0
  R := readX
  out := fun _ _ => rfl
  inv := fun v x ps h => by
    obtain ⟨c, h1, h2⟩ := readX_inv v _ h
    rw [h1, encX_inj (congrArg Prod.fst h2)]
  okz := trivial
  hz := fun w => by kernel_rfl
def MapX (w : World) (b m : Nat) (g : Int → Option Xh) : Prop := MapG EX 3 w b m g
section
variable {w w' : World} {b m : Nat} {g : Int → Option Xh}
theorem MapX.lt (h : MapX w b m g) : b < w.heap.size := MapG.lt h
theorem MapX.same (h : MapX w b m g) (he : w'.heap[b]? = w.heap[b]?) : MapX w' b m g := MapG.same h he
theorem MapX.kept (h : MapX w b m g) (hb : Below w.heap.size w w') : MapX w' b m g := MapG.kept h hb
theorem MapX.new (w : World) : MapX (w.alloc (.map #[] 0)) w.heap.size 0 (fun _ => none) := MapG.new w
theorem MapX.look1 (h : MapX w b m g) {id : Int} (hi : I64 id) : (Instr.lookup 61 (.map (some b)) (.int .i64 id) false).run Try.prog w = .ok (xhv ((g id).getD xh0)) w :=
  MapG.look1 (E := EX) h Try.underlying3 Try.underlying61 hi
theorem MapX.put (h : MapX w b m g) (hn : m ≤ 1000000) {id : Int} (hi : I64 id) (y : Xh) :
    ∃ w', (Instr.mapUpdate 61 (.map (some b)) (.int .i64 id) (xhv y)).run Try.prog w = .ok () w' ∧ MapX w' b (if (g id).isSome then m else m + 1) (updG g id (some y)) ∧ w.grownBy w' (some b) :=
  MapG.stored (E := EX) h Try.underlying3 Try.underlying61 (by unfold maxLen; omega) hi y trivial
end
end Go.Proofs.Ytjmgokjljmmmgaa
/- Stage 21's program: Right: the mathematics: what its maps tell. -/
namespace Go.Proofs.Ytjmgokjljmmmgaa
open Go.RowKit Go.Maps

/-- a lease as the map has it -/
def leh (x : Le) : Xh := ⟨x.token, x.task, x.worker, x.unit, x.due, x.got, ⟨x.a, x.want.length, x.c⟩⟩
def lrh (x : Lr) : Kh := ⟨x.id, x.holder, ⟨x.a, x.wait.length, x.c⟩⟩
def ofG (Xs : List Le) : Int → Option Xh := fun t => (Xs.find? fun x => x.token == t).map leh
theorem findX_snoc {Xs : List Le} {x : Le} {t : Int} (h : x.token ≠ t) : (Xs ++ [x]).find? (fun y => y.token == t) = Xs.find? (fun y => y.token == t) := by
  rw [List.find?_append, List.find?_cons_of_neg (by simpa using h)]
  simp
theorem findX_last {Xs : List Le} {x : Le} (h : x.token ∉ Xs.map Le.token) : (Xs ++ [x]).find? (fun y => y.token == x.token) = some x := by
  rw [List.find?_append, List.find?_eq_none.2 fun y hy => by
    simp only [beq_iff_eq]
    exact fun e => h (e ▸ List.mem_map_of_mem hy)]
  simp
theorem findX_no {Xs : List Le} {t : Int} (h : t ∉ Xs.map Le.token) : Xs.find? (fun y => y.token == t) = none :=
  List.find?_eq_none.2 fun y hy => by
    simp only [beq_iff_eq]
    exact fun e => h (e ▸ List.mem_map_of_mem hy)
theorem ofG_next {Xs : List Le} {x : Le} (h : x.token ∉ Xs.map Le.token) : updG (ofG Xs) x.token (some (leh x)) = ofG (Xs ++ [x]) := by
  funext t
  unfold ofG
  by_cases e : t = x.token
  · subst e
    rw [updG_same, findX_last h]
    rfl
  · rw [updG_other _ _ e, findX_snoc (fun h => e h.symm)]
theorem ofG_at {Xs : List Le} (hn : (Xs.map Le.token).Nodup) {x : Le} (hx : x ∈ Xs) : ofG Xs x.token = some (leh x) := by
  unfold ofG
  rw [find_tok hn hx]
  rfl
theorem ofG_no {Xs : List Le} {t : Int} (h : t ∉ Xs.map Le.token) : ofG Xs t = none := by
  unfold ofG
  rw [findX_no h]
  rfl
/-- numbers that have been seen -/
def seenG (S : List Int) : Int → Option Bool := fun t => if t ∈ S then some true else none
theorem seenG_next (S : List Int) (t : Int) : updG (seenG S) t (some true) = seenG (S ++ [t]) := by
  funext x
  unfold seenG
  by_cases e : x = t
  · subst e
    rw [updG_same, if_pos (by simp)]
  · rw [updG_other _ _ e]
    have h : x ∈ S ++ [t] ↔ x ∈ S := by simp [e]
    by_cases hx : x ∈ S
    · rw [if_pos hx, if_pos (h.2 hx)]
    · rw [if_neg hx, if_neg (fun h2 => hx (h.1 h2))]
theorem seenG_at (S : List Int) (t : Int) : (seenG S t).getD false = decide (t ∈ S) := by
  unfold seenG
  by_cases h : t ∈ S
  · rw [if_pos h, decide_eq_true h]; rfl
  · rw [if_neg h, decide_eq_false h]; rfl
/-- those that wait at locks -/
def waitsOf (Ls : List Lr) : List Int := Ls.flatMap Lr.wait
theorem waitsOf_next (Ls : List Lr) (k : Nat) (hk : k < Ls.length) : waitsOf (Ls.take (k + 1)) = waitsOf (Ls.take k) ++ Ls[k].wait := by
  unfold waitsOf
  rw [List.take_succ_eq_append_getElem hk, List.flatMap_append]
  simp
theorem mem_waitsOf {Ls : List Lr} {t : Int} : t ∈ waitsOf Ls ↔ ∃ l ∈ Ls, t ∈ l.wait := List.mem_flatMap
theorem lockB_wait {T : Tb} {l : Lr} (h : lockB T l = true) : ∀ t ∈ l.wait, t ∈ T.toks ∧ T.nx t = some l.id := fun t ht => by
  unfold lockB at h
  rw [Bool.and_eq_true] at h
  obtain ⟨h1, _⟩ := (waitB_iff l.wait []).1 h.2
  exact ⟨(h1 t ht).1, (h1 t ht).2.2⟩
/-- who was seen already waits there wrongly -/
theorem seen_bad {T : Tb} {Ls : List Lr} {k : Nat} (hk : k < Ls.length) (hn : (idsL Ls).Nodup) (ha : (Ls.take k).all (fun l => lockB T l) = true) {j : Nat} {t : Int} (ht : t ∈ waitsOf (Ls.take k) ++ Ls[k].wait.take j) : (inL T.toks t && (!inL (Ls[k].wait.take j) t && decide (T.nx t = some Ls[k].id))) = false := by
  rw [Bool.eq_false_iff]
  intro h
  simp only [Bool.and_eq_true, Bool.not_eq_true', decide_eq_true_eq] at h
  obtain ⟨_, h2, h3⟩ := h
  rcases List.mem_append.1 ht with ht | ht
  · obtain ⟨l, hl, htl⟩ := mem_waitsOf.1 ht
    have h4 := (lockB_wait (List.all_eq_true.1 ha l hl) t htl).2
    rw [h3] at h4
    have h5 : Ls[k].id = l.id := Option.some.inj h4
    have hno := not_take hn k (by simpa [idsL] using hk)
    refine hno ?_
    have e1 : (idsL Ls)[k]'(by simpa [idsL] using hk) = Ls[k].id := by simp [idsL]
    rw [e1, h5]
    have e2 : (idsL Ls).take k = (Ls.take k).map Lr.id := by unfold idsL; rw [List.map_take]
    rw [e2]
    exact List.mem_map_of_mem hl
  · have : inL (Ls[k].wait.take j) t = true := decide_eq_true ht
    rw [this] at h2
    cases h2
section
variable {W : World} {vx : Value} {Xs : List Le}
theorem pHoldsOf_any (Ls : List Lr) (hx : LeasesAt W vx Xs) (hle : lesW 0 Xs = true) (hw : ∀ x ∈ Xs, x.want.length ≤ 1000) (t id : Int) (w' : World) (hb : Below W.heap.size W w') :
    Calls Try.prog 38 #[xhv ((ofG Xs t).getD xh0), .int .i64 id] w' fun e w'' => e = .returned (.bool (inL (mkT Ls Xs).toks t && inL (((mkT Ls Xs).want t).take ((mkT Ls Xs).got t)) id)) ∧ Below w'.heap.size w' w'' := by
  have hn := ris_nodup (lesW_ris Xs 0 hle).2
  by_cases ht : t ∈ Xs.map Le.token
  · obtain ⟨x, hxm, rfl⟩ := List.mem_map.1 ht
    obtain ⟨h1, h2⟩ := mk_seat (Ls := Ls) hn hxm
    obtain ⟨g1, g2, g3⟩ := lesW_each Xs 0 hle x hxm
    rw [ofG_at hn hxm, show inL (mkT Ls Xs).toks x.token = true from decide_eq_true ht, Bool.true_and, h1, h2]
    have := pHolds_any x.token x.task x.worker x.unit x.due x.got.toNat x.a x.c x.want id w' ((hx.each x hxm).below hb) (of_decide_eq_true g1) (by omega) (hw x hxm)
    rw [Int.toNat_of_nonneg g2] at this
    exact this
  · rw [ofG_no ht, show inL (mkT Ls Xs).toks t = false from decide_eq_false ht, Bool.false_and]
    have := pHolds_any 0 0 0 0 0 0 none 0 [] id w' (RowsAt.ints (RowsAt.nil _ _ _)) List.Pairwise.nil (Nat.le_refl _) (by simp)
    simp only [List.take_nil] at this
    exact this
theorem pWaitsOf_any (Ls : List Lr) (hx : LeasesAt W vx Xs) (hle : lesW 0 Xs = true) (hw : ∀ x ∈ Xs, x.want.length ≤ 1000) (t id : Int) (w' : World) (hb : Below W.heap.size W w') :
    Calls Try.prog 39 #[xhv ((ofG Xs t).getD xh0), .int .i64 id] w' fun e w'' => e = .returned (.bool (inL (mkT Ls Xs).toks t && decide ((mkT Ls Xs).nx t = some id))) ∧ Below w'.heap.size w' w'' := by
  have hn := ris_nodup (lesW_ris Xs 0 hle).2
  by_cases ht : t ∈ Xs.map Le.token
  · obtain ⟨x, hxm, rfl⟩ := List.mem_map.1 ht
    obtain ⟨h1, h2⟩ := mk_seat (Ls := Ls) hn hxm
    obtain ⟨g1, g2, g3⟩ := lesW_each Xs 0 hle x hxm
    rw [ofG_at hn hxm, show inL (mkT Ls Xs).toks x.token = true from decide_eq_true ht, Bool.true_and, nx_mk h1 h2]
    have := pWaitsFor_any x.token x.task x.worker x.unit x.due x.got x.a x.c x.want id w' ((hx.each x hxm).below hb) (hw x hxm)
    have e : decide (0 ≤ x.got ∧ x.want[x.got.toNat]? = some id) = decide (x.want[x.got.toNat]? = some id) := by simp [g2]
    rw [e] at this
    exact this
  · rw [ofG_no ht, show inL (mkT Ls Xs).toks t = false from decide_eq_false ht, Bool.false_and]
    have := pWaitsFor_any 0 0 0 0 0 0 none 0 [] id w' (RowsAt.ints (RowsAt.nil _ _ _)) (by simp)
    simp at this
    exact this
end
end Go.Proofs.Ytjmgokjljmmmgaa
