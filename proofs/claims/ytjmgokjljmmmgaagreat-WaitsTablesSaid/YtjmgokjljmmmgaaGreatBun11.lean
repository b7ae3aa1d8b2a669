/- Texts of this proof, joined: WpB; WpC; MapW; WpM; WpD; MapN. -/
import Derived.Test.YtjmgokjljmmmgaaGreatBun10
import Derived.Shelf.Abstract
import Derived.Deep.DeepCutAuto
/- Stage 21's program: tokensOf (whatever is asked), mayBeLeases, idsRise. -/
namespace Go.Proofs.YtjmgokjljmmmgaaGreat
open Go.RowKit

theorem tok_next (p : Le → Bool) (Xs : List Le) (k : Nat) (hk : k < Xs.length) : ((Xs.take (k + 1)).filter p).map Le.token = ((Xs.take k).filter p).map Le.token ++ (if p Xs[k] = true then [Xs[k].token] else []) := by
  rw [List.take_succ_eq_append_getElem hk, List.filter_append, List.map_append]
  cases h : p Xs[k] <;> simp [h]
theorem tok_le (p : Le → Bool) (Xs : List Le) : ((Xs.filter p).map Le.token).length ≤ Xs.length := by
  rw [List.length_map]
  exact List.length_filter_le ..
set_option maxHeartbeats 8000000 in
set_option maxRecDepth 100000 in
theorem pTokensOf_any (g : FuncId) (caps : Array Value) (eg : ∀ args w, (callFunc g args).run Tryz.prog w = .ok (.enter g args) w) (p : Le → Bool) (vx : Value) (Xs : List Le) (W : World) (hx : RowsAt W 7 csLe vx Xs) (hl : Xs.length ≤ 1000)
    (hso : ∀ x ∈ Xs, ∀ w', Below W.heap.size W w' → Calls Tryz.prog g (#[lv7 x.token x.task x.worker x.unit x.due x.got (.slice x.a x.want.length x.c)] ++ caps) w' fun e w'' => e = .returned (.bool (p x)) ∧ Below w'.heap.size w' w'') :
    Calls Tryz.prog 46 #[vx, .func (.func g) #[] caps] W fun e w' => ∃ v, e = .returned v ∧ OwnI w' W.heap.size v ((Xs.filter p).map Le.token) ∧ Below W.heap.size W w' := by
  obtain ⟨R, hR⟩ : ∃ R, (Xs.filter p).map Le.token = R := ⟨_, rfl⟩
  rw [hR]
  have HR := Lib.hid hR
  have HX := Lib.hid hx
  have HL := Lib.hid hl
  have HSO := Lib.hid hso
  obtain ⟨a, c, rfl⟩ := RowsAt.form hx
  clear hR
  have hb0 := Below.refl W.heap.size W
  clear hx hl hso
  go_enter Tryz.func46, Tryz.ntmps46
  go_wp2
  go_loopg [5, 10] Xs.length (fun kx sv iv ws => ∃ k : Nat, k ≤ Xs.length ∧ Xs.length - k ≤ kx ∧ iv = .int .i64 k ∧ Hid (OwnI ws W.heap.size sv (((Xs.take k).filter p).map Le.token)) ∧ Hid (Below W.heap.size W ws))
  case atStart => exact ⟨0, Nat.zero_le _, Nat.le_refl _, rfl, OwnR.nil _ _ _ _ _, hb0⟩
  case round =>
    clear hb0
    obtain ⟨k, hk, hkx, rfl, HO, HB⟩ := hrel
    obtain ⟨aT, cT, e⟩ := (OwnI.ints HO.out).form
    subst e
    by_cases hlt : k < Xs.length
    · have HLT := Lib.hid (And.intro hlt hkx)
      have k0 : (0 : Int) ≤ (k : Int) := by omega
      have k1 : (k : Int) < (Xs.length : Int) := by omega
      have k2 : (k : Int) ≤ 1000 := by have := HL.out; omega
      obtain ⟨g1, o, cc, e, z0, z1, p0, p1, p2, p3, p4, p5, p6⟩ := leaseAt (RowsAt.kept HX.out HB.out) k hlt
      cases e
      clear z0 z1
      have hnx := tok_next p Xs k hlt
      have hle : (((Xs.take k).filter p).map Le.token).length ≤ 1000 := by
        have := tok_le p (Xs.take k)
        rw [List.length_take] at this
        have := HL.out
        omega
      have hso := HSO.out _ (List.getElem_mem hlt)
      obtain ⟨x, hx⟩ : ∃ x, Xs[k]'hlt = x := ⟨_, rfl⟩
      rw [hx] at p0 p1 p2 p3 p4 p5 p6 hnx hso
      have hbx := (Below.refl wr.heap.size wr).alloc (Nat.le_refl _) (.cells #[.int .i64 x.token, .int .i64 x.task, .int .i64 x.worker, .int .i64 x.unit, .int .i64 x.due, .int .i64 x.got, .slice x.a x.want.length x.c] 43)
      have hX := Blk.new wr [.int .i64 x.token, .int .i64 x.task, .int .i64 x.worker, .int .i64 x.unit, .int .i64 x.due, .int .i64 x.got, .slice x.a x.want.length x.c] 43
      obtain ⟨b, hb⟩ : ∃ b, p x = b := ⟨_, rfl⟩
      rw [hb] at hnx hso
      obtain ⟨tk, ta, wo, un, du, go, xa, xc, xw⟩ := x
      simp only at p0 p1 p2 p3 p4 p5 hnx hX hbx hso
      change _ = some (Value.slice xa xw.length xc) at p6
      generalize xw.length = xn at *
      have HLE := Lib.hid hle
      generalize ((Xs.take k).filter p).map Le.token = D at *
      have HNX := Lib.hid hnx
      have GS := Lib.hid (hso _ (HB.out.trans (hbx.mono HB.out.size)))
      have HXB := Lib.hid hX
      have HOX := Lib.hid (OwnR.kept HO.out hbx)
      have HBX := Lib.hid (HB.out.trans (hbx.mono HB.out.size))
      clear hk hkx hlt hx hnx hle hso hX hbx hb
      cases b with
      | false =>
        have HN2 := Lib.hid (HNX.out.trans (List.append_nil D))
        go_wp2_with (go_at_fn g; (with_reducible refine GS.out.mono ?_); rintro e w3 ⟨rfl, b3⟩; have HO3 := Lib.hid (OwnR.kept HOX.out b3); have HB3 := Lib.hid (HBX.out.trans (b3.mono HBX.out.size)); clear b3)
        go_roundg (Xs.length - (k + 1))
        case measure => have := HLT.out; omega
        case rel => exact ⟨k + 1, by have := HLT.out; omega, Nat.le_refl _, by go_num, by rw [HN2.out]; exact HO3.out, HB3.out⟩
      | true =>
        go_wp2_with (first
          | (go_at_fn g; (with_reducible refine GS.out.mono ?_); rintro e w3 ⟨rfl, b3⟩; have HO3 := Lib.hid (OwnR.kept HOX.out b3); have HB3 := Lib.hid (HBX.out.trans (b3.mono HBX.out.size)); have x0 := (HXB.out.kept b3).cell 0 rfl; clear b3)
          | (at_builtin; refine app1 HO3.out HB3.out.size (by have := HLE.out; omega) rfl _ _ rfl rfl rfl ?_; intro v6 w6 o6 b6; have HO6 := Lib.hid o6; have HB6 := Lib.hid (HB3.out.trans b6); clear o6 b6 x0))
        go_roundg (Xs.length - (k + 1))
        case measure => have := HLT.out; omega
        case rel => exact ⟨k + 1, by have := HLT.out; omega, Nat.le_refl _, by go_num, by rw [HNX.out]; exact HO6.out, HB6.out⟩
    · have k1 : ¬ (k : Int) < (Xs.length : Int) := by omega
      have ho := HO.out
      have hke : Xs.take k = Xs := List.take_of_length_le (by omega)
      rw [hke, HR.out] at ho
      rw [hke, HR.out]
      have HO2 := Lib.hid ho
      clear hk hkx hlt ho HO hke
      go_wp2
      go_ret
      exact ⟨_, rfl, HO2.out, HB.out⟩
/-- may a lease be, whatever the locks are -/
def mayX (x : Le) : Bool := decide (1 ≤ x.token) && (rightB x.want && (fullX x || waitsX x))
set_option maxHeartbeats 4000000 in
set_option maxRecDepth 100000 in
theorem pMay1_any (x : Le) (w : World) (hi : IntsAt w (.slice x.a x.want.length x.c) x.want) (hl : x.want.length ≤ 1000) :
    Calls Tryz.prog 60 #[lv7 x.token x.task x.worker x.unit x.due x.got (.slice x.a x.want.length x.c)] w fun e w' => e = .returned (.bool (mayX x)) ∧ Below w.heap.size w w' := by
  have hb := (Below.refl w.heap.size w).alloc (Nat.le_refl _) (.cells #[.int .i64 x.token, .int .i64 x.task, .int .i64 x.worker, .int .i64 x.unit, .int .i64 x.due, .int .i64 x.got, .slice x.a x.want.length x.c] 43)
  have HB := Lib.hid hb
  have hX := Blk.new w [.int .i64 x.token, .int .i64 x.task, .int .i64 x.worker, .int .i64 x.unit, .int .i64 x.due, .int .i64 x.got, .slice x.a x.want.length x.c] 43
  have HX := Lib.hid hX
  have GR := Lib.hid (iRight_any (.slice x.a x.want.length x.c) x.want (w.alloc (.cells #[.int .i64 x.token, .int .i64 x.task, .int .i64 x.worker, .int .i64 x.unit, .int .i64 x.due, .int .i64 x.got, .slice x.a x.want.length x.c] 43)) (hi.below hb) (by omega))
  have GF := Lib.hid fun w' => pFull_any x.token x.task x.worker x.unit x.due x.got x.a x.want.length x.c w'
  have GW := Lib.hid fun w' => pWaiting_any x.token x.task x.worker x.unit x.due x.got x.a x.want.length x.c w'
  obtain ⟨r, hr⟩ : ∃ r, mayX x = r := ⟨_, rfl⟩
  rw [hr]
  have hrr : r = (decide (1 ≤ x.token) && (rightB x.want && (decide (x.got = (x.want.length : Int)) || (decide (0 ≤ x.got) && decide (x.got < (x.want.length : Int)))))) := hr.symm
  obtain ⟨q2, hq2⟩ : ∃ q2, rightB x.want = q2 := ⟨_, rfl⟩
  obtain ⟨q3, hq3⟩ : ∃ q3, decide (x.got = (x.want.length : Int)) = q3 := ⟨_, rfl⟩
  obtain ⟨q4, hq4⟩ : ∃ q4, (decide (0 ≤ x.got) && decide (x.got < (x.want.length : Int))) = q4 := ⟨_, rfl⟩
  simp only [hq2] at GR hrr
  simp only [hq3] at GF hrr
  simp only [hq4] at GW hrr
  obtain ⟨tk, ta, wo, un, du, go, xa, xc, xw⟩ := x
  simp only at hrr GR GF GW HB HX ⊢
  clear hb hX hi hl hr hq2 hq3 hq4
  generalize xw.length = n at *
  go_enter Tryz.func60, Tryz.ntmps60
  by_cases h1 : 1 ≤ tk
  · rw [decide_eq_true h1, Bool.true_and] at hrr
    cases q2 with
    | false =>
      have HF := Lib.hid (show false = r by rw [hrr]; rfl)
      clear hrr
      go_wp2_with (go_at_call 23; (with_reducible refine GR.out.mono ?_); rintro e w3 ⟨rfl, b3⟩; have HB3 := Lib.hid (HB.out.trans (b3.mono HB.out.size)); clear b3)
      go_ret
      exact ⟨ret_b HF.out, HB3.out⟩
    | true =>
      rw [Bool.true_and] at hrr
      cases q3 with
      | true =>
        have HF := Lib.hid (show true = r by rw [hrr]; rfl)
        clear hrr
        go_wp2_with (first
          | (go_at_call 23; (with_reducible refine GR.out.mono ?_); rintro e w3 ⟨rfl, b3⟩; have HB3 := Lib.hid (HB.out.trans (b3.mono HB.out.size)); have hx3 := HX.out.kept b3; have y0 := hx3.cell 0 rfl; have y1 := hx3.cell 1 rfl; have y2 := hx3.cell 2 rfl; have y3 := hx3.cell 3 rfl; have y4 := hx3.cell 4 rfl; have y5 := hx3.cell 5 rfl; have y6 := hx3.cell 6 rfl; clear b3 hx3)
          | (go_at_call 48; (with_reducible refine (GF.out _).mono ?_); rintro e w4 ⟨rfl, b4⟩; have HB4 := Lib.hid (HB3.out.trans (b4.mono HB3.out.size)); clear b4))
        go_ret
        exact ⟨ret_b HF.out, HB4.out⟩
      | false =>
        rw [Bool.false_or] at hrr
        subst hrr
        go_wp2_with (first
          | (go_at_call 23; (with_reducible refine GR.out.mono ?_); rintro e w3 ⟨rfl, b3⟩; have HB3 := Lib.hid (HB.out.trans (b3.mono HB.out.size)); have HX3 := Lib.hid (HX.out.kept b3); have y0 := HX3.out.cell 0 rfl; have y1 := HX3.out.cell 1 rfl; have y2 := HX3.out.cell 2 rfl; have y3 := HX3.out.cell 3 rfl; have y4 := HX3.out.cell 4 rfl; have y5 := HX3.out.cell 5 rfl; have y6 := HX3.out.cell 6 rfl; clear b3)
          | (go_at_call 48; (with_reducible refine (GF.out _).mono ?_); rintro e w4 ⟨rfl, b4⟩; have HB4 := Lib.hid (HB3.out.trans (b4.mono HB3.out.size)); clear y0 y1 y2 y3 y4 y5 y6; have hx4 := HX3.out.kept b4; have y0 := hx4.cell 0 rfl; have y1 := hx4.cell 1 rfl; have y2 := hx4.cell 2 rfl; have y3 := hx4.cell 3 rfl; have y4 := hx4.cell 4 rfl; have y5 := hx4.cell 5 rfl; have y6 := hx4.cell 6 rfl; clear b4 hx4)
          | (go_at_call 61; (with_reducible refine (GW.out _).mono ?_); rintro e w5 ⟨rfl, b5⟩; have HB5 := Lib.hid (HB4.out.trans (b5.mono HB4.out.size)); clear b5))
        go_ret
        exact ⟨rfl, HB5.out⟩
  · rw [decide_eq_false h1, Bool.false_and] at hrr
    have HF := Lib.hid (show false = r by rw [hrr])
    clear hrr
    go_wp2
    go_ret
    exact ⟨ret_b HF.out, HB.out⟩
end Go.Proofs.YtjmgokjljmmmgaaGreat
/- Stage 21's program: mayBeLeases, idsRise. -/
namespace Go.Proofs.YtjmgokjljmmmgaaGreat
open Go.RowKit

theorem lesW_iff : ∀ (Xs : List Le) (last : Int), lesW last Xs = true ↔ (∀ x ∈ Xs, rightB x.want = true ∧ 0 ≤ x.got ∧ x.got ≤ (x.want.length : Int)) ∧ (∀ x ∈ Xs, last < x.token) ∧ risL (Xs.map Le.token)
  | [], last => by
    simp only [lesW, List.not_mem_nil, false_imp_iff, implies_true, true_and, true_iff]
    exact List.Pairwise.nil
  | x :: r, last => by
    rw [lesW_cons, lesW_iff r x.token]
    simp only [List.mem_cons, forall_eq_or_imp, List.map_cons]
    unfold risL
    rw [List.pairwise_cons]
    simp only [List.mem_map, forall_exists_index, and_imp, forall_apply_eq_imp_iff₂]
    constructor
    · rintro ⟨h1, h2, h3, h4, h5, h6, h7⟩
      exact ⟨⟨⟨h2, h3, h4⟩, h5⟩, ⟨h1, fun y hy => by have := h6 y hy; omega⟩, h6, h7⟩
    · rintro ⟨⟨⟨h2, h3, h4⟩, h5⟩, ⟨h1, _⟩, h6, h7⟩
      exact ⟨h1, h2, h3, h4, h5, h6, h7⟩
theorem mayX_iff (x : Le) : mayX x = true ↔ 1 ≤ x.token ∧ rightB x.want = true ∧ 0 ≤ x.got ∧ x.got ≤ (x.want.length : Int) := by
  unfold mayX fullX waitsX
  simp only [Bool.and_eq_true, Bool.or_eq_true, decide_eq_true_eq]
  constructor
  · rintro ⟨h1, h2, h3 | h3⟩
    · exact ⟨h1, h2, by omega, by omega⟩
    · exact ⟨h1, h2, by omega, by omega⟩
  · rintro ⟨h1, h2, h3, h4⟩
    exact ⟨h1, h2, by omega⟩
theorem may_all (Xs : List Le) : ((Xs.filter mayX).map Le.token).length = Xs.length ↔ ∀ x ∈ Xs, mayX x = true := by
  rw [List.length_map, List.length_filter_eq_length_iff]
theorem may_eq (Xs : List Le) : (decide (((Xs.filter mayX).map Le.token).length = Xs.length) && rightB ((Xs.filter mayX).map Le.token)) = lesW 0 Xs := by
  have hr : ∀ l, rightB l = true ↔ risL l := fun l => decide_eq_true_iff
  rw [Bool.eq_iff_iff, lesW_iff, Bool.and_eq_true, decide_eq_true_eq, may_all, hr]
  constructor
  · rintro ⟨h1, h2⟩
    rw [List.filter_eq_self.2 h1] at h2
    exact ⟨fun x hx => ((mayX_iff x).1 (h1 x hx)).2, fun x hx => by have := ((mayX_iff x).1 (h1 x hx)).1; omega, h2⟩
  · rintro ⟨h1, h2, h3⟩
    have ha : ∀ x ∈ Xs, mayX x = true := fun x hx => (mayX_iff x).2 ⟨by have := h2 x hx; omega, h1 x hx⟩
    refine ⟨ha, ?_⟩
    rw [List.filter_eq_self.2 ha]
    exact h3
set_option maxHeartbeats 4000000 in
set_option maxRecDepth 100000 in
theorem pMayBe_any (vx : Value) (Xs : List Le) (W : World) (hx : LeasesAt W vx Xs) (hl : Xs.length ≤ 1000) (hw : ∀ x ∈ Xs, x.want.length ≤ 1000) :
    Calls Tryz.prog 39 #[vx] W fun e w' => e = .returned (.bool (lesW 0 Xs)) ∧ Below W.heap.size W w' := by
  have HT := Lib.hid (pTokensOf_any 60 #[] (fun _ _ => by kernel_rfl) mayX vx Xs W hx.rows hl fun x hxm w' hb => pMay1_any x w' ((hx.each x hxm).below hb) (hw x hxm))
  rw [← may_eq]
  have hml : ((Xs.filter mayX).map Le.token).length ≤ 1000 := Nat.le_trans (tok_le mayX Xs) hl
  generalize (Xs.filter mayX).map Le.token = M at *
  obtain ⟨ax, cx, rfl⟩ := RowsAt.form hx.rows
  have GR := Lib.hid fun (w' : World) (v : Value) (h : IntsAt w' v M) => iRight_any v M w' h (by omega)
  obtain ⟨q, hq⟩ : ∃ q, rightB M = q := ⟨_, rfl⟩
  rw [hq] at GR ⊢
  obtain ⟨m, hm⟩ : ∃ m, M.length = m := ⟨_, rfl⟩
  rw [hm]
  have HM := Lib.hid hm
  clear hx hl hw hq hm hml
  by_cases he : m = Xs.length
  · subst he
    rw [decide_eq_true rfl, Bool.true_and]
    have e1 : ((Xs.length : Int) == (Xs.length : Int)) = true := by simp
    go_enter Tryz.func39, Tryz.ntmps39
    go_wp2_with (first
      | (go_at_call 46; (with_reducible refine HT.out.mono ?_); rintro e w1 ⟨v1, rfl, h1, b1⟩; have H1 := Lib.hid (OwnI.ints h1); obtain ⟨a1, c1, e1'⟩ := H1.out.form; rw [HM.out] at e1'; subst e1'; have HB1 := Lib.hid b1; clear h1 b1)
      | (go_at_call 23; (with_reducible refine (GR.out _ _ H1.out).mono ?_); rintro e w2 ⟨rfl, b2⟩; have HB2 := Lib.hid (HB1.out.trans (b2.mono HB1.out.size)); clear b2))
    go_ret
    exact ⟨rfl, HB2.out⟩
  · rw [decide_eq_false he, Bool.false_and]
    have e1 : ((m : Int) == (Xs.length : Int)) = false := beq_noI (by omega)
    have e2 : (m == Xs.length) = false := by simpa using he
    go_enter Tryz.func39, Tryz.ntmps39
    go_wp2_with (go_at_call 46; (with_reducible refine HT.out.mono ?_); rintro e w1 ⟨v1, rfl, h1, b1⟩; have H1 := Lib.hid (OwnI.ints h1); obtain ⟨a1, c1, e1'⟩ := H1.out.form; rw [HM.out] at e1'; subst e1'; have HB1 := Lib.hid b1; clear h1 b1)
    go_ret
    exact ⟨rfl, HB1.out⟩
theorem idsL_nxt (Ls : List Lr) (k : Nat) (hk : k < Ls.length) : idsL (Ls.take (k + 1)) = idsL (Ls.take k) ++ [Ls[k].id] := by
  unfold idsL
  rw [List.take_succ_eq_append_getElem hk, List.map_append, List.map_singleton]
set_option maxHeartbeats 4000000 in
set_option maxRecDepth 100000 in
theorem pIdsRise_any (vl : Value) (Ls : List Lr) (W : World) (hl : RowsAt W 3 csL vl Ls) (hll : Ls.length ≤ 1000) :
    Calls Tryz.prog 38 #[vl] W fun e w' => e = .returned (.bool (rightB (idsL Ls))) ∧ Below W.heap.size W w' := by
  obtain ⟨al, cl, rfl⟩ := RowsAt.form hl
  have HL := Lib.hid hl
  have HLL := Lib.hid hll
  obtain ⟨R, hR⟩ : ∃ R, idsL Ls = R := ⟨_, rfl⟩
  rw [hR]
  have hrl : R.length ≤ 1000 := by rw [← hR]; simpa [idsL] using hll
  have GR := Lib.hid fun (w' : World) (v : Value) (h : IntsAt w' v R) => iRight_any v R w' h (by omega)
  have HR := Lib.hid hR
  have hb0 := Below.refl W.heap.size W
  clear hl hll hR hrl
  go_enter Tryz.func38, Tryz.ntmps38
  go_wp2
  go_loopg [3, 8] Ls.length (fun kx sv iv ws => ∃ k : Nat, k ≤ Ls.length ∧ Ls.length - k ≤ kx ∧ iv = .int .i64 k ∧ Hid (OwnI ws W.heap.size sv (idsL (Ls.take k))) ∧ Hid (Below W.heap.size W ws))
  case atStart => exact ⟨0, Nat.zero_le _, Nat.le_refl _, rfl, OwnR.nil _ _ _ _ _, hb0⟩
  case round =>
    clear hb0
    obtain ⟨k, hk, hkx, rfl, HO, HB⟩ := hrel
    obtain ⟨aT, cT, e⟩ := (OwnI.ints HO.out).form
    subst e
    by_cases hlt : k < Ls.length
    · have HLT := Lib.hid (And.intro hlt hkx)
      have k0 : (0 : Int) ≤ (k : Int) := by omega
      have k1 : (k : Int) < (Ls.length : Int) := by omega
      have k2 : (k : Int) ≤ 1000 := by have := HLL.out; omega
      obtain ⟨g, o, cc, e, z0, z1, p0, p1, p2⟩ := RowsAt.atL (RowsAt.kept HL.out HB.out) k hlt
      cases e
      clear z0 z1
      have hnx := idsL_nxt Ls k hlt
      have hle : (idsL (Ls.take k)).length ≤ 1000 := by
        unfold idsL
        rw [List.length_map, List.length_take]
        have := HLL.out
        omega
      obtain ⟨x, hx⟩ : ∃ x, Ls[k]'hlt = x := ⟨_, rfl⟩
      rw [hx] at p0 p1 p2 hnx
      have hbx := HB.out.alloc HB.out.size (.cells #[.int .i64 x.id, .int .i64 x.holder, .slice x.a x.wait.length x.c] 50)
      have hox := OwnR.alloc HO.out (.cells #[.int .i64 x.id, .int .i64 x.holder, .slice x.a x.wait.length x.c] 50)
      have hX := Blk.new wr [.int .i64 x.id, .int .i64 x.holder, .slice x.a x.wait.length x.c] 50
      obtain ⟨id, hh, xa, xc, xw⟩ := x
      simp only at p0 p1 hnx hbx hox hX
      change _ = some (Value.slice xa xw.length xc) at p2
      generalize xw.length = xn at *
      have HNX := Lib.hid hnx
      have HLE := Lib.hid hle
      have HBX := Lib.hid hbx
      have HOX := Lib.hid hox
      generalize idsL (Ls.take k) = D at *
      clear hk hkx hlt hnx hle hx hbx hox
      go_upto_region 5 with fail
      generalize wr.alloc (.cells #[.int .i64 id, .int .i64 hh, .slice xa xn xc] 50) = w5 at *
      have x0 := Blk.cell (vs := [.int .i64 id, .int .i64 hh, .slice xa xn xc]) hX 0 rfl
      clear hX
      go_wp2_with (at_builtin; refine app1 HOX.out HBX.out.size (by have := HLE.out; omega) rfl _ _ rfl rfl rfl ?_; intro v6 w6 o6 b6; have HO6 := Lib.hid o6; have HB6 := Lib.hid (HBX.out.trans b6); clear o6 b6 p0 p1 p2 x0)
      go_roundg (Ls.length - (k + 1))
      case measure => have := HLT.out; omega
      case rel => exact ⟨k + 1, by have := HLT.out; omega, Nat.le_refl _, by go_num, by rw [HNX.out]; exact HO6.out, HB6.out⟩
    · have k1 : ¬ (k : Int) < (Ls.length : Int) := by omega
      have ho := OwnI.ints HO.out
      have hke : Ls.take k = Ls := List.take_of_length_le (by omega)
      rw [hke, HR.out] at ho
      rw [hke, HR.out]
      have GR2 := Lib.hid (GR.out _ _ ho)
      clear hk hkx hlt ho HO hke
      go_wp2_with (go_at_call 23; (with_reducible refine GR2.out.mono ?_); rintro e w2 ⟨rfl, b2⟩; have HB2 := Lib.hid (HB.out.trans (b2.mono HB.out.size)); clear b2)
      go_ret
      exact ⟨rfl, HB2.out⟩
end Go.Proofs.YtjmgokjljmmmgaaGreat
/- Maps from ints to locks, and to leases (api.Lock, api.Lease). -/
namespace Go.Proofs.YtjmgokjljmmmgaaGreat
open Go.RowKit Go.Maps

/-- a lock, its list anywhere -/
structure Kh where
  id : Int
  holder : Int
  v : Ah
def khv (x : Kh) : Value := .agg #[.int .i64 x.id, .int .i64 x.holder, ahv x.v]
def kh0 : Kh := ⟨0, 0, ah0⟩
def encK (x : Kh) : DataW Unit := .agg [.lit (.int .i64 x.id), .lit (.int .i64 x.holder), encA x.v]
def readK : Value → Option (DataW Unit × List MemPlace)
  | .agg a => match a.toList with
    | [.int .i64 i, .int .i64 h, .slice s n c] => some (encK ⟨i, h, ⟨s, n, c⟩⟩, [])
    | _ => none
  | _ => none
theorem encK_inj {x y : Kh} (h : encK x = encK y) : x = y := by
  obtain ⟨a, b, c⟩ := x
  obtain ⟨a', b', c'⟩ := y
  simp only [encK, DataW.agg.injEq, List.cons.injEq, DataW.lit.injEq, Lit.int.injEq, true_and, and_true] at h
  obtain ⟨rfl, rfl, h3⟩ := h
  rw [encA_inj h3]
theorem readK_inv (v : Value) (y : DataW Unit × List MemPlace) (h : readK v = some y) : ∃ c, v = khv c ∧ y = (encK c, []) := by
  unfold readK at h
  split at h
  · rename_i a
    split at h
    · rename_i i hh s n c e
      refine ⟨⟨i, hh, ⟨s, n, c⟩⟩, ?_, (Option.some.inj h).symm⟩
      show Value.agg a = Value.agg _
      rw [← Array.toArray_toList (xs := a), e]
      rfl
    · cases h
  · cases h
noncomputable def EK : Elt Tryz.prog 50 where
  α := Kh
  val := khv
  enc := encK
  ok := fun _ => True
  z := kh0
  R := readK
  out := fun _ _ => rfl
  inv := fun v x ps h => by
    obtain ⟨c, h1, h2⟩ := readK_inv v _ h
    rw [h1, encK_inj (congrArg Prod.fst h2)]
  okz := trivial
  hz := fun w => by kernel_rfl
def MapK (w : World) (b m : Nat) (g : Int → Option Kh) : Prop := MapG EK 3 w b m g
section
variable {w w' : World} {b m : Nat} {g : Int → Option Kh}
theorem MapK.lt (h : MapK w b m g) : b < w.heap.size := MapG.lt h
theorem MapK.same (h : MapK w b m g) (he : w'.heap[b]? = w.heap[b]?) : MapK w' b m g := MapG.same h he
theorem MapK.kept (h : MapK w b m g) (hb : Below w.heap.size w w') : MapK w' b m g := MapG.kept h hb
theorem MapK.new (w : World) : MapK (w.alloc (.map #[] 0)) w.heap.size 0 (fun _ => none) := MapG.new w
theorem MapK.look1 (h : MapK w b m g) {id : Int} (hi : I64 id) : (Instr.lookup 112 (.map (some b)) (.int .i64 id) false).run Tryz.prog w = .ok (khv ((g id).getD kh0)) w :=
  MapG.look1 (E := EK) h Tryz.underlying3 Tryz.underlying112 hi
theorem MapK.look (h : MapK w b m g) {id : Int} (hi : I64 id) : (Instr.lookup 112 (.map (some b)) (.int .i64 id) true).run Tryz.prog w = .ok (.tuple #[khv ((g id).getD kh0), .bool (g id).isSome]) w :=
  MapG.look (E := EK) h Tryz.underlying3 Tryz.underlying112 hi
theorem MapK.put (h : MapK w b m g) (hn : m ≤ 1000000) {id : Int} (hi : I64 id) (y : Kh) :
    ∃ w', (Instr.mapUpdate 112 (.map (some b)) (.int .i64 id) (khv y)).run Tryz.prog w = .ok () w' ∧ MapK w' b (if (g id).isSome then m else m + 1) (updG g id (some y)) ∧ w.grownBy w' (some b) :=
  MapG.stored (E := EK) h Tryz.underlying3 Tryz.underlying112 (by unfold maxLen; omega) hi y trivial
end

/-- a lease, its list anywhere -/
structure Xh where
  token : Int
  task : Int
  worker : Int
  unit : Int
  due : Int
  got : Int
  v : Ah
def xhv (x : Xh) : Value := .agg #[.int .i64 x.token, .int .i64 x.task, .int .i64 x.worker, .int .i64 x.unit, .int .i64 x.due, .int .i64 x.got, ahv x.v]
def xh0 : Xh := ⟨0, 0, 0, 0, 0, 0, ah0⟩
def encX (x : Xh) : DataW Unit := .agg [.lit (.int .i64 x.token), .lit (.int .i64 x.task), .lit (.int .i64 x.worker), .lit (.int .i64 x.unit), .lit (.int .i64 x.due), .lit (.int .i64 x.got), encA x.v]
def readX : Value → Option (DataW Unit × List MemPlace)
  | .agg a => match a.toList with
    | [.int .i64 i1, .int .i64 i2, .int .i64 i3, .int .i64 i4, .int .i64 i5, .int .i64 i6, .slice s n c] => some (encX ⟨i1, i2, i3, i4, i5, i6, ⟨s, n, c⟩⟩, [])
    | _ => none
  | _ => none
theorem encX_inj {x y : Xh} (h : encX x = encX y) : x = y := by
  obtain ⟨a1, a2, a3, a4, a5, a6, c⟩ := x
  obtain ⟨b1, b2, b3, b4, b5, b6, c'⟩ := y
  simp only [encX, DataW.agg.injEq, List.cons.injEq, DataW.lit.injEq, Lit.int.injEq, true_and, and_true] at h
  obtain ⟨rfl, rfl, rfl, rfl, rfl, rfl, h3⟩ := h
  rw [encA_inj h3]
theorem readX_inv (v : Value) (y : DataW Unit × List MemPlace) (h : readX v = some y) : ∃ c, v = xhv c ∧ y = (encX c, []) := by
  unfold readX at h
  split at h
  · rename_i a
    split at h
    · rename_i i1 i2 i3 i4 i5 i6 s n c e
      refine ⟨⟨i1, i2, i3, i4, i5, i6, ⟨s, n, c⟩⟩, ?_, (Option.some.inj h).symm⟩
      show Value.agg a = Value.agg _
      rw [← Array.toArray_toList (xs := a), e]
      rfl
    · cases h
  · cases h
noncomputable def EX : Elt Tryz.prog 43 where
  α := Xh
  val := xhv
  enc := encX
  ok := fun _ => True
  z := xh0
  R := readX
  out := fun _ _ => rfl
  inv := fun v x ps h => by
    obtain ⟨c, h1, h2⟩ := readX_inv v _ h
    rw [h1, encX_inj (congrArg Prod.fst h2)]
  okz := trivial
  hz := fun w => by kernel_rfl
def MapX (w : World) (b m : Nat) (g : Int → Option Xh) : Prop := MapG EX 3 w b m g
section
variable {w w' : World} {b m : Nat} {g : Int → Option Xh}
theorem MapX.lt (h : MapX w b m g) : b < w.heap.size := MapG.lt h
theorem MapX.same (h : MapX w b m g) (he : w'.heap[b]? = w.heap[b]?) : MapX w' b m g := MapG.same h he
theorem MapX.kept (h : MapX w b m g) (hb : Below w.heap.size w w') : MapX w' b m g := MapG.kept h hb
theorem MapX.new (w : World) : MapX (w.alloc (.map #[] 0)) w.heap.size 0 (fun _ => none) := MapG.new w
theorem MapX.look1 (h : MapX w b m g) {id : Int} (hi : I64 id) : (Instr.lookup 104 (.map (some b)) (.int .i64 id) false).run Tryz.prog w = .ok (xhv ((g id).getD xh0)) w :=
  MapG.look1 (E := EX) h Tryz.underlying3 Tryz.underlying104 hi
theorem MapX.put (h : MapX w b m g) (hn : m ≤ 1000000) {id : Int} (hi : I64 id) (y : Xh) :
    ∃ w', (Instr.mapUpdate 104 (.map (some b)) (.int .i64 id) (xhv y)).run Tryz.prog w = .ok () w' ∧ MapX w' b (if (g id).isSome then m else m + 1) (updG g id (some y)) ∧ w.grownBy w' (some b) :=
  MapG.stored (E := EX) h Tryz.underlying3 Tryz.underlying104 (by unfold maxLen; omega) hi y trivial
end
end Go.Proofs.YtjmgokjljmmmgaaGreat
/- Stage 21's program: Right: the mathematics: what its maps tell. -/
namespace Go.Proofs.YtjmgokjljmmmgaaGreat
open Go.RowKit Go.Maps

/-- a lease as the map has it -/
def leh (x : Le) : Xh := ⟨x.token, x.task, x.worker, x.unit, x.due, x.got, ⟨x.a, x.want.length, x.c⟩⟩
def lrh (x : Lr) : Kh := ⟨x.id, x.holder, ⟨x.a, x.wait.length, x.c⟩⟩
def ofG (Xs : List Le) : Int → Option Xh := fun t => (Xs.find? fun x => x.token == t).map leh
theorem findX_snoc {Xs : List Le} {x : Le} {t : Int} (h : x.token ≠ t) : (Xs ++ [x]).find? (fun y => y.token == t) = Xs.find? (fun y => y.token == t) := by
  rw [List.find?_append, List.find?_cons_of_neg (by simpa using h)]
  simp
theorem findX_last {Xs : List Le} {x : Le} (h : x.token ∉ Xs.map Le.token) : (Xs ++ [x]).find? (fun y => y.token == x.token) = some x := by
  rw [List.find?_append, List.find?_eq_none.2 fun y hy => by
    simp only [beq_iff_eq]
    exact fun e => h (e ▸ List.mem_map_of_mem hy)]
  simp
theorem findX_no {Xs : List Le} {t : Int} (h : t ∉ Xs.map Le.token) : Xs.find? (fun y => y.token == t) = none :=
  List.find?_eq_none.2 fun y hy => by
    simp only [beq_iff_eq]
    exact fun e => h (e ▸ List.mem_map_of_mem hy)
theorem ofG_next {Xs : List Le} {x : Le} (h : x.token ∉ Xs.map Le.token) : updG (ofG Xs) x.token (some (leh x)) = ofG (Xs ++ [x]) := by
  funext t
  unfold ofG
  by_cases e : t = x.token
  · subst e
    rw [updG_same, findX_last h]
    rfl
  · rw [updG_other _ _ e, findX_snoc (fun h => e h.symm)]
theorem ofG_at {Xs : List Le} (hn : (Xs.map Le.token).Nodup) {x : Le} (hx : x ∈ Xs) : ofG Xs x.token = some (leh x) := by
  unfold ofG
  rw [find_tok hn hx]
  rfl
theorem ofG_no {Xs : List Le} {t : Int} (h : t ∉ Xs.map Le.token) : ofG Xs t = none := by
  unfold ofG
  rw [findX_no h]
  rfl
/-- numbers that have been seen -/
def seenG (S : List Int) : Int → Option Bool := fun t => if t ∈ S then some true else none
theorem seenG_next (S : List Int) (t : Int) : updG (seenG S) t (some true) = seenG (S ++ [t]) := by
  funext x
  unfold seenG
  by_cases e : x = t
  · subst e
    rw [updG_same, if_pos (by simp)]
  · rw [updG_other _ _ e]
    have h : x ∈ S ++ [t] ↔ x ∈ S := by simp [e]
    by_cases hx : x ∈ S
    · rw [if_pos hx, if_pos (h.2 hx)]
    · rw [if_neg hx, if_neg (fun h2 => hx (h.1 h2))]
theorem seenG_at (S : List Int) (t : Int) : (seenG S t).getD false = decide (t ∈ S) := by
  unfold seenG
  by_cases h : t ∈ S
  · rw [if_pos h, decide_eq_true h]; rfl
  · rw [if_neg h, decide_eq_false h]; rfl
/-- those that wait at locks -/
def waitsOf (Ls : List Lr) : List Int := Ls.flatMap Lr.wait
theorem waitsOf_next (Ls : List Lr) (k : Nat) (hk : k < Ls.length) : waitsOf (Ls.take (k + 1)) = waitsOf (Ls.take k) ++ Ls[k].wait := by
  unfold waitsOf
  rw [List.take_succ_eq_append_getElem hk, List.flatMap_append]
  simp
theorem mem_waitsOf {Ls : List Lr} {t : Int} : t ∈ waitsOf Ls ↔ ∃ l ∈ Ls, t ∈ l.wait := List.mem_flatMap
theorem lockB_wait {T : Tb} {l : Lr} (h : lockB T l = true) : ∀ t ∈ l.wait, t ∈ T.toks ∧ T.nx t = some l.id := fun t ht => by
  unfold lockB at h
  rw [Bool.and_eq_true] at h
  obtain ⟨h1, _⟩ := (waitB_iff l.wait []).1 h.2
  exact ⟨(h1 t ht).1, (h1 t ht).2.2⟩
/-- who was seen already waits there wrongly -/
theorem seen_bad {T : Tb} {Ls : List Lr} {k : Nat} (hk : k < Ls.length) (hn : (idsL Ls).Nodup) (ha : (Ls.take k).all (fun l => lockB T l) = true) {j : Nat} {t : Int} (ht : t ∈ waitsOf (Ls.take k) ++ Ls[k].wait.take j) : (inL T.toks t && (!inL (Ls[k].wait.take j) t && decide (T.nx t = some Ls[k].id))) = false := by
  rw [Bool.eq_false_iff]
  intro h
  simp only [Bool.and_eq_true, Bool.not_eq_true', decide_eq_true_eq] at h
  obtain ⟨_, h2, h3⟩ := h
  rcases List.mem_append.1 ht with ht | ht
  · obtain ⟨l, hl, htl⟩ := mem_waitsOf.1 ht
    have h4 := (lockB_wait (List.all_eq_true.1 ha l hl) t htl).2
    rw [h3] at h4
    have h5 : Ls[k].id = l.id := Option.some.inj h4
    have hno := not_take hn k (by simpa [idsL] using hk)
    refine hno ?_
    have e1 : (idsL Ls)[k]'(by simpa [idsL] using hk) = Ls[k].id := by simp [idsL]
    rw [e1, h5]
    have e2 : (idsL Ls).take k = (Ls.take k).map Lr.id := by unfold idsL; rw [List.map_take]
    rw [e2]
    exact List.mem_map_of_mem hl
  · have : inL (Ls[k].wait.take j) t = true := decide_eq_true ht
    rw [this] at h2
    cases h2
section
variable {W : World} {vx : Value} {Xs : List Le}
theorem pHoldsOf_any (Ls : List Lr) (hx : LeasesAt W vx Xs) (hle : lesW 0 Xs = true) (hw : ∀ x ∈ Xs, x.want.length ≤ 1000) (t id : Int) (w' : World) (hb : Below W.heap.size W w') :
    Calls Tryz.prog 62 #[xhv ((ofG Xs t).getD xh0), .int .i64 id] w' fun e w'' => e = .returned (.bool (inL (mkT Ls Xs).toks t && inL (((mkT Ls Xs).want t).take ((mkT Ls Xs).got t)) id)) ∧ Below w'.heap.size w' w'' := by
  have hn := ris_nodup (lesW_ris Xs 0 hle).2
  by_cases ht : t ∈ Xs.map Le.token
  · obtain ⟨x, hxm, rfl⟩ := List.mem_map.1 ht
    obtain ⟨h1, h2⟩ := mk_seat (Ls := Ls) hn hxm
    obtain ⟨g1, g2, g3⟩ := lesW_each Xs 0 hle x hxm
    rw [ofG_at hn hxm, show inL (mkT Ls Xs).toks x.token = true from decide_eq_true ht, Bool.true_and, h1, h2]
    have := pHolds_any x.token x.task x.worker x.unit x.due x.got.toNat x.a x.c x.want id w' ((hx.each x hxm).below hb) (of_decide_eq_true g1) (by omega) (hw x hxm)
    rw [Int.toNat_of_nonneg g2] at this
    exact this
  · rw [ofG_no ht, show inL (mkT Ls Xs).toks t = false from decide_eq_false ht, Bool.false_and]
    have := pHolds_any 0 0 0 0 0 0 none 0 [] id w' (RowsAt.ints (RowsAt.nil _ _ _)) List.Pairwise.nil (Nat.le_refl _) (by simp)
    simp only [List.take_nil] at this
    exact this
theorem pWaitsOf_any (Ls : List Lr) (hx : LeasesAt W vx Xs) (hle : lesW 0 Xs = true) (hw : ∀ x ∈ Xs, x.want.length ≤ 1000) (t id : Int) (w' : World) (hb : Below W.heap.size W w') :
    Calls Tryz.prog 63 #[xhv ((ofG Xs t).getD xh0), .int .i64 id] w' fun e w'' => e = .returned (.bool (inL (mkT Ls Xs).toks t && decide ((mkT Ls Xs).nx t = some id))) ∧ Below w'.heap.size w' w'' := by
  have hn := ris_nodup (lesW_ris Xs 0 hle).2
  by_cases ht : t ∈ Xs.map Le.token
  · obtain ⟨x, hxm, rfl⟩ := List.mem_map.1 ht
    obtain ⟨h1, h2⟩ := mk_seat (Ls := Ls) hn hxm
    obtain ⟨g1, g2, g3⟩ := lesW_each Xs 0 hle x hxm
    rw [ofG_at hn hxm, show inL (mkT Ls Xs).toks x.token = true from decide_eq_true ht, Bool.true_and, nx_mk h1 h2]
    have := pWaitsFor_any x.token x.task x.worker x.unit x.due x.got x.a x.c x.want id w' ((hx.each x hxm).below hb) (hw x hxm)
    have e : decide (0 ≤ x.got ∧ x.want[x.got.toNat]? = some id) = decide (x.want[x.got.toNat]? = some id) := by simp [g2]
    rw [e] at this
    exact this
  · rw [ofG_no ht, show inL (mkT Ls Xs).toks t = false from decide_eq_false ht, Bool.false_and]
    have := pWaitsFor_any 0 0 0 0 0 0 none 0 [] id w' (RowsAt.ints (RowsAt.nil _ _ _)) (by simp)
    simp at this
    exact this
end
end Go.Proofs.YtjmgokjljmmmgaaGreat
/- Stage 21's program: locksFit. -/
namespace Go.Proofs.YtjmgokjljmmmgaaGreat
open Go.RowKit Go.Maps

set_option maxHeartbeats 16000000 in
set_option maxRecDepth 100000 in
theorem pLocksFit_any (vx vl : Value) (Xs : List Le) (Ls : List Lr) (W : World) (hx : LeasesAt W vx Xs) (hl : LocksAt W vl Ls) (hle : lesW 0 Xs = true) (hids : rightB (idsL Ls) = true) (hxl : Xs.length ≤ 1000) (hll : Ls.length ≤ 1000) (hxw : ∀ x ∈ Xs, x.want.length ≤ 1000) (hlw : ∀ x ∈ Ls, x.wait.length ≤ 1000) (hx64 : ∀ x ∈ Xs, I64 x.token) (hl64 : ∀ x ∈ Ls, I64 x.holder ∧ ∀ t ∈ x.wait, I64 t) :
    Calls Tryz.prog 40 #[vl, vx] W fun e w' => e = .returned (.bool (locksW Xs Ls)) ∧ Below W.heap.size W w' := by
  obtain ⟨r, hr⟩ : ∃ r, locksW Xs Ls = r := ⟨_, rfl⟩
  rw [hr]
  have hrr : r = Ls.all fun l => lockB (mkT Ls Xs) l := hr.symm
  have HRR := Lib.hid hrr
  have HX := Lib.hid hx
  have HL := Lib.hid hl
  have HLE := Lib.hid hle
  have HXL := Lib.hid hxl
  have HLL := Lib.hid hll
  have HXW := Lib.hid hxw
  have HLW := Lib.hid hlw
  have HX64 := Lib.hid hx64
  have HL64 := Lib.hid hl64
  have HNT := Lib.hid (ris_nodup (lesW_ris Xs 0 hle).2)
  have HNI := Lib.hid (show (idsL Ls).Nodup from ris_nodup (of_decide_eq_true hids))
  have HHO := Lib.hid fun t id w' hb => pHoldsOf_any Ls hx hle hxw t id w' hb
  have HWF := Lib.hid fun t id w' hb => pWaitsOf_any Ls hx hle hxw t id w' hb
  obtain ⟨T, hT⟩ : ∃ T, mkT Ls Xs = T := ⟨_, rfl⟩
  rw [hT] at HRR
  simp only [hT] at HHO HWF
  obtain ⟨ax, cx, rfl⟩ := RowsAt.form hx.rows
  obtain ⟨al, cl, rfl⟩ := RowsAt.form hl.rows
  have hmk : (Instr.makeMap 104 none).run Tryz.prog W = .ok (.map (some W.heap.size)) (W.alloc (.map #[] 0)) := by kernel_rfl
  have hm0 := MapX.new W
  have hb0 := (Below.refl W.heap.size W).alloc (Nat.le_refl _) (.map #[] 0)
  clear hr hrr hx hl hle hids hxl hll hxw hlw hx64 hl64 hT
  go_enter Tryz.func40, Tryz.ntmps40
  go_wp2
  clear hmk
  generalize W.alloc (.map #[] 0) = w1 at *
  go_loopg [16] Xs.length (fun kx iv ws => ∃ (k m : Nat), k ≤ Xs.length ∧ Xs.length - k ≤ kx ∧ iv = .int .i64 k ∧ Hid (m ≤ k) ∧ Hid (MapX ws W.heap.size m (ofG (Xs.take k))) ∧ Hid (Below W.heap.size W ws))
  case atStart => exact ⟨0, 0, Nat.zero_le _, Nat.le_refl _, rfl, Nat.le_refl _, hm0, hb0⟩
  case round =>
    clear hm0 hb0
    obtain ⟨k, m, hk, hkx, rfl, HM, HMX, HB⟩ := hrel
    by_cases hlt : k < Xs.length
    · have HLT := Lib.hid (And.intro hlt hkx)
      have k0 : (0 : Int) ≤ (k : Int) := by omega
      have k1 : (k : Int) < (Xs.length : Int) := by omega
      have k2 : (k : Int) ≤ 1000 := by have := HXL.out; omega
      obtain ⟨g, o, cc, e, z0, z1, p0, p1, p2, p3, p4, p5, p6⟩ := leaseAt (RowsAt.kept HX.out.rows HB.out) k hlt
      cases e
      clear z0 z1
      have hsn : Xs.take (k + 1) = Xs.take k ++ [Xs[k]] := List.take_succ_eq_append_getElem hlt
      have h64 := HX64.out _ (List.getElem_mem hlt)
      have hno : (Xs[k]'hlt).token ∉ (Xs.take k).map Le.token := by
        have := not_take HNT.out k (by simpa using hlt)
        simpa [List.map_take] using this
      obtain ⟨x, hx⟩ : ∃ x, Xs[k]'hlt = x := ⟨_, rfl⟩
      rw [hx] at p0 p1 p2 p3 p4 p5 p6 hsn h64 hno
      have hnx := ofG_next hno
      rw [← hsn] at hnx
      have hbx := (Below.refl wr.heap.size wr).alloc (Nat.le_refl _) (.cells #[.int .i64 x.token, .int .i64 x.task, .int .i64 x.worker, .int .i64 x.unit, .int .i64 x.due, .int .i64 x.got, .slice x.a x.want.length x.c] 43)
      have hX := Blk.new wr [.int .i64 x.token, .int .i64 x.task, .int .i64 x.worker, .int .i64 x.unit, .int .i64 x.due, .int .i64 x.got, .slice x.a x.want.length x.c] 43
      obtain ⟨w3, hrun, hm3, hg3⟩ := MapX.put (HMX.out.kept hbx) (by have := HM.out; omega) h64 (leh x)
      rw [hnx] at hm3
      obtain ⟨tk, ta, wo, un, du, go, xa, xc, xw⟩ := x
      change (Instr.mapUpdate 104 (.map (some W.heap.size)) (.int .i64 tk) (.agg #[.int .i64 tk, .int .i64 ta, .int .i64 wo, .int .i64 un, .int .i64 du, .int .i64 go, .slice xa xw.length xc])).run Tryz.prog _ = _ at hrun
      simp only at p0 p1 p2 p3 p4 p5 hX hbx hrun
      change _ = some (Value.slice xa xw.length xc) at p6
      have HM3 := Lib.hid hm3
      have HB3 := Lib.hid ((HB.out.trans (hbx.mono HB.out.size)).grown hg3 (Nat.le_trans HB.out.size hbx.size) (fun k hk => by rw [← Option.some.inj hk]; exact Nat.le_refl _))
      clear hk hkx hlt hsn h64 hno hx hnx hm3 hg3 hbx HMX
      go_upto_region 5 with fail
      generalize wr.alloc (.cells #[.int .i64 tk, .int .i64 ta, .int .i64 wo, .int .i64 un, .int .i64 du, .int .i64 go, .slice xa xw.length xc] 43) = w2 at *
      generalize wr.heap.size = bx at *
      generalize xw.length = xn at *
      have x0 := Blk.cell (vs := [.int .i64 tk, .int .i64 ta, .int .i64 wo, .int .i64 un, .int .i64 du, .int .i64 go, .slice xa xn xc]) hX 0 rfl
      have x1 := Blk.cell (vs := [.int .i64 tk, .int .i64 ta, .int .i64 wo, .int .i64 un, .int .i64 du, .int .i64 go, .slice xa xn xc]) hX 1 rfl
      have x2 := Blk.cell (vs := [.int .i64 tk, .int .i64 ta, .int .i64 wo, .int .i64 un, .int .i64 du, .int .i64 go, .slice xa xn xc]) hX 2 rfl
      have x3 := Blk.cell (vs := [.int .i64 tk, .int .i64 ta, .int .i64 wo, .int .i64 un, .int .i64 du, .int .i64 go, .slice xa xn xc]) hX 3 rfl
      have x4 := Blk.cell (vs := [.int .i64 tk, .int .i64 ta, .int .i64 wo, .int .i64 un, .int .i64 du, .int .i64 go, .slice xa xn xc]) hX 4 rfl
      have x5 := Blk.cell (vs := [.int .i64 tk, .int .i64 ta, .int .i64 wo, .int .i64 un, .int .i64 du, .int .i64 go, .slice xa xn xc]) hX 5 rfl
      have x6 := Blk.cell (vs := [.int .i64 tk, .int .i64 ta, .int .i64 wo, .int .i64 un, .int .i64 du, .int .i64 go, .slice xa xn xc]) hX 6 rfl
      clear hX p0 p1 p2 p3 p4 p5 p6
      go_wp2
      clear hrun x0 x1 x2 x3 x4 x5 x6
      go_roundg (Xs.length - (k + 1))
      case measure => have := HLT.out; omega
      case rel => exact ⟨k + 1, _, by have := HLT.out; omega, Nat.le_refl _, by go_num, (show (if ((ofG (Xs.take k)) tk).isSome = true then m else m + 1) ≤ k + 1 by have := HM.out; split <;> omega), HM3.out, HB3.out⟩
    · have k1 : ¬ (k : Int) < (Xs.length : Int) := by omega
      have hmx := HMX.out
      rw [show Xs.take k = Xs from List.take_of_length_le (by omega)] at hmx
      have HMO := Lib.hid hmx
      have hmk : (Instr.makeMap 105 none).run Tryz.prog wr = .ok (.map (some wr.heap.size)) (wr.alloc (.map #[] 0)) := by kernel_rfl
      have hal := (Below.refl wr.heap.size wr).alloc (Nat.le_refl _) (.map #[] 0)
      have hb2 := MapB.new wr
      have hne : wr.heap.size ≠ W.heap.size := by have := hmx.lt; omega
      have HMO2 := Lib.hid (hmx.kept hal)
      have HB2 := Lib.hid (HB.out.trans (hal.mono HB.out.size))
      have HBL := Lib.hid HB.out.size
      clear hk hkx hlt hmx HMX hal HMO
      go_wp2
      clear hmk
      generalize wr.alloc (.map #[] 0) = w2 at *
      generalize wr.heap.size = mb at *
      have HNE := Lib.hid hne
      have HS0 := Lib.hid hb2
      clear hne hb2
      go_loopg [28] Ls.length (fun kx iv ws => ∃ (k q : Nat), k ≤ Ls.length ∧ Ls.length - k ≤ kx ∧ iv = .int .i64 k ∧ Hid (q ≤ 1000 * k) ∧ Hid ((Ls.take k).all (fun l => lockB T l) = true) ∧ Hid (MapX ws W.heap.size m (ofG Xs)) ∧ Hid (MapB ws mb q (seenG (waitsOf (Ls.take k)))) ∧ Hid (Below W.heap.size W ws))
      case atStart => exact ⟨0, 0, Nat.zero_le _, Nat.le_refl _, rfl, Nat.le_refl _, rfl, HMO2.out, HS0.out, HB2.out⟩
      case round =>
        clear HMO2 HS0 HB2
        obtain ⟨k, q, hk, hkx, rfl, HQ, HAL, HMO, HMS, HB⟩ := hrel
        by_cases hlt : k < Ls.length
        · have HLT := Lib.hid (And.intro hlt hkx)
          have k0 : (0 : Int) ≤ (k : Int) := by omega
          have k1 : (k : Int) < (Ls.length : Int) := by omega
          have k2 : (k : Int) ≤ 1000 := by have := HLL.out; omega
          have hla := LocksAt.below HL.out HB.out
          obtain ⟨g, o, cc, e, z0, z1, p0, p1, p2⟩ := RowsAt.atL hla.rows k hlt
          cases e
          clear z0 z1
          have hm := List.getElem_mem hlt
          have hl64 := HL64.out _ hm
          have hlw := HLW.out _ hm
          have hxi := HL.out.each _ hm
          have hwn := waitsOf_next Ls k hlt
          have hsb := fun j t => seen_bad (T := T) hlt HNI.out HAL.out (j := j) (t := t)
          have hbad : lockB T (Ls[k]'hlt) = false → false = r := fun h => by
            rw [HRR.out]
            exact (List.all_eq_false.2 ⟨_, hm, by rw [h]; simp⟩).symm
          have hgood : lockB T (Ls[k]'hlt) = true → (Ls.take (k + 1)).all (fun l => lockB T l) = true := fun h => by
            rw [List.take_succ_eq_append_getElem hlt, List.all_append, HAL.out]
            simp [h]
          obtain ⟨⟨id, hh, xa, xc, L⟩, hx⟩ : ∃ x, Ls[k]'hlt = x := ⟨_, rfl⟩
          rw [hx] at p0 p1 p2 hl64 hlw hxi hbad hgood
          simp only [hx] at hsb hwn
          simp only at p0 p1 hl64 hlw hwn
          change _ = some (Value.slice xa L.length xc) at p2
          replace hxi : IntsAt W (.slice xa L.length xc) L := hxi
          obtain ⟨n, hn⟩ : ∃ n, L.length = n := ⟨_, rfl⟩
          rw [hn] at p2 hxi hlw
          have HN := Lib.hid hn
          have HWN := Lib.hid hwn
          have HSB := Lib.hid hsb
          have HBAD := Lib.hid hbad
          have HGOOD := Lib.hid hgood
          have HXI := Lib.hid hxi
          have HLWN := Lib.hid hlw
          have HT64 := Lib.hid hl64.2
          have hbx := (Below.refl wr.heap.size wr).alloc (Nat.le_refl _) (.cells #[.int .i64 id, .int .i64 hh, .slice xa n xc] 50)
          have hX := Blk.new wr [.int .i64 id, .int .i64 hh, .slice xa n xc] 50
          have HMO2 := Lib.hid (HMO.out.kept hbx)
          have HMS2 := Lib.hid (HMS.out.kept hbx)
          have HB2 := Lib.hid (HB.out.trans (hbx.mono HB.out.size))
          have hlk := fun (w' : World) (hb : Below (wr.alloc (.cells #[.int .i64 id, .int .i64 hh, .slice xa n xc] 50)).heap.size (wr.alloc (.cells #[.int .i64 id, .int .i64 hh, .slice xa n xc] 50)) w') => MapX.look1 (HMO2.out.kept hb) hl64.1
          clear hk hkx hlt hla hm hl64 hlw hxi hx hn hwn hsb hbad hgood hbx HMO HMS
          go_upto_region 11 with fail
          generalize wr.alloc (.cells #[.int .i64 id, .int .i64 hh, .slice xa n xc] 50) = w3 at *
          generalize wr.heap.size = bx at *
          replace hX : Blk w3 bx [.int .i64 id, .int .i64 hh, .slice xa n xc] := hX
          have HXB := Lib.hid hX
          have x0 := hX.cell 0 rfl
          have x1 := hX.cell 1 rfl
          clear hX p0 p1 p2
          obtain ⟨b, hb⟩ : ∃ b, holdB T id hh = b := ⟨_, rfl⟩
          have HHB := Lib.hid hb
          have hb3 := Below.refl w3.heap.size w3
          go_cut [44] (fun c wx => c = .bool (!b) ∧ Below w3.heap.size w3 wx)
          case first =>
            by_cases hz : hh = 0
            · have hbt : b = true := by rw [← hb, hz]; rfl
              subst hbt
              subst hz
              go_wp2
              go_meet
              exact ⟨rfl, hb3⟩
            · have hz2 : (hh == 0) = false := beq_noI hz
              have hz3 : (hh != 0) = true := by simp [hz]
              have hb2 : (inL T.toks hh && inL ((T.want hh).take (T.got hh)) id) = b := by
                rw [← hb]
                unfold holdB
                rw [hz2, Bool.false_or]
              have GH := Lib.hid (HHO.out hh id w3 HB2.out)
              rw [hb2] at GH
              have hlk3 := hlk w3 hb3
              obtain ⟨y, hy⟩ : ∃ y, (ofG Xs hh).getD xh0 = y := ⟨_, rfl⟩
              rw [hy] at GH hlk3
              obtain ⟨y1, y2, y3, y4, y5, y6, ⟨ya, yn, yc⟩⟩ := y
              replace GH : Hid (Calls Tryz.prog 62 #[.agg #[.int .i64 y1, .int .i64 y2, .int .i64 y3, .int .i64 y4, .int .i64 y5, .int .i64 y6, .slice ya yn yc], .int .i64 id] w3 fun e w'' => e = .returned (.bool b) ∧ Below w3.heap.size w3 w'') := GH
              replace hlk3 : (Instr.lookup 104 (.map (some W.heap.size)) (.int .i64 hh) false).run Tryz.prog w3 = .ok (.agg #[.int .i64 y1, .int .i64 y2, .int .i64 y3, .int .i64 y4, .int .i64 y5, .int .i64 y6, .slice ya yn yc]) w3 := hlk3
              clear hb hb2 hy hlk
              go_wp2_with (go_at_call 62; (with_reducible refine GH.out.mono ?_); rintro e w4 ⟨rfl, b4⟩; have HB4 := Lib.hid b4; clear b4)
              go_meet
              exact ⟨by simp, HB4.out⟩
          case rest =>
            obtain ⟨rfl, hbc⟩ := hcut
            have HXC := Lib.hid (HXB.out.kept hbc)
            have HMO3 := Lib.hid (HMO2.out.kept hbc)
            have HMS3 := Lib.hid (HMS2.out.kept hbc)
            have HB3 := Lib.hid (HB2.out.trans (hbc.mono HB2.out.size))
            have y2 := HXC.out.cell 2 rfl
            clear hb hb3 hbc x0 x1 hlk HMO2 HMS2
            cases b with
            | false =>
              have HF := Lib.hid (HBAD.out (by unfold lockB; simp only; rw [HHB.out, Bool.false_and]))
              clear y2
              go_wp2
              go_ret
              exact ⟨ret_b HF.out, HB3.out⟩
            | true =>
              go_wp2
              clear y2
              go_loopg [48] n (fun jx jv ws => ∃ (j p : Nat), j ≤ n ∧ n - j ≤ jx ∧ jv = .int .i64 j ∧ Hid (p ≤ 1000 * k + j) ∧ Hid (waitB T id [] (L.take j) = true) ∧ Hid (MapX ws W.heap.size m (ofG Xs)) ∧ Hid (MapB ws mb p (seenG (waitsOf (Ls.take k) ++ L.take j))) ∧ Hid (Blk ws bx [.int .i64 id, .int .i64 hh, .slice xa n xc]) ∧ Hid (Below W.heap.size W ws))
              case atStart => exact ⟨0, q, Nat.zero_le _, Nat.le_refl _, rfl, HQ.out, rfl, HMO3.out, (by rw [List.take_zero, List.append_nil]; exact HMS3.out), HXC.out, HB3.out⟩
              case round =>
                clear HMO3 HMS3 HB3 HXC
                obtain ⟨j, p, hj, hjx, rfl, HP, HWB, HMO, HMS, HXC, HB⟩ := hrel
                by_cases hjt : j < n
                · have HJT := Lib.hid (And.intro hjt hjx)
                  have j0 : (0 : Int) ≤ (j : Int) := by omega
                  have j1 : (j : Int) < (n : Int) := by omega
                  have j2 : (j : Int) ≤ 1000 := by have := HLWN.out; omega
                  have hjl : j < L.length := by rw [HN.out]; exact hjt
                  obtain ⟨g2, o2, c2, e2, z0, z1, m0⟩ := (HXI.out.below HB.out).spot j hjl
                  rw [HN.out] at e2
                  cases e2
                  clear z0 z1
                  have x0 := HXC.out.cell 0 rfl
                  have h64 := HT64.out _ (List.getElem_mem hjl)
                  have hsn := List.take_succ_eq_append_getElem hjl
                  have hws : waitB T id [] (L.take (j + 1)) = (inL T.toks (L[j]'hjl) && (!inL (L.take j) (L[j]'hjl) && decide (T.nx (L[j]'hjl) = some id))) := by
                    rw [hsn, waitB_snoc, HWB.out, Bool.true_and]
                    rfl
                  have hwbad : waitB T id [] (L.take (j + 1)) = false → false = r := fun h => HBAD.out (by
                    unfold lockB
                    simp only
                    rw [show waitB T id [] L = false by rw [← List.take_append_drop (j + 1) L]; exact waitB_more _ _ _ h, Bool.and_false])
                  obtain ⟨t, ht⟩ : ∃ t, L[j]'hjl = t := ⟨_, rfl⟩
                  rw [ht] at m0 h64 hsn hws
                  have hlb := MapB.look1 HMS.out h64
                  rw [seenG_at] at hlb
                  have HWS := Lib.hid hws
                  have HWBAD := Lib.hid hwbad
                  have HSN := Lib.hid hsn
                  have H64 := Lib.hid h64
                  by_cases hin : t ∈ waitsOf (Ls.take k) ++ L.take j
                  · rw [decide_eq_true hin] at hlb
                    have HF := Lib.hid (HWBAD.out (by rw [HWS.out]; exact HSB.out j t hin))
                    clear hj hjx hjt hjl h64 hsn hws hwbad ht hin
                    go_wp2
                    go_ret
                    exact ⟨ret_b HF.out, HB.out⟩
                  · rw [decide_eq_false hin] at hlb
                    have hno : inL (L.take j) t = false := decide_eq_false fun h => hin (List.mem_append_right _ h)
                    have GW := Lib.hid (HWF.out t id wr HB.out)
                    obtain ⟨b, hb⟩ : ∃ b, (inL T.toks t && decide (T.nx t = some id)) = b := ⟨_, rfl⟩
                    rw [hb] at GW
                    rw [hno, Bool.not_false, Bool.true_and, hb] at hws
                    have HWB2 := Lib.hid hws
                    have hlx := MapX.look1 HMO.out h64
                    obtain ⟨y, hy⟩ : ∃ y, (ofG Xs t).getD xh0 = y := ⟨_, rfl⟩
                    rw [hy] at GW hlx
                    obtain ⟨y1, y2, y3, y4, y5, y6, ⟨ya, yn, yc⟩⟩ := y
                    replace GW : Hid (Calls Tryz.prog 63 #[.agg #[.int .i64 y1, .int .i64 y2, .int .i64 y3, .int .i64 y4, .int .i64 y5, .int .i64 y6, .slice ya yn yc], .int .i64 id] wr fun e w'' => e = .returned (.bool b) ∧ Below wr.heap.size wr w'') := GW
                    replace hlx : (Instr.lookup 104 (.map (some W.heap.size)) (.int .i64 t) false).run Tryz.prog wr = .ok (.agg #[.int .i64 y1, .int .i64 y2, .int .i64 y3, .int .i64 y4, .int .i64 y5, .int .i64 y6, .slice ya yn yc]) wr := hlx
                    clear hj hjx hjt hjl h64 hsn hws hwbad ht hin hno hb hy
                    cases b with
                    | false =>
                      have HF := Lib.hid (HWBAD.out HWB2.out)
                      go_wp2_with (go_at_call 63; (with_reducible refine GW.out.mono ?_); rintro e w4 ⟨rfl, b4⟩; have HB4 := Lib.hid (HB.out.trans (b4.mono HB.out.size)); clear b4)
                      go_ret
                      exact ⟨ret_b HF.out, HB4.out⟩
                    | true =>
                      go_upto_region 18 with (go_at_call 63; (with_reducible refine GW.out.mono ?_); rintro e w4 ⟨rfl, b4⟩; have HB4 := Lib.hid b4; clear b4)
                      obtain ⟨w5, hrun, hm5, hg5⟩ := MapB.put (HMS.out.kept HB4.out) (by have := HP.out; have := HLT.out; have := HLL.out; have := HLWN.out; have := HJT.out; omega) H64.out true
                      rw [seenG_next, List.append_assoc, ← HSN.out] at hm5
                      have HM5 := Lib.hid hm5
                      have HMO5 := Lib.hid (MapG.grown (HMO.out.kept HB4.out) hg5 (fun e => HNE.out (Option.some.inj e).symm))
                      have hxc4 := HXC.out.kept HB4.out
                      have HX5 := Lib.hid (Blk.grown hxc4 hg5 (fun e => MapG.ne_cell (HMS.out.kept HB4.out) (hxc4.cell 0 rfl) (Option.some.inj e).symm))
                      have HB5 := Lib.hid ((HB.out.trans (HB4.out.mono HB.out.size)).grown hg5 (Nat.le_trans HB.out.size HB4.out.size) (fun k hk => by rw [← Option.some.inj hk]; exact HBL.out))
                      clear hm5 hg5 hxc4 m0 x0 hlb hlx
                      go_wp2
                      clear hrun
                      go_roundg (n - (j + 1))
                      case measure => have := HJT.out; omega
                      case rel => exact ⟨j + 1, _, by have := HJT.out; omega, Nat.le_refl _, by go_num, (show (if (seenG (waitsOf (Ls.take k) ++ L.take j) t).isSome = true then p else p + 1) ≤ 1000 * k + (j + 1) by have := HP.out; split <;> omega), HWB2.out, HMO5.out, HM5.out, HX5.out, HB5.out⟩
                · have j1 : ¬ (j : Int) < (n : Int) := by omega
                  have hje : L.take j = L := List.take_of_length_le (by rw [HN.out]; omega)
                  have hwb := HWB.out
                  have hms := HMS.out
                  rw [hje] at hwb hms
                  rw [← HWN.out] at hms
                  have HMS2 := Lib.hid hms
                  have HJN := Lib.hid hj
                  have HG2 := Lib.hid (HGOOD.out (by unfold lockB; simp only; rw [HHB.out, hwb]; rfl))
                  clear hj hjx hjt hje hwb hms HMS HWB
                  go_wp2
                  go_roundg (Ls.length - (k + 1))
                  case measure => have := HLT.out; omega
                  case rel => exact ⟨k + 1, p, by have := HLT.out; omega, Nat.le_refl _, by go_num, (show p ≤ 1000 * (k + 1) by have := HP.out; have := HLWN.out; have := HJN.out; omega), HG2.out, HMO.out, HMS2.out, HB.out⟩
        · have k1 : ¬ (k : Int) < (Ls.length : Int) := by omega
          have HF := Lib.hid (show true = r by
            rw [HRR.out, ← HAL.out, List.take_of_length_le (by omega)])
          clear hk hkx hlt
          go_wp2
          go_ret
          exact ⟨ret_b HF.out, HB.out⟩
end Go.Proofs.YtjmgokjljmmmgaaGreat
/- Maps from ints to places (map[int]int): XMapG's laws in plain numbers. -/
namespace Go.Proofs.YtjmgokjljmmmgaaGreat
open Go.RowKit

noncomputable def EI : Elt Tryz.prog 3 := eltI Tryz.prog 3 Tryz.underlying3 fun w => by kernel_rfl
/-- places as ints -/
def gi (g : Int → Option Nat) : Int → Option Int := fun k => (g k).map fun n => (n : Int)
def upd (g : Int → Option Nat) (id : Int) (v : Option Nat) : Int → Option Nat := fun k => if k = id then v else g k
theorem gi_upd (g : Int → Option Nat) (id : Int) (j : Nat) : gi (upd g id (some j)) = updG (gi g) id (some (j : Int)) := by
  funext k
  unfold gi upd updG
  split <;> rfl
theorem gi_del (g : Int → Option Nat) (id : Int) : gi (upd g id none) = updG (gi g) id none := by
  funext k
  unfold gi upd updG
  split <;> rfl
/-- block b is a map of m entries: at each id the place that g tells -/
def MapN (w : World) (b m : Nat) (g : Int → Option Nat) : Prop := MapG EI 3 w b m (gi g)
theorem nat64 {n : Nat} (h : n ≤ 1000000) : I64 (n : Int) := by unfold I64; omega
section
variable {w w' : World} {b m : Nat} {g : Int → Option Nat}
theorem MapN.lt (h : MapN w b m g) : b < w.heap.size := MapG.lt h
theorem MapN.same (h : MapN w b m g) (he : w'.heap[b]? = w.heap[b]?) : MapN w' b m g := MapG.same h he
theorem MapN.kept (h : MapN w b m g) (hb : Below w.heap.size w w') : MapN w' b m g := MapG.kept h hb
theorem MapN.away (h : MapN w b m g) (a : Addr) (u : Value) (hne : b ≠ a.block) : MapN (w.setCell a u) b m g := MapG.away h a u hne
theorem MapN.grown {row : Option Nat} (h : MapN w b m g) (hg : w.grownBy w' row) (hne : some b ≠ row) : MapN w' b m g := MapG.grown h hg hne
theorem MapN.drew (h : MapN w b m g) : MapN w.drew b m g := MapG.same h rfl
theorem MapN.new (w : World) : MapN (w.alloc (.map #[] 0)) w.heap.size 0 (fun _ => none) := MapG.new w
theorem MapN.ne_cell {a : Addr} {u : Value} (h : MapN w b m g) (hk : w.cell? a = some u) : b ≠ a.block := MapG.ne_cell h hk
variable {ops : Array Oper} {rest : List Oper} {o : Oper} {a : Act} {Q : Exit → Act → World → Prop}
theorem gi_isSome (id : Int) : Option.isSome (α := EI.α) (gi g id) = (g id).isSome := by
  unfold gi
  cases g id <;> rfl
theorem gi_getD (id : Int) : EI.val (Option.getD (α := EI.α) (gi g id) EI.z) = .int .i64 (((g id).getD 0 : Nat) : Int) := by
  unfold gi
  cases g id <;> rfl
theorem wpList_lookN (hg : o.guard = none) (mo x : Operand) (hop : o.op = Op.lookup 90 mo x true)
    (hm : a.eval mo = .map (some b)) (h : MapN w b m g) (id : Int) (hi : I64 id) (hx : a.eval x = .int .i64 id)
    (hK : wpList Tryz.prog ops Q rest (a.put o.dst (.tuple #[.int .i64 (((g id).getD 0 : Nat) : Int), .bool (g id).isSome])) w) : wpList Tryz.prog ops Q (o :: rest) a w := by
  refine wpList_lookG2 (E := EI) hg mo x 90 hop Tryz.underlying3 Tryz.underlying90 hm h id hi hx ?_
  rw [gi_isSome, gi_getD]
  exact hK
theorem wpList_putN (hg : o.guard = none) (hd : o.dst = none) (mo x vo : Operand) (hop : o.op = Op.mapUpdate 90 mo x vo)
    (hm : a.eval mo = .map (some b)) (h : MapN w b m g) (hn : m ≤ 1000000) (id : Int) (hi : I64 id) (hx : a.eval x = .int .i64 id) (j : Nat) (hj : j ≤ 1000000) (hv : a.eval vo = .int .i64 (j : Int))
    (hK : ∀ w', MapN w' b (if (g id).isSome then m else m + 1) (upd g id (some j)) → w.grownBy w' (some b) → wpList Tryz.prog ops Q rest a w') : wpList Tryz.prog ops Q (o :: rest) a w := by
  refine wpList_putG (E := EI) hg mo x vo 90 hop Tryz.underlying3 Tryz.underlying90 hm h (by unfold maxLen; omega) id hi hx (show EI.α from (j : Int)) (nat64 hj) hv fun w' h1 h2 => by
    rw [hd]
    refine hK w' ?_ h2
    rw [gi_isSome] at h1
    unfold MapN
    rw [gi_upd]
    exact h1
theorem wpList_delN (hg : o.guard = none) (hd : o.dst = none) (mo x : Operand) (hop : o.op = Op.call { callee := Callee.builtin Builtin.delete, args := #[mo, x], argTypes := #[90, 3] })
    (hm : a.eval mo = .map (some b)) (h : MapN w b m g) (id : Int) (hi : I64 id) (hx : a.eval x = .int .i64 id)
    (hK : ∀ w', MapN w' b (if (g id).isSome then m - 1 else m) (upd g id none) → w.grownBy w' (some b) → wpList Tryz.prog ops Q rest a w') : wpList Tryz.prog ops Q (o :: rest) a w := by
  refine wpList_delG (E := EI) hg mo x 90 hop Tryz.underlying3 Tryz.underlying90 hm h id hi hx fun w' h1 h2 => by
    rw [hd]
    refine hK w' ?_ h2
    rw [gi_isSome] at h1
    unfold MapN
    rw [gi_del]
    exact h1
theorem wpList_lenN (hg : o.guard = none) (mo : Operand) (hop : o.op = Op.call { callee := Callee.builtin Builtin.len, args := #[mo], argTypes := #[90] })
    (hm : a.eval mo = .map (some b)) (h : MapN w b m g) (hK : wpList Tryz.prog ops Q rest (a.put o.dst (.int .i64 m)) w) : wpList Tryz.prog ops Q (o :: rest) a w :=
  wpList_lenG (E := EI) hg mo 90 hop Tryz.underlying90 hm h hK
theorem MapN.look (h : MapN w b m g) {id : Int} (hi : I64 id) : (Instr.lookup 90 (.map (some b)) (.int .i64 id) true).run Tryz.prog w = .ok (.tuple #[.int .i64 (((g id).getD 0 : Nat) : Int), .bool (g id).isSome]) w := by
  have := MapG.look h Tryz.underlying3 Tryz.underlying90 hi
  rwa [gi_isSome, gi_getD] at this
theorem MapN.look1 (h : MapN w b m g) {id : Int} (hi : I64 id) : (Instr.lookup 90 (.map (some b)) (.int .i64 id) false).run Tryz.prog w = .ok (.int .i64 (((g id).getD 0 : Nat) : Int)) w := by
  have := MapG.look1 h Tryz.underlying3 Tryz.underlying90 hi
  rwa [gi_getD] at this
end
end Go.Proofs.YtjmgokjljmmmgaaGreat
