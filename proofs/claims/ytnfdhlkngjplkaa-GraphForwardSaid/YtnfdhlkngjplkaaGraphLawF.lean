/- The law GraphForward, over the program's contracts as one structure. -/
import Derived.Test.YtnfdhlkngjplkaaGraphLaw
namespace Go.Proofs.Ytnfdhlkngjplkaa
open Go.RowKit

set_option maxHeartbeats 2000000 in
theorem refPlace_any (va : Value) (l : List Int) (n : Int) (W : World) (ha : IntsAt W va l) (hl : l.length ≤ 1000000) :
    Calls Try.prog 18 #[va, .int .i64 n] W fun e w' => e = .returned (.int .i64 (plcL l n)) ∧ W = w' := by
  have HA := Lib.hid ha
  obtain ⟨a, c, rfl⟩ := IntsAt.form ha
  obtain ⟨r, hr⟩ : ∃ r, plcL l n = r := ⟨_, rfl⟩
  rw [hr]
  have HR := Lib.hid hr
  clear ha hr
  go_enter Try.func18, Try.ntmps18
  go_wp2
  go_loopw [5, 6, 9] (fun _ _ iv wr => ∃ k : Nat, k ≤ l.length ∧ iv = .int .i64 k ∧ n ∉ l.take k ∧ W = wr) (fun _ _ iv _ => l.length - (intOf iv).toNat)
  case atStart => exact ⟨0, by omega, rfl, by simp, rfl⟩
  case round =>
    obtain ⟨k, hk, rfl, hno, rfl⟩ := hrel
    by_cases hlt : k < l.length
    · obtain ⟨g, o, cc, e, hlc, _, p0⟩ := IntsAt.spot HA.out k hlt
      cases e
      have HLT := Lib.hid hlt
      have j1 : (k : Int) < (l.length : Int) := by omega
      have j0 : (0 : Int) ≤ (k : Int) := by omega
      by_cases hx : l[k]'hlt = n
      · have HP := Lib.hid ((plc_found hlt hx hno).symm.trans HR.out)
        rw [hx] at p0
        clear hx hno hlt
        go_wp2
        go_ret
        exact ⟨ret_i HP.out, rfl⟩
      · have HNO := Lib.hid (inL_take l n k hlt hx hno)
        have hx2 : (l[k]'hlt == n) = false := beq_noI hx
        generalize l[k]'hlt = x at *
        clear hx hno hlt
        go_wp2
        go_roundw
        case rel => exact ⟨k + 1, by have := HLT.out; omega, by go_num, HNO.out, by trivial⟩
        case measure => have := HLT.out; simp [intOf] <;> omega
    · have hke : k = l.length := by omega
      subst hke
      rw [List.take_length] at hno
      have HP := Lib.hid ((plc_none hno).symm.trans HR.out)
      clear hno hlt
      go_wp2
      go_ret
      exact ⟨ret_i HP.out, rfl⟩

/-! ### What the law asks, as mathematics -/
abbrev lvN (ids : List Int) (arcs : List Arc16) (n : Int) : Int := levOf (levP arcs (ordL ids arcs)) n
theorem fwd_arc {ids : List Int} {arcs : List Arc16} {a : Arc16} (ha : a ∈ arcs) (hs : a.src ∈ setL ids) (hd : a.dst ∈ setL ids) :
    (0 ≤ plcL (leftL ids arcs) a.src ∧ 0 ≤ plcL (leftL ids arcs) a.dst ∧ lvN ids arcs a.dst = -1) ∨
    (plcL (leftL ids arcs) a.src = -1 ∧ 0 ≤ lvN ids arcs a.dst ∧ lvN ids arcs a.src < lvN ids arcs a.dst ∧ plcL (ordL ids arcs) a.src < plcL (ordL ids arcs) a.dst) ∨
    (plcL (leftL ids arcs) a.src = -1 ∧ lvN ids arcs a.dst = -1) := by
  by_cases h1 : a.src ∈ leftL ids arcs
  · have hno := ((left_mem _ _ _).1 h1).2
    have hdo : a.dst ∉ ordL ids arcs := fun h => hno (lev_arc ha hs h).2.2
    exact .inl ⟨plc_ge.2 h1, plc_ge.2 ((left_mem _ _ _).2 ⟨hd, hdo⟩), lev_no hdo⟩
  · right
    by_cases h2 : a.dst ∈ ordL ids arcs
    · obtain ⟨h3, h4, h5⟩ := lev_arc ha hs h2
      refine .inl ⟨plc_none h1, lev_ge.2 h2, h3, ?_⟩
      unfold plcL
      rw [if_pos h5, if_pos h2]
      omega
    · exact .inr ⟨plc_none h1, lev_no h2⟩
def isLft (L : List Int) (n : Int) (arcs : List Arc16) : Bool := arcs.any fun a => decide (a.dst = n) && inL L a.src
theorem isLft_take (L : List Int) (n : Int) (arcs : List Arc16) (k : Nat) (hk : k < arcs.length) : isLft L n (arcs.take (k + 1)) = (isLft L n (arcs.take k) || (decide (arcs[k].dst = n) && inL L arcs[k].src)) := by
  unfold isLft
  rw [List.take_succ_eq_append_getElem hk, List.any_append]
  simp
theorem fwd_left {ids : List Int} {arcs : List Arc16} {n : Int} (h : n ∈ leftL ids arcs) : isLft (leftL ids arcs) n arcs = true ∧ lvN ids arcs n = -1 ∧ n ∈ setL ids := by
  obtain ⟨a, ha, hd, hs⟩ := left_arc h
  obtain ⟨h1, h2⟩ := (left_mem _ _ _).1 h
  refine ⟨?_, lev_no h2, h1⟩
  unfold isLft
  rw [List.any_eq_true]
  exact ⟨a, ha, by simp [hd, inL_iff.2 hs]⟩
theorem lev_at {ids : List Int} {arcs : List Arc16} {n : Int} (h : n ∈ setL ids) : ∃ i : Nat, plcL (setL ids) n = (i : Int) ∧ i < (levL ids arcs).length ∧ ∀ hi : i < (levL ids arcs).length, (levL ids arcs)[i]'hi = lvN ids arcs n := by
  obtain ⟨h1, h2, h3⟩ := plc_at h
  refine ⟨_, h1, by unfold levL; rw [List.length_map]; exact h2, fun hi => ?_⟩
  have h4 : (levL ids arcs)[(setL ids).idxOf n]? = some (lvN ids arcs n) := by
    unfold levL
    rw [List.getElem?_map, h3]
    rfl
  rw [List.getElem?_eq_getElem hi] at h4
  exact Option.some.inj h4

set_option maxHeartbeats 16000000 in
set_option maxRecDepth 100000 in
theorem graphForward_any (C : GraphProg) (va vb vf : Value) (l : List Int) (arcs : List Arc16) (frm : List Int) (w : World) (ha : IntsAt w va l) (hb : ArcsAt w vb arcs) (hf : IntsAt w vf frm) (bl : B64 l) (ba : B64a arcs) (bf : B64 frm) :
    Calls Try.prog 5 #[va, vb, vf] w fun e w' => e = .returned (.bool true) ∧ Below w.heap.size w w' := by
  have HAL := Lib.hid fun w => gAlive_any C w
  have IA := Lib.hid fun w' (h : Below w.heap.size w w') => IntsAt.below ha h
  have IB := Lib.hid fun w' (h : Below w.heap.size w w') => RowsAt.kept hb h
  have IF := Lib.hid fun w' (h : Below w.heap.size w w') => IntsAt.below hf h
  obtain ⟨a0, c0, rfl⟩ := IntsAt.form ha
  obtain ⟨b0, d0, rfl⟩ := RowsAt.form hb
  obtain ⟨f0, g0, rfl⟩ := IntsAt.form hf
  have gf := fun w => refFew_any a0 b0 l.length arcs.length c0 d0 w
  by_cases hfew : l.length ≤ 30 ∧ arcs.length ≤ 60
  · rw [decide_eq_true hfew] at gf
    obtain ⟨hl1, hl2⟩ := hfew
    have GF := Lib.hid gf
    by_cases hl3 : frm.length ≤ 30
    · have R0 := Lib.hid fun w' (h : Below w.heap.size w w') => refSet_any _ l w' (IA.out w' h) (by omega)
      have P1 := Lib.hid fun w' (h : Below w.heap.size w w') => C.order _ _ l arcs w' (IA.out w' h) (IB.out w' h) hl1 hl2 bl ba
      have P2 := Lib.hid fun w' (h : Below w.heap.size w w') => C.left _ _ l arcs w' (IA.out w' h) (IB.out w' h) hl1 hl2 bl ba
      have P3 := Lib.hid fun w' (h : Below w.heap.size w w') => C.levels _ _ l arcs w' (IA.out w' h) (IB.out w' h) hl1 hl2 bl ba
      have P4 := Lib.hid fun w' (h : Below w.heap.size w w') => C.reach _ _ _ l arcs frm w' (IA.out w' h) (IB.out w' h) (IF.out w' h) hl1 hl2 hl3 bl ba bf
      have hsl := setL_le l
      have hrl : (reachL l arcs frm).length ≤ (setL l).length := Nat.le_trans (setL_le _) (itR_told (arcs := arcs) (startR_told l frm) _).len
      have hvl : (levL l arcs).length = (setL l).length := by unfold levL; rw [List.length_map]
      have hol := left_len l arcs
      have bx : B64 (reachL l arcs frm) := fun x hx => by
        unfold reachL at hx
        exact bl x ((setL_mem _ _).1 ((itR_told (startR_told l frm) _).sub x ((setL_mem _ _).1 hx)))
      have P5 := Lib.hid fun v w' (h : Below w.heap.size w w') (hv : IntsAt w' v (reachL l arcs frm)) => C.reach _ _ v l arcs (reachL l arcs frm) w' (IA.out w' h) (IB.out w' h) hv hl1 hl2 (by omega) bl ba bx
      rw [reach_again] at P5
      have F1 := Lib.hid fun a ha hs hd => fwd_arc (ids := l) (arcs := arcs) (a := a) ha hs hd
      have F2 := Lib.hid fun n h => fwd_left (ids := l) (arcs := arcs) (n := n) h
      have F3 := Lib.hid fun n h => lev_at (ids := l) (arcs := arcs) (n := n) h
      have h3 : ¬ (30 : Int) < (frm.length : Int) := by omega
      clear bx
      generalize reachL l arcs frm = X at *
      generalize hLV : lvN l arcs = lv at *
      generalize levL l arcs = V at *
      generalize leftL l arcs = L at *
      generalize ordL l arcs = O at *
      generalize setL l = N at *
      have CI := Lib.hid fun va vb w (ha : IntsAt w va X) (hb : IntsAt w vb X) => refInts_any va vb X X w ha hb (by omega) (by omega)
      simp only [decide_true] at CI
      have HNL := Lib.hid (show N.length ≤ 30 by omega)
      have HVL := Lib.hid hvl
      have HOL := Lib.hid hol
      have HL2 := Lib.hid hl2
      have n1 : (O.length : Int) + (L.length : Int) = (N.length : Int) := by omega
      have n2 : (V.length : Int) = (N.length : Int) := by omega
      have n3 : (N.length : Int) ≤ 30 := by omega
      obtain ⟨z, hz⟩ : ∃ z, ((L.length : Int) == 0) = z := ⟨_, rfl⟩
      have hall : decide (O.length = N.length) = z := by
        rw [← hz]
        by_cases h : L.length = 0
        · rw [decide_eq_true (by omega), h]; rfl
        · rw [decide_eq_false (by omega)]; exact (beq_noI (by omega)).symm
      rw [hall] at P1
      have BB := Lib.hid (Below.refl w.heap.size w)
      clear ha hb hf gf hl1 hl2 hl3 hsl hrl hvl hol hall
      go_enter Try.func5, Try.ntmps5
      go_upto_region 8 with (first
        | (go_at_call 6; (with_reducible refine (GF.out _).mono ?_); rintro e w0 ⟨rfl, rfl⟩)
        | (go_at_call 17; (with_reducible refine (R0.out _ BB.out).mono ?_); rintro e w1 ⟨v1, rfl, h, hb⟩; replace BB := Lib.hid (BB.out.trans (hb.mono BB.out.size)); have h := OwnI.ints h; obtain ⟨a1, c1, e⟩ := h.form; subst e; have XN := Lib.hid h; clear h hb)
        | (go_at_call 8; (with_reducible refine (P1.out _ BB.out).mono ?_); rintro e w2 ⟨v2, rfl, h, hb⟩; replace BB := Lib.hid (BB.out.trans (hb.mono BB.out.size)); obtain ⟨a2, c2, e⟩ := h.form; subst e; have XO := Lib.hid h; replace XN := Lib.hid (XN.out.below hb); clear h hb)
        | (go_at_call 11; (with_reducible refine (P2.out _ BB.out).mono ?_); rintro e w3 ⟨v3, rfl, h, hb⟩; replace BB := Lib.hid (BB.out.trans (hb.mono BB.out.size)); obtain ⟨a3, c3, e⟩ := h.form; subst e; have XL := Lib.hid h; replace XN := Lib.hid (XN.out.below hb); replace XO := Lib.hid (XO.out.below hb); clear h hb)
        | (go_at_call 15; (with_reducible refine (P3.out _ BB.out).mono ?_); rintro e w4 ⟨v4, rfl, h, hb⟩; replace BB := Lib.hid (BB.out.trans (hb.mono BB.out.size)); obtain ⟨a4, c4, e⟩ := h.form; subst e; have XV := Lib.hid h; replace XN := Lib.hid (XN.out.below hb); replace XO := Lib.hid (XO.out.below hb); replace XL := Lib.hid (XL.out.below hb); clear h hb))
      clear P1 P2 P3 R0 GF
      go_wp2
      go_loopw [13, 14, 15, 70] (fun _ _ _ kv wr => ∃ k : Nat, k ≤ arcs.length ∧ kv = .int .i64 k ∧ Below w4.heap.size w4 wr) (fun _ _ _ kv _ => arcs.length - (intOf kv).toNat)
      case atStart => exact ⟨0, by omega, rfl, Below.refl _ _⟩
      case round =>
        obtain ⟨k, hk, rfl, hB⟩ := hrel
        have HBk := Lib.hid hB
        by_cases hlt : k < arcs.length
        · have HLT := Lib.hid hlt
          have K0 : (0 : Int) ≤ (k : Int) := by omega
          have K1 : (k : Int) < (arcs.length : Int) := by omega
          have K2 : (k : Int) ≤ 60 := by have := HL2.out; omega
          obtain ⟨gb, ob, _, e, _, _, s0, s1⟩ := ArcsAt.at (IB.out wr (BB.out.trans (hB.mono BB.out.size))) k hlt
          cases e
          have hmem : arcs[k]'hlt ∈ arcs := List.getElem_mem hlt
          have hF1 := F1.out _ hmem
          obtain ⟨⟨s, d⟩, har⟩ : ∃ r, arcs[k]'hlt = r := ⟨_, rfl⟩
          rw [har] at s0 s1 hF1
          simp only at s0 s1 hF1
          have hal := (Below.refl wr.heap.size wr).alloc (Nat.le_refl _) (.cells #[.int .i64 s, .int .i64 d] 34)
          have hbx := Blk.new wr [.int .i64 s, .int .i64 d] 34
          have hBb := hB.alloc hB.size (.cells #[.int .i64 s, .int .i64 d] 34)
          have HF1 := Lib.hid hF1
          clear hmem hF1 har hB hal
          go_upto_region 11 with (fail)
          generalize wr.alloc (.cells #[.int .i64 s, .int .i64 d] 34) = wb at *
          have x0 := hbx.cell 0 rfl
          have x1 := hbx.cell 1 rfl
          have HBX := Lib.hid hbx
          have HBb := Lib.hid hBb
          obtain ⟨pi, hpi⟩ : ∃ x, plcL N s = x := ⟨_, rfl⟩
          obtain ⟨pj, hpj⟩ : ∃ x, plcL N d = x := ⟨_, rfl⟩
          have q1 := fun (w' : World) (h : Below wb.heap.size wb w') => refPlace_any _ N s w' (XN.out.below (hBb.trans (h.mono hBb.size))) (by have := HNL.out; omega)
          have q2 := fun (w' : World) (h : Below wb.heap.size wb w') => refPlace_any _ N d w' (XN.out.below (hBb.trans (h.mono hBb.size))) (by have := HNL.out; omega)
          rw [hpi] at q1
          rw [hpj] at q2
          have Q1 := Lib.hid q1
          have Q2 := Lib.hid q2
          have HPI := Lib.hid hpi
          have HPJ := Lib.hid hpj
          clear q1 q2 hpi hpj s0 s1 hbx hBb
          refine wp_region_calm0 (by kernel_rfl) (by kernel_rfl) fun M => ?_
          have e0 := fun n : In M.w => n.cell (M.cell x0)
          have e1 := fun n : In M.w => n.cell (M.cell x1)
          have G1 := fun n : In M.w => Q1.out n.w (M.h.trans (n.h.mono M.h.size))
          have G2 := fun n : In M.w => Q2.out n.w (M.h.trans (n.h.mono M.h.size))
          repeat (go_big_quiet_step (first
            | (go_at_call 18; with_reducible exact In.call_same (G1 _))
            | (go_at_call 18; with_reducible exact In.call_same (G2 _))))
          refine wpQuiet_nil ?_
          clear e0 e1 G1 G2 M x0 x1 Q1 Q2
          intro w5 hb5
          have HB5 := Lib.hid (HBb.out.trans (hb5.mono HBb.out.size))
          have HBX5 := Lib.hid (HBX.out.kept hb5)
          clear hb5 HBX HBb
          by_cases hs : s ∈ N
          · obtain ⟨ix, h1, h2, h3⟩ := F3.out s hs
            have hpi : pi = (ix : Int) := HPI.out.symm.trans h1
            subst hpi
            by_cases hd : d ∈ N
            · obtain ⟨jx, h4, h5, h6⟩ := F3.out d hd
              have hpj : pj = (jx : Int) := HPJ.out.symm.trans h4
              subst hpj
              have I0 : (0 : Int) ≤ (ix : Int) := by omega
              have I1 : (ix : Int) < (V.length : Int) := by omega
              have J0 : (0 : Int) ≤ (jx : Int) := by omega
              have J1 : (jx : Int) < (V.length : Int) := by omega
              obtain ⟨gv, ov, _, e, _, _, u0⟩ := (XV.out.below HB5.out).spot ix h2
              cases e
              obtain ⟨_, _, _, e, _, _, u1⟩ := (XV.out.below HB5.out).spot jx h5
              cases e
              rw [h3 h2] at u0
              rw [h6 h5] at u1
              have x0 := HBX5.out.cell 0 rfl
              have x1 := HBX5.out.cell 1 rfl
              have hF := HF1.out hs hd
              have hOL := HOL.out
              have hNL := HNL.out
              have q1 := fun (w' : World) (h : Below w5.heap.size w5 w') => refPlace_any _ L s w' (XL.out.below (HB5.out.trans (h.mono HB5.out.size))) (by omega)
              have q2 := fun (w' : World) (h : Below w5.heap.size w5 w') => refPlace_any _ L d w' (XL.out.below (HB5.out.trans (h.mono HB5.out.size))) (by omega)
              have q3 := fun (w' : World) (h : Below w5.heap.size w5 w') => refPlace_any _ O s w' (XO.out.below (HB5.out.trans (h.mono HB5.out.size))) (by omega)
              have q4 := fun (w' : World) (h : Below w5.heap.size w5 w') => refPlace_any _ O d w' (XO.out.below (HB5.out.trans (h.mono HB5.out.size))) (by omega)
              generalize plcL L s = p1 at *
              generalize plcL L d = p2 at *
              generalize plcL O s = o1 at *
              generalize plcL O d = o2 at *
              generalize lv s = v1 at *
              generalize lv d = v2 at *
              have Q1 := Lib.hid q1
              have Q2 := Lib.hid q2
              have Q3 := Lib.hid q3
              have Q4 := Lib.hid q4
              clear q1 q2 q3 q4 h1 h2 h3 h4 h5 h6 hs hd hOL hNL
              rcases hF with ⟨c1, c2, c3⟩ | ⟨c1, c2, c3, c4⟩ | ⟨c1, c2⟩
              · subst c3
                have C1 := Lib.hid (show decide (0 ≤ p1) = true by simp; omega)
                have C2 := Lib.hid (show decide (p2 < 0) = false by simp; omega)
                clear c1 c2
                go_wp2
                have c1 := C1.out
                have c2 := C2.out
                refine wp_region_calm0 (by kernel_rfl) (by kernel_rfl) fun M => ?_
                have e0 := fun n : In M.w => n.cell (M.cell x0)
                have e1 := fun n : In M.w => n.cell (M.cell x1)
                have e2 := fun n : In M.w => n.cell (M.cell u1)
                have G0 := fun n : In M.w => Q1.out n.w (M.h.trans (n.h.mono M.h.size))
                have G1 := fun n : In M.w => Q2.out n.w (M.h.trans (n.h.mono M.h.size))
                repeat (go_big_quiet_step (first
                  | (go_at_call 18; with_reducible exact In.call_same (G0 _))
                  | (go_at_call 18; with_reducible exact In.call_same (G1 _))))
                refine wpQuiet_nil ?_
                intro w6 hb6
                have HB6 := Lib.hid (HB5.out.trans (hb6.mono HB5.out.size))
                clear hb6 M e0 e1 e2 G0 G1 x0 x1 u1
                go_wp2
                go_roundw
                case rel => exact ⟨k + 1, by have := HLT.out; omega, by go_num, HB6.out⟩
                case measure => have := HLT.out; simp [intOf] <;> omega
              · subst c1
                have C2 := Lib.hid (show decide (0 ≤ v2) = true by simp; omega)
                have C3 := Lib.hid (show decide (v2 ≤ v1) = false by simp; omega)
                have C4 := Lib.hid (show decide (o2 ≤ o1) = false by simp; omega)
                clear c2 c3 c4
                go_wp2
                have c2 := C2.out
                have c3 := C3.out
                have c4 := C4.out
                refine wp_region_calm0 (by kernel_rfl) (by kernel_rfl) fun M => ?_
                have e0 := fun n : In M.w => n.cell (M.cell x0)
                have e1 := fun n : In M.w => n.cell (M.cell x1)
                have e2 := fun n : In M.w => n.cell (M.cell u0)
                have e3 := fun n : In M.w => n.cell (M.cell u1)
                have G0 := fun n : In M.w => Q1.out n.w (M.h.trans (n.h.mono M.h.size))
                have G1 := fun n : In M.w => Q3.out n.w (M.h.trans (n.h.mono M.h.size))
                have G2 := fun n : In M.w => Q4.out n.w (M.h.trans (n.h.mono M.h.size))
                repeat (go_big_quiet_step (first
                  | (go_at_call 18; with_reducible exact In.call_same (G0 _))
                  | (go_at_call 18; with_reducible exact In.call_same (G1 _))
                  | (go_at_call 18; with_reducible exact In.call_same (G2 _))))
                refine wpQuiet_nil ?_
                intro w6 hb6
                have HB6 := Lib.hid (HB5.out.trans (hb6.mono HB5.out.size))
                clear hb6 M e0 e1 e2 e3 G0 G1 G2 x0 x1 u0 u1
                go_wp2
                go_roundw
                case rel => exact ⟨k + 1, by have := HLT.out; omega, by go_num, HB6.out⟩
                case measure => have := HLT.out; simp [intOf] <;> omega
              · subst c1 c2
                go_wp2
                refine wp_region_calm0 (by kernel_rfl) (by kernel_rfl) fun M => ?_
                have e0 := fun n : In M.w => n.cell (M.cell x0)
                have e1 := fun n : In M.w => n.cell (M.cell u1)
                have G0 := fun n : In M.w => Q1.out n.w (M.h.trans (n.h.mono M.h.size))
                repeat (go_big_quiet_step (first
                  | (go_at_call 18; with_reducible exact In.call_same (G0 _))))
                refine wpQuiet_nil ?_
                intro w6 hb6
                have HB6 := Lib.hid (HB5.out.trans (hb6.mono HB5.out.size))
                clear hb6 M e0 e1 G0 x0 u1
                go_wp2
                go_roundw
                case rel => exact ⟨k + 1, by have := HLT.out; omega, by go_num, HB6.out⟩
                case measure => have := HLT.out; simp [intOf] <;> omega
            · have hpj : pj = -1 := HPJ.out.symm.trans (plc_none hd)
              subst hpj
              have I0 : ¬ (ix : Int) < 0 := by omega
              clear h1 h2 h3 hs hd
              go_wp2
              go_roundw
              case rel => exact ⟨k + 1, by have := HLT.out; omega, by go_num, HB5.out⟩
              case measure => have := HLT.out; simp [intOf] <;> omega
          · have hpi : pi = -1 := HPI.out.symm.trans (plc_none hs)
            subst hpi
            clear hs
            go_wp2
            go_roundw
            case rel => exact ⟨k + 1, by have := HLT.out; omega, by go_num, HB5.out⟩
            case measure => have := HLT.out; simp [intOf] <;> omega
        · have hke : k = arcs.length := by omega
          subst hke
          clear hB hlt
          go_wp2
          generalize wr = wA at *
          go_loopw [17, 18, 20, 132] (fun _ _ _ kv wr => ∃ k : Nat, k ≤ L.length ∧ kv = .int .i64 k ∧ Below w4.heap.size w4 wr) (fun _ _ _ kv _ => L.length - (intOf kv).toNat)
          case atStart => exact ⟨0, by omega, rfl, HBk.out⟩
          case round =>
            obtain ⟨k, hk, rfl, hB⟩ := hrel
            have HBl := Lib.hid hB
            by_cases hlt : k < L.length
            · have HLT := Lib.hid hlt
              have K0 : (0 : Int) ≤ (k : Int) := by omega
              have K1 : (k : Int) < (L.length : Int) := by omega
              have K2 : (k : Int) ≤ 60 := by omega
              obtain ⟨gl, ol, _, e, _, _, l0⟩ := (XL.out.below hB).spot k hlt
              cases e
              have hF2 := F2.out _ (List.getElem_mem hlt)
              generalize L[k]'hlt = n at *
              obtain ⟨h1, h2, h3⟩ := hF2
              obtain ⟨ix, h4, h5, h6⟩ := F3.out n h3
              have hv : ∀ hi : ix < V.length, V[ix]'hi = -1 := fun hi => by rw [h6 hi, h2]
              have HIS := Lib.hid h1
              have HV := Lib.hid hv
              have H5 := Lib.hid h5
              have q1 := fun (w' : World) (h : Below w4.heap.size w4 w') => refPlace_any _ N n w' (XN.out.below h) (by have := HNL.out; omega)
              rw [h4] at q1
              have Q1 := Lib.hid q1
              clear hB h1 h2 h3 h4 h5 h6 hv q1
              go_wp2
              generalize wr = wC at *
              go_loopw [18, 20, 138] (fun sv _ av wr => ∃ a : Nat, a ≤ arcs.length ∧ av = .int .i64 a ∧ sv = .bool (isLft L n (arcs.take a)) ∧ Below w4.heap.size w4 wr) (fun _ _ av _ => arcs.length - (intOf av).toNat)
              case atStart => exact ⟨0, by omega, rfl, rfl, HBl.out⟩
              case round =>
                obtain ⟨a, ha, rfl, rfl, hB⟩ := hrel
                have HBa := Lib.hid hB
                by_cases hlta : a < arcs.length
                · have HLTA := Lib.hid hlta
                  have A0 : (0 : Int) ≤ (a : Int) := by omega
                  have A1 : (a : Int) < (arcs.length : Int) := by omega
                  have A2 : (a : Int) ≤ 60 := by have := HL2.out; omega
                  obtain ⟨gb, ob, _, e, _, _, s0, s1⟩ := ArcsAt.at (IB.out wr (BB.out.trans (hB.mono BB.out.size))) a hlta
                  cases e
                  have hnx := isLft_take L n arcs a hlta
                  generalize isLft L n (arcs.take a) = is at *
                  obtain ⟨⟨s, d⟩, har⟩ : ∃ r, arcs[a]'hlta = r := ⟨_, rfl⟩
                  rw [har] at s0 s1 hnx
                  simp only at s0 s1 hnx
                  have hal := (Below.refl wr.heap.size wr).alloc (Nat.le_refl _) (.cells #[.int .i64 s, .int .i64 d] 34)
                  have hBb := hB.alloc hB.size (.cells #[.int .i64 s, .int .i64 d] 34)
                  have HBb := Lib.hid hBb
                  have q2 := refPlace_any _ L s _ (XL.out.below hBb) (by have := HOL.out; have := HNL.out; omega)
                  obtain ⟨p, hp⟩ : ∃ x, plcL L s = x := ⟨_, rfl⟩
                  have ht : decide (0 ≤ p) = inL L s := by
                    rw [← hp]
                    unfold inL
                    by_cases h : s ∈ L
                    · rw [decide_eq_true h, decide_eq_true (plc_ge.2 h)]
                    · rw [decide_eq_false h, decide_eq_false (fun h2 => h (plc_ge.1 h2))]
                  rw [hp] at q2
                  generalize inL L s = tl at *
                  have Q2 := Lib.hid q2
                  have HT := Lib.hid ht
                  clear hB har hal hBb q2 hp ht
                  cases is with
                  | true =>
                    have HNX := Lib.hid (show isLft L n (arcs.take (a + 1)) = true by rw [hnx]; rfl)
                    clear hnx
                    go_wp2
                    go_roundw
                    case rel => exact ⟨a + 1, by have := HLTA.out; omega, by go_num, by rw [HNX.out], HBb.out⟩
                    case measure => have := HLTA.out; simp [intOf] <;> omega
                  | false =>
                    by_cases hdn : d = n
                    · have HNX := Lib.hid (show isLft L n (arcs.take (a + 1)) = tl by rw [hnx, decide_eq_true hdn]; simp)
                      clear hnx
                      subst hdn
                      have hT := HT.out
                      go_wp2_with (go_at_call 18; (with_reducible refine Q2.out.mono ?_); rintro e w5 ⟨rfl, rfl⟩)
                      go_roundw
                      case rel => exact ⟨a + 1, by have := HLTA.out; omega, by go_num, by rw [HNX.out], HBb.out⟩
                      case measure => have := HLTA.out; simp [intOf] <;> omega
                    · have HNX := Lib.hid (show isLft L n (arcs.take (a + 1)) = false by rw [hnx, decide_eq_false hdn]; simp)
                      have hdn2 : (d == n) = false := beq_noI hdn
                      clear hnx hdn
                      go_wp2
                      go_roundw
                      case rel => exact ⟨a + 1, by have := HLTA.out; omega, by go_num, by rw [HNX.out], HBb.out⟩
                      case measure => have := HLTA.out; simp [intOf] <;> omega
                · have hke : a = arcs.length := by omega
                  subst hke
                  rw [List.take_length, HIS.out]
                  obtain ⟨gv, ov, _, e, _, _, u0⟩ := (XV.out.below hB).spot ix H5.out
                  cases e
                  rw [HV.out H5.out] at u0
                  have I0 : (0 : Int) ≤ (ix : Int) := by omega
                  have I1 : (ix : Int) < (V.length : Int) := by have := H5.out; omega
                  clear hB hlta
                  go_wp2_with (go_at_call 18; (with_reducible refine (Q1.out _ HBa.out).mono ?_); rintro e w5 ⟨rfl, rfl⟩)
                  go_roundw
                  case rel => exact ⟨k + 1, by have := HLT.out; omega, by go_num, HBa.out⟩
                  case measure => have := HLT.out; simp [intOf] <;> omega
            · have hke : k = L.length := by omega
              subst hke
              have BB2 := Lib.hid (BB.out.trans (hB.mono BB.out.size))
              clear hB hlt
              go_wp2_with (first
                | (go_at_call 13; (with_reducible refine (P4.out _ BB2.out).mono ?_); rintro e w6 ⟨v6, rfl, h, hb⟩; replace BB2 := Lib.hid (BB2.out.trans (hb.mono BB2.out.size)); obtain ⟨a6, c6, e⟩ := h.form; subst e; have X6 := Lib.hid h; clear h hb P4)
                | (go_at_call 13; (with_reducible refine (P5.out _ _ BB2.out X6.out).mono ?_); rintro e w7 ⟨v7, rfl, h, hb⟩; replace BB2 := Lib.hid (BB2.out.trans (hb.mono BB2.out.size)); obtain ⟨a7, c7, e⟩ := h.form; subst e; have X7 := Lib.hid h; replace X6 := Lib.hid (X6.out.below hb); clear h hb)
                | (go_at_call 10; (with_reducible refine (CI.out _ _ _ X7.out X6.out).mono ?_); rintro e w8 ⟨rfl, hb⟩; replace BB2 := Lib.hid (BB2.out.trans (hb.mono BB2.out.size)); clear hb)
                | (go_at_call 7; (with_reducible refine (HAL.out _).mono ?_); rintro e w9 ⟨rfl, hb⟩; replace BB2 := Lib.hid (BB2.out.trans (hb.mono BB2.out.size)); clear hb))
              go_ret
              exact ⟨rfl, BB2.out⟩
    · have h3 : (30 : Int) < (frm.length : Int) := by omega
      clear ha hb hf gf hl1 hl2 hl3
      go_enter Try.func5, Try.ntmps5
      go_wp2_with (first
        | (go_at_call 6; (with_reducible refine (GF.out _).mono ?_); rintro e w0 ⟨rfl, rfl⟩)
        | (go_at_call 7; (with_reducible refine (HAL.out _).mono ?_); rintro e w7 ⟨rfl, hb⟩))
      go_ret
      exact ⟨rfl, hb⟩
  · rw [decide_eq_false hfew] at gf
    have GF := Lib.hid gf
    clear ha hb hf gf hfew
    go_enter Try.func5, Try.ntmps5
    go_wp2_with (first
      | (go_at_call 6; (with_reducible refine (GF.out _).mono ?_); rintro e w0 ⟨rfl, rfl⟩)
      | (go_at_call 7; (with_reducible refine (HAL.out _).mono ?_); rintro e w7 ⟨rfl, hb⟩))
    go_ret
    exact ⟨rfl, hb⟩
end Go.Proofs.Ytnfdhlkngjplkaa
