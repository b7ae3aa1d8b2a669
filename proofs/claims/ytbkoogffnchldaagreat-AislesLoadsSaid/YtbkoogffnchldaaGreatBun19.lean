/- Texts of this proof, joined: TbL; TbM; TbN; TbPM; TbO. -/
import Derived.Test.YtbkoogffnchldaaGreatBun18
import Derived.Deep.RegionHeld3
/- Stage 20's program: Load takes a lock's holder. -/
namespace Go.Proofs.YtbkoogffnchldaaGreat
open Go.RowKit Go.Maps

section
variable {b ml mc : Nat} {pt : Int → Nat} {Gf : Int → Nat → Prop} {cl : Int → Cl} {F : Nat → Prop} {w : World} {T : Tb}
/-- holds, of the claim that the table has of a token -/
theorem tHoldsAt_any (h : TbR b ml mc pt Gf cl F w T) (hgl : ∀ t ∈ T.toks, T.got t ≤ (T.want t).length ∧ (T.want t).length ≤ 1000) (t id : Int) :
    ∀ w', Below w.heap.size w w' → Calls Tryz.prog 72 #[clv ((clG T cl t).getD cl0), .int .i64 id] w' fun e w'' => e = .returned (.bool (inL T.toks t && inL ((T.want t).take (T.got t)) id)) ∧ Below w'.heap.size w' w'' := by
  intro w' hb
  by_cases ht : t ∈ T.toks
  · obtain ⟨h1, h2, h3⟩ := (h.kept hb).ch t ht
    obtain ⟨g1, g2⟩ := hgl t ht
    rw [show inL T.toks t = true from decide_eq_true ht, Bool.true_and]
    have e : clG T cl t = some (cl t) := if_pos ht
    rw [e]
    show Calls _ _ #[clv (cl t), .int .i64 id] w' _
    generalize cl t = x at *
    obtain ⟨xg, xn, xc, xd⟩ := x
    simp only at h1 h2
    subst h1 h2
    exact tHolds_any _ xc (T.want t) (T.got t) id w' h3 g1 (by omega)
  · have hf : inL T.toks t = false := decide_eq_false ht
    rw [hf, Bool.false_and]
    have e : clG T cl t = none := if_neg ht
    rw [e]
    have := tHolds_any none 0 [] 0 id w' (RowsAt.ints (RowsAt.nil _ _ _)) (Nat.le_refl _) (by simp)
    simp only [List.take_nil] at this
    exact this
set_option maxHeartbeats 8000000 in
set_option maxRecDepth 100000 in
theorem tLoadHolder_any (h : TbR b ml mc pt Gf cl F w T) (hgl : ∀ t ∈ T.toks, T.got t ≤ (T.want t).length ∧ (T.want t).length ≤ 1000) (hpos : ∀ t ∈ T.toks, 1 ≤ t) {id hh : Int} (hid : id ∈ T.ids) (i64 : I64 id) (h64 : I64 hh) (h0 : T.hd id = 0) (hw0 : T.wt id = []) (xa : Option Addr) (xn xc : Nat) :
    Calls Tryz.prog 53 #[ptr18 b, lkv id hh (.slice xa xn xc)] w fun e w' => e = .returned (.bool (inL T.toks hh && inL ((T.want hh).take (T.got hh)) id)) ∧ ∃ Gf' F', TbR b ml mc pt Gf' cl F' w' (if (inL T.toks hh && inL ((T.want hh).take (T.got hh)) id) = true then { T with hd := upF T.hd id hh } else T) ∧ Mv F F' w w' := by
  have hal := (Below.refl w.heap.size w).alloc (Nat.le_refl _) (.cells #[.int .i64 id, .int .i64 hh, .slice xa xn xc] 31)
  have hX := Blk.new w [.int .i64 id, .int .i64 hh, .slice xa xn xc] 31
  have HLC := Lib.hid fun (w' : World) (hb : Below w.heap.size w w') => MapC.look1 (h.kept hb).cm h64
  have HLI := Lib.hid fun (w' : World) (hb : Below w.heap.size w w') => (show (Instr.lookup 77 (.map (some ml)) (.int .i64 id) false).run Tryz.prog w' = .ok (ptr18 (pt id)) w' from by
    have := MapL.look1 (h.kept hb).lm i64
    rwa [lkG_at pt hid] at this)
  have HHO := Lib.hid (tHoldsAt_any h hgl hh id)
  have HASK := Lib.hid fun (w' : World) (hb : Below w.heap.size w w') => lkAsk_any hh ((h.kept hb).lk id hid) h64
  have HC0 := Lib.hid (h.blk.cell 0 rfl)
  have HC1 := Lib.hid (h.blk.cell 1 rfl)
  have HQT := Lib.hid (show (inL T.toks hh && inL ((T.want hh).take (T.got hh)) id) = true → 1 ≤ hh from fun hq => by
    rw [Bool.and_eq_true] at hq
    exact hpos hh (of_decide_eq_true hq.1))
  obtain ⟨q, hq⟩ : ∃ q, (inL T.toks hh && inL ((T.want hh).take (T.got hh)) id) = q := ⟨_, rfl⟩
  simp only [hq] at HHO HQT ⊢
  obtain ⟨x, hx⟩ : ∃ x, (clG T cl hh).getD cl0 = x := ⟨_, rfl⟩
  simp only [hx] at HHO HLC
  have H := Lib.hid h
  have HID := Lib.hid hid
  have I64D := Lib.hid i64
  have HH0 := Lib.hid h0
  have HW0 := Lib.hid hw0
  have HAL := Lib.hid hal
  obtain ⟨xg, yn, yc, xd⟩ := x
  replace HHO : Hid (∀ w', Below w.heap.size w w' → Calls Tryz.prog 72 #[.agg #[.slice (xg.map fun b => ⟨b, 0, none⟩) yn yc, .int .i64 xd], .int .i64 id] w' fun e w'' => e = .returned (.bool q) ∧ Below w'.heap.size w' w'') := HHO
  replace HLC : Hid (∀ w', Below w.heap.size w w' → (Instr.lookup 78 (.map (some mc)) (.int .i64 hh) false).run Tryz.prog w' = .ok (.agg #[.slice (xg.map fun b => ⟨b, 0, none⟩) yn yc, .int .i64 xd]) w') := HLC
  generalize xg.map (fun b => (⟨b, 0, none⟩ : Addr)) = xb at *
  clear h hgl hpos hid h0 hw0 hq hx i64 h64
  go_enter Tryz.func53, Tryz.ntmps53
  go_upto_region 1 with fail
  generalize hw1 : w.alloc (.cells #[.int .i64 id, .int .i64 hh, .slice xa xn xc] 31) = w1 at *
  have HXB := Lib.hid hX
  have X0 := Lib.hid (hX.cell 0 rfl)
  have X1 := Lib.hid (hX.cell 1 rfl)
  clear hX hw1 hal
  have c1 := (HAL.out.cell (World.block_lt_of_cell? _ _ HC1.out)).trans HC1.out
  have x0 := X0.out
  have x1 := X1.out
  refine wp_region_calm0 (by kernel_rfl) (by kernel_rfl) fun M => ?_
  have e0 := fun n : In M.w => n.cell (M.cell c1)
  have e1 := fun n : In M.w => n.cell (M.cell x0)
  have e2 := fun n : In M.w => n.cell (M.cell x1)
  have e3 := fun n : In M.w => HLC.out n.w (HAL.out.trans ((M.h.trans (n.h.mono M.h.size)).mono HAL.out.size))
  have e4 := fun n : In M.w => HHO.out n.w (HAL.out.trans ((M.h.trans (n.h.mono M.h.size)).mono HAL.out.size))
  repeat (go_big_quiet_step ((go_at_call 72; with_reducible exact In.call (e4 _))))
  refine wpQuiet_nil ?_
  clear e0 e1 e2 e3 e4 M x0 x1 c1
  intro w2 hb2
  have HB2 := Lib.hid (HAL.out.trans (hb2.mono HAL.out.size))
  have HXB2 := Lib.hid (HXB.out.kept hb2)
  have x0 := (hb2.cell (World.block_lt_of_cell? _ _ X0.out)).trans X0.out
  have x1 := (hb2.cell (World.block_lt_of_cell? _ _ X1.out)).trans X1.out
  clear hb2
  cases q with
  | false =>
    clear x0 x1
    go_wp2
    go_ret
    exact ⟨rfl, Gf, F, H.out.kept HB2.out, Mv.of_below HB2.out⟩
  | true =>
    have hp := HQT.out rfl
    have hask : askL (T.hd id) (T.wt id) hh = ([hh], 0) := by
      rw [HH0.out, HW0.out]
      unfold askL
      rw [if_neg (by omega), if_neg (by rintro (h | h); { omega }; { cases h }), if_neg (by simp)]
      rfl
    simp only [hask] at HASK
    have c0 := (HB2.out.cell (World.block_lt_of_cell? _ _ HC0.out)).trans HC0.out
    go_upto_region 3 with fail
    refine wp_region_calmT 9 (by kernel_rfl) (by simp) (by kernel_rfl) fun M => ?_
    simp only [List.take_succ_cons, List.take_zero, List.drop_succ_cons, List.drop_zero]
    have e0 := fun n : In M.w => n.cell (M.cell c0)
    have e1 := fun n : In M.w => n.cell (M.cell x0)
    have e2 := fun n : In M.w => n.cell (M.cell x1)
    have e3 := fun n : In M.w => HLI.out n.w (HB2.out.trans ((M.h.trans (n.h.mono M.h.size)).mono HB2.out.size))
    repeat (go_big_quiet_step (fail))
    refine wpQuiet_nil ?_
    clear e0 e1 e2 e3 M
    intro w3 hb3
    have HB3 := Lib.hid (HB2.out.trans (hb3.mono HB2.out.size))
    have HXB3 := Lib.hid (HXB2.out.kept hb3)
    clear hb3 c0 x0 x1
    go_upto_region 4 with (go_at_call 55; (with_reducible refine (HASK.out _ HB3.out).mono ?_); rintro e w4 ⟨rfl, G', q1, q2⟩; have HQ1 := Lib.hid q1; have HQ2 := Lib.hid q2; clear q1 q2)
    have hlt : w.heap.size < w3.heap.size := Blk.lt HXB3.out
    have hnG : ¬ Gf id w.heap.size := fun hg => by have := H.out.lt _ (H.out.fg id HID.out _ hg); omega
    have hX4 := HXB3.out.same (HQ2.out.only.block _ hlt hnG)
    have x0 := hX4.cell 0 rfl
    obtain ⟨r1, r2⟩ := (H.out.kept HB3.out).lock HID.out HQ1.out HQ2.out
    have c0 := r1.blk.cell 0 rfl
    have R1 := Lib.hid r1
    have R2 := Lib.hid r2
    have hlk : ∀ w' : World, Below w4.heap.size w4 w' → (Instr.lookup 77 (.map (some ml)) (.int .i64 id) false).run Tryz.prog w' = .ok (ptr18 (pt id)) w' := fun w' hb => by
      have := MapL.look1 (R1.out.kept hb).lm I64D.out
      rwa [lkG_at (T := { T with hd := upF T.hd id (T.hd id), wt := upF T.wt id [hh] }) pt HID.out] at this
    have HLK := Lib.hid hlk
    have hgr : grantL (T.hd id) [hh] = (hh, [], hh, true) := by rw [HH0.out]; rfl
    have HGR := Lib.hid fun w' (hb : Below w4.heap.size w4 w') => lkGrant_any (HQ1.out.same hb.size fun k hk => hb.block k (HQ1.out.lt k hk))
    simp only [hgr] at HGR
    clear hlt hnG hX4 r1 r2 hlk hgr
    refine wp_region_calmT 7 (by kernel_rfl) (by simp) (by kernel_rfl) fun M => ?_
    simp only [List.take_succ_cons, List.take_zero, List.drop_succ_cons, List.drop_zero]
    have e0 := fun n : In M.w => n.cell (M.cell c0)
    have e1 := fun n : In M.w => n.cell (M.cell x0)
    have e3 := fun n : In M.w => HLK.out n.w (M.h.trans (n.h.mono M.h.size))
    repeat (go_big_quiet_step (fail))
    refine wpQuiet_nil ?_
    clear e0 e1 e3 M c0 x0
    intro w5 hb5
    have HB5 := Lib.hid hb5
    clear hb5
    go_wp2_with (go_at_call 46; (with_reducible refine (HGR.out _ HB5.out).mono ?_); rintro e w6 ⟨rfl, G2, q1, q2⟩; have HQ3 := Lib.hid q1; have HQ4 := Lib.hid q2; clear q1 q2)
    go_ret
    have hm : Mv (upF Gf id G' id) G2 w5 w6 := by rw [upF_same]; exact HQ4.out
    obtain ⟨s1, s2⟩ := (R1.out.kept HB5.out).lock HID.out HQ3.out hm
    have et : ({ T with hd := upF (upF T.hd id (T.hd id)) id hh, wt := upF (upF T.wt id [hh]) id [] } : Tb) = { T with hd := upF T.hd id hh } := by
      have e1 : upF (upF T.hd id (T.hd id)) id hh = upF T.hd id hh := by funext x; unfold upF; split <;> rfl
      have e2 : upF (upF T.wt id [hh]) id [] = T.wt := by
        funext x
        unfold upF
        split
        · rename_i e; rw [e, HW0.out]
        · rfl
      rw [e1, e2]
    have s1' : TbR b ml mc pt (upF (upF Gf id G') id G2) cl (fun k => (F k ∨ G' k) ∨ G2 k) w6 { T with hd := upF (upF T.hd id (T.hd id)) id hh, wt := upF (upF T.wt id [hh]) id [] } := s1
    rw [et] at s1'
    exact ⟨rfl, upF (upF Gf id G') id G2, fun k => (F k ∨ G' k) ∨ G2 k, s1', ((Mv.of_below HB3.out).trans R2.out).trans ((Mv.of_below HB5.out).trans s2)⟩
end
end Go.Proofs.YtbkoogffnchldaaGreat
/- Stage 20's program: Load looks whether the locks have a token wherever its claim says. -/
namespace Go.Proofs.YtbkoogffnchldaaGreat
open Go.RowKit Go.Maps

theorem keep_callM {w3 q w1 : World} (h : Below w3.heap.size w3 q) (hb : Below q.heap.size q w1) : Below w3.heap.size w3 w1 := h.trans (hb.mono h.size)
section
variable {b ml mc : Nat} {pt : Int → Nat} {Gf : Int → Nat → Prop} {cl : Int → Cl} {F : Nat → Prop} {w : World} {T : Tb}
set_option maxHeartbeats 8000000 in
set_option maxRecDepth 100000 in
theorem tIsPlaced_any (h : TbR b ml mc pt Gf cl F w T) {t : Int} (ht : t ∈ T.toks) (h64 : I64 t) (hgl : T.got t ≤ (T.want t).length ∧ (T.want t).length ≤ 1000) (hin : ∀ a ∈ T.want t, a ∈ T.ids) (hid64 : ∀ a ∈ T.ids, I64 a) (hwl : ∀ a ∈ T.ids, (T.wt a).length ≤ 1000000) :
    Calls Tryz.prog 23 #[ptr18 b, .int .i64 t] w fun e w' => e = .returned (.bool (seatB T t)) ∧ Below w.heap.size w w' := by
  obtain ⟨r, hr⟩ : ∃ r, seatB T t = r := ⟨_, rfl⟩
  rw [hr]
  have HR := Lib.hid hr
  obtain ⟨h1, h2, h3⟩ := h.ch t ht
  have hlk := MapC.look1 h.cm h64
  rw [(clG_at cl ht).1] at hlk
  have HIF := Lib.hid fun w' => tIsFull_any (cl t) w'
  generalize cl t = x at *
  obtain ⟨xg, yn, yc, xd⟩ := x
  simp only at h1 h2
  subst h1 h2
  replace HIF : Hid (∀ w', Calls Tryz.prog 52 #[.agg #[.slice (xg.map fun b => ⟨b, 0, none⟩) (T.want t).length yc, .int .i64 (T.got t : Int)]] w' fun e w'' => e = .returned (.bool (decide ((T.got t : Int) = ((T.want t).length : Int)))) ∧ Below w'.heap.size w' w'') := HIF
  replace hlk : (Instr.lookup 78 (.map (some mc)) (.int .i64 t) false).run Tryz.prog w = .ok (.agg #[.slice (xg.map fun b => ⟨b, 0, none⟩) (T.want t).length yc, .int .i64 (T.got t : Int)]) w := hlk
  dsimp only [Cl.v] at h3
  generalize xg.map (fun b => (⟨b, 0, none⟩ : Addr)) = xa at *
  have hcap := (ints_cap h3).2
  have H3 := Lib.hid h3
  have H := Lib.hid h
  have HIN := Lib.hid hin
  have HI64 := Lib.hid hid64
  have HWL := Lib.hid hwl
  have HVW := Lib.hid fun id (hid : id ∈ T.ids) w' (hb : Below w.heap.size w w') => lkViewN_any ((h.kept hb).lk id hid)
  have HLI := Lib.hid fun id (hid : id ∈ T.ids) (w' : World) (hb : Below w.heap.size w w') => (show (Instr.lookup 77 (.map (some ml)) (.int .i64 id) false).run Tryz.prog w' = .ok (ptr18 (pt id)) w' from by
    have := MapL.look1 (h.kept hb).lm (hid64 id hid)
    rwa [lkG_at pt hid] at this)
  have hf1 : ∀ (i g : Int) (v : Value) (w : World), (Instr.field 31 (lkv i g v) 1).run Tryz.prog w = .ok (.int .i64 g) w := fun i g v w => by kernel_rfl
  have hf2 : ∀ (i g : Int) (v : Value) (w : World), (Instr.field 31 (lkv i g v) 2).run Tryz.prog w = .ok v w := fun i g v w => by kernel_rfl
  have c0 := h.blk.cell 0 rfl
  have c1 := h.blk.cell 1 rfl
  have HC0 := Lib.hid c0
  obtain ⟨L, hL⟩ : ∃ L, T.want t = L := ⟨_, rfl⟩
  obtain ⟨gn, hgn⟩ : ∃ gn, T.got t = gn := ⟨_, rfl⟩
  have hse : seatB T t = ((L.take gn).all (fun id => T.hd id == t) && (decide (gn = L.length) || inL (T.wt (L[gn]?.getD 0)) t)) := by unfold seatB; rw [hL, hgn]
  rw [hse] at HR
  rw [hL] at HIN HIF hlk H3 hgl hcap
  rw [hgn] at HIF hlk hgl
  obtain ⟨n, hn⟩ : ∃ n, L.length = n := ⟨_, rfl⟩
  have HNN := Lib.hid hn
  rw [hn] at HIF hlk hgl hcap H3
  have hal := (Below.refl w.heap.size w).alloc (Nat.le_refl _) (.cells #[.slice xa n yc, .int .i64 (gn : Int)] 75)
  have HAL := Lib.hid hal
  have hX := Blk.new w [.slice xa n yc, .int .i64 (gn : Int)] 75
  have HX := Lib.hid hX
  have g0 : (0 : Int) ≤ (gn : Int) := by omega
  have g1 : gn ≤ yc := by omega
  have g2 : (gn : Int) ≤ 1000 := by omega
  have HG := Lib.hid hgl
  clear hr h h3 ht hin hid64 hwl hL hgn hse hn hal hX h64 hcap hgl
  go_enter Tryz.func23, Tryz.ntmps23
  go_wp2
  clear hlk c0 c1
  generalize hw1 : w.alloc (.cells #[.slice xa n yc, .int .i64 (gn : Int)] 75) = w1 at *
  replace HX : Hid (Blk w1 w.heap.size [.slice xa n yc, .int .i64 (gn : Int)]) := HX
  have hb1 := Below.refl w1.heap.size w1
  clear hw1
  go_loopg [20] gn (fun kx iv ws => ∃ k : Nat, k ≤ gn ∧ gn - k ≤ kx ∧ iv = .int .i64 k ∧ Hid ((L.take k).all (fun id => T.hd id == t) = true) ∧ Below w1.heap.size w1 ws)
  case atStart => exact ⟨0, Nat.zero_le _, Nat.le_refl _, rfl, (by show _ = _; simp), hb1⟩
  case round =>
    clear hb1
    obtain ⟨k, hk, hkx, rfl, hall, hbr⟩ := hrel
    have HBR := Lib.hid (HAL.out.trans (hbr.mono HAL.out.size))
    by_cases hlt : k < gn
    · have k0 : (0 : Int) ≤ (k : Int) := by omega
      have k1 : (k : Int) < (gn : Int) := by omega
      have k2 : (k : Int) ≤ 1000 := by omega
      have hkl : k < L.length := by rw [HNN.out]; have := HG.out.1; omega
      obtain ⟨g3, o3, c3, e3, _, _, m0⟩ := (H3.out.below HBR.out).spot k hkl
      rw [HNN.out] at e3
      cases e3
      obtain ⟨id, hid⟩ : ∃ id, L[k]'hkl = id := ⟨_, rfl⟩
      rw [hid] at m0
      have hii := HIN.out id (by rw [← hid]; exact List.getElem_mem hkl)
      have GV := Lib.hid (HVW.out id hii)
      have hlk := HLI.out id hii wr HBR.out
      have c0 := (HBR.out.cell (World.block_lt_of_cell? _ _ HC0.out)).trans HC0.out
      by_cases he : T.hd id = t
      · have HALL := Lib.hid (show (L.take (k + 1)).all (fun id => T.hd id == t) = true by
          rw [List.take_succ_eq_append_getElem hkl, List.all_append, hall.out, hid]
          simp [he])
        simp only [he] at GV
        have HK := Lib.hid (And.intro hlt hkx)
        have HBW := Lib.hid hbr
        clear hk hkx hlt hkl hid hall hii he hbr
        go_wp2_with (go_at_call 58; (with_reducible refine (GV.out _ HBR.out).mono ?_); rintro e w3 ⟨v3, rfl, _, _, hb⟩; have HB3 := Lib.hid (HBW.out.trans (hb.mono HBW.out.size)); clear hb)
        go_roundg (gn - (k + 1))
        case measure => have := HK.out; omega
        case rel => exact ⟨k + 1, by have := HK.out; omega, Nat.le_refl _, by go_num, HALL.out, HB3.out⟩
      · have HF := Lib.hid (show false = r by
          rw [← HR.out, all_take_not (k := k) hlt hkl (by rw [hid]; exact beq_noI he), Bool.false_and])
        have hne : (T.hd id == t) = false := beq_noI he
        generalize T.hd id = hh at *
        clear hk hkx hlt hkl hid hall hii hbr
        go_wp2_with (go_at_call 58; (with_reducible refine (GV.out _ HBR.out).mono ?_); rintro e w3 ⟨v3, rfl, _, _, hb⟩; have HB3 := Lib.hid (HBR.out.trans (hb.mono HBR.out.size)); clear hb)
        go_ret
        exact ⟨ret_b HF.out, HB3.out⟩
    · have hkg : k = gn := by omega
      subst hkg
      have k1 : ¬ (k : Int) < (k : Int) := by omega
      have hS0 : Below wr.heap.size wr wr.drew := below_drewN (Below.refl _ wr) 1
      have x0 := (hbr.cell (World.block_lt_of_cell? _ _ (HX.out.cell 0 rfl))).trans (HX.out.cell 0 rfl)
      have x1 := (hbr.cell (World.block_lt_of_cell? _ _ (HX.out.cell 1 rfl))).trans (HX.out.cell 1 rfl)
      have c0 := (HBR.out.cell (World.block_lt_of_cell? _ _ HC0.out)).trans HC0.out
      have K0 : ∀ w', Below wr.heap.size wr w' → w'.cell? ⟨w.heap.size, 0, none⟩ = some (.slice xa n yc) := fun w' h => (h.cell (World.block_lt_of_cell? _ _ x0)).trans x0
      have K1 : ∀ w', Below wr.heap.size wr w' → w'.cell? ⟨w.heap.size, 1, none⟩ = some (.int .i64 (k : Int)) := fun w' h => (h.cell (World.block_lt_of_cell? _ _ x1)).trans x1
      have K2 : ∀ w', Below wr.heap.size wr w' → w'.cell? ⟨b, 0, none⟩ = some (.map (some ml)) := fun w' h => (h.cell (World.block_lt_of_cell? _ _ c0)).trans c0
      by_cases hkn : k = n
      · have HF := Lib.hid (show true = r by
          rw [← HR.out, hall.out, decide_eq_true (hkn.trans HNN.out.symm)]; rfl)
        have hq : decide ((k : Int) = (n : Int)) = true := decide_eq_true (by omega)
        rw [hq] at HIF
        subst hkn
        clear hk hkx hlt hall hbr hq c0 K0 K1 K2 hS0
        go_upto_region 8 with fail
        refine wp_region_calm0 (by kernel_rfl) (by kernel_rfl) fun M => ?_
        have e0 := fun n : In M.w => n.cell (M.cell x0)
        have e1 := fun n : In M.w => n.cell (M.cell x1)
        repeat (go_big_quiet_step ((go_at_call 52; with_reducible exact In.call (HIF.out _))))
        refine wpQuiet_nil ?_
        clear e0 e1 M x0 x1
        intro w3 hb3
        have HB3 := Lib.hid (HBR.out.trans (hb3.mono HBR.out.size))
        clear hb3
        go_wp2
        go_ret
        exact ⟨ret_b HF.out, HB3.out⟩
      · have hkl : k < L.length := by rw [HNN.out]; have := HG.out.1; omega
        obtain ⟨g3, o3, c3, e3, _, _, m0⟩ := (H3.out.below HBR.out).spot k hkl
        rw [HNN.out] at e3
        cases e3
        obtain ⟨id, hid⟩ : ∃ id, L[k]'hkl = id := ⟨_, rfl⟩
        rw [hid] at m0
        have hii := HIN.out id (by rw [← hid]; exact List.getElem_mem hkl)
        have GV := Lib.hid fun w' (hb : Below wr.heap.size wr w') => HVW.out id hii w' (HBR.out.trans (hb.mono HBR.out.size))
        have K3 : ∀ w', Below wr.heap.size wr w' → w'.cell? ⟨g3, o3 + k, none⟩ = some (.int .i64 id) := fun w' h => (h.cell (World.block_lt_of_cell? _ _ m0)).trans m0
        have K4 := fun w' (hb : Below wr.heap.size wr w') => HLI.out id hii w' (HBR.out.trans (hb.mono HBR.out.size))
        have HF := Lib.hid (show inL (T.wt id) t = r by
          rw [← HR.out, hall.out, decide_eq_false (by rw [HNN.out]; exact hkn), List.getElem?_eq_getElem hkl, hid]; rfl)
        have GH := Lib.hid fun w' v (hv : IntsAt w' v (T.wt id)) => iHas_any v (T.wt id) t w' hv (HWL.out id hii)
        rw [HF.out] at GH
        have hq : decide ((k : Int) = (n : Int)) = false := decide_eq_false (by omega)
        rw [hq] at HIF
        have k0 : (0 : Int) ≤ (k : Int) := by omega
        have k2 : (k : Int) < (n : Int) := by have := HG.out.1; omega
        clear hk hkx hlt hall hbr hq x0 x1 c0 hkl hid hii hkn m0
        go_upto_region 8 with fail
        go_region_held3 (fun w' => Below wr.heap.size wr w') (assumption) ((first
          | (go_at_call 52; with_reducible refine (HIF.out _).mono ?_; rintro e u1 ⟨rfl, hb1⟩; have hS1 := keep_callM ‹Below wr.heap.size wr _› hb1; clear hb1)
          | (go_at_call 58; with_reducible refine (GV.out _ ‹Below wr.heap.size wr _›).mono ?_; rintro e u2 ⟨v2, rfl, hv2, _, hb2⟩; have hS2 := keep_callM ‹Below wr.heap.size wr _› hb2; clear hb2)
          | (go_at_call 59; with_reducible refine (GH.out _ _ hv2).mono ?_; rintro e u3 ⟨rfl, hb3⟩; have hS3 := keep_callM ‹Below wr.heap.size wr _› hb3; clear hb3)))
        have HB3 := Lib.hid (HBR.out.trans (hS3.mono HBR.out.size))
        clear K0 K1 K2 K3 K4 hS0 hS1 hS2 hS3 hv2
        go_wp2
        go_ret
        exact ⟨rfl, HB3.out⟩
end
end Go.Proofs.YtbkoogffnchldaaGreat
/- Stage 20's program: Load takes a lease: a claim of one's own copy is laid behind those that are. -/
namespace Go.Proofs.YtbkoogffnchldaaGreat
open Go.RowKit Go.Maps

/-- a table of which leases are in it -/
def loadT (T : Tb) (Xs : List Le) : Tb := { T with toks := Xs.map Le.token, got := goL Xs, want := waL Xs }
theorem find_snoc {Xs : List Le} {x : Le} {t : Int} (h : x.token ≠ t) : (Xs ++ [x]).find? (fun y => y.token == t) = Xs.find? (fun y => y.token == t) := by
  rw [List.find?_append, List.find?_cons_of_neg (by simpa using h)]
  simp
theorem find_last {Xs : List Le} {x : Le} (h : x.token ∉ Xs.map Le.token) : (Xs ++ [x]).find? (fun y => y.token == x.token) = some x := by
  rw [List.find?_append, List.find?_eq_none.2 fun y hy => by
    simp only [beq_iff_eq]
    exact fun e => h (e ▸ List.mem_map_of_mem hy)]
  simp
theorem go_snoc {Xs : List Le} {x : Le} {t : Int} (h : x.token ≠ t) : goL (Xs ++ [x]) t = goL Xs t ∧ waL (Xs ++ [x]) t = waL Xs t := by
  unfold goL waL
  rw [find_snoc h]
  exact ⟨rfl, rfl⟩
theorem go_last {Xs : List Le} {x : Le} (h : x.token ∉ Xs.map Le.token) : goL (Xs ++ [x]) x.token = x.got.toNat ∧ waL (Xs ++ [x]) x.token = x.want := by
  unfold goL waL
  rw [find_last h]
  exact ⟨rfl, rfl⟩
theorem TbR.loaded {b ml mc : Nat} {pt : Int → Nat} {Gf : Int → Nat → Prop} {cl : Int → Cl} {F : Nat → Prop} {w w2 : World} {T : Tb} {Xs : List Le} (h : TbR b ml mc pt Gf cl F w (loadT T Xs)) (hb : Below w.heap.size w w2) {x : Le} (h64 : I64 x.token) (hm : x.token ∉ Xs.map Le.token) (hf : Xs.length ≤ 64) (hg0 : 0 ≤ x.got) {g : Option Nat} {c : Nat} (ho : OwnI w2 w.heap.size (.slice (g.map fun b => ⟨b, 0, none⟩) x.want.length c) x.want) :
    ∃ w3, (Instr.mapUpdate 78 (.map (some mc)) (.int .i64 x.token) (.agg #[.slice (g.map fun b => ⟨b, 0, none⟩) x.want.length c, .int .i64 x.got])).run Tryz.prog w2 = .ok () w3 ∧ ∃ F', TbR b ml mc pt Gf (upF cl x.token ⟨g, x.want.length, c, x.got⟩) F' w3 (loadT T (Xs ++ [x])) ∧ Mv F F' w w3 := by
  have k := h.kept hb
  have hlen : (loadT T Xs).toks.length = Xs.length := List.length_map ..
  obtain ⟨w3, q1, q2, q3⟩ := MapC.put k.cm (by rw [hlen]; omega) h64 ⟨g, x.want.length, c, x.got⟩
  rw [(clG_no cl (T := loadT T Xs) hm).2, if_neg (by simp)] at q2
  obtain ⟨e1, e2⟩ := go_last hm
  refine ⟨w3, q1, _, k.claim (t := x.token) (c := ⟨g, x.want.length, c, x.got⟩) (T' := loadT T (Xs ++ [x])) (X := fun k => w.heap.size ≤ k ∧ k < w2.heap.size) rfl rfl rfl (fun y => ?_) (fun y hy => go_snoc (fun e => hy e.symm)) ⟨?_, ?_, ?_⟩ (fun h0 j hj => ?_) (fun j hj => hj.2) q3 ?_, ⟨(Only.of_below hb).trans (Only.grown q3 fun j hj => by rw [← Option.some.inj hj]; exact h.fc), fun j hj => ?_⟩⟩
  · show y ∈ (Xs ++ [x]).map Le.token ↔ y = x.token ∨ y ∈ Xs.map Le.token
    rw [List.map_append, List.mem_append, List.map_singleton, List.mem_singleton]
    exact Or.comm
  · show x.got = ((goL (Xs ++ [x]) x.token : Nat) : Int)
    rw [e1]
    omega
  · show x.want.length = (waL (Xs ++ [x]) x.token).length
    rw [e2]
  · show IntsAt w2 _ (waL (Xs ++ [x]) x.token)
    rw [e2]
    exact OwnI.ints ho
  · obtain ⟨a1, a2⟩ := ho.lt j hj
    have l1 := h.lt b h.fb
    have l2 := h.lt ml h.fl
    have l3 := h.lt mc h.fc
    exact ⟨.inr ⟨a1, a2⟩, by omega, by omega, by omega, fun id hid hg => by have := h.lt j (h.fg id hid j hg); omega⟩
  · have e : (loadT T (Xs ++ [x])).toks.length = (loadT T Xs).toks.length + 1 := by
      show ((Xs ++ [x]).map Le.token).length = (Xs.map Le.token).length + 1
      simp
    rw [e]
    exact q2
  · rcases hj with hj | hj
    · exact .inl hj
    · exact .inr hj.1
end Go.Proofs.YtbkoogffnchldaaGreat
/- Stage 20's program: Load takes the locks: the mathematics; waitsFor, of the claim that the table has of a token. -/
namespace Go.Proofs.YtbkoogffnchldaaGreat
open Go.RowKit Go.Maps

/-- a table of which locks are loaded -/
def lkT (B : Tb) (Ps : List Lr) : Tb := { B with hd := hdL Ps, wt := wtL Ps }
/-- a lock that has been loaded as far as j of those that wait -/
def cutR (x : Lr) (j : Nat) : Lr := { x with wait := x.wait.take j }
theorem cutR_all (x : Lr) : cutR x x.wait.length = x := by
  unfold cutR
  rw [List.take_length]
theorem findL_snoc {Ps : List Lr} {x : Lr} {id : Int} (h : x.id ≠ id) : (Ps ++ [x]).find? (fun y => y.id == id) = Ps.find? (fun y => y.id == id) := by
  rw [List.find?_append, List.find?_cons_of_neg (by simpa using h)]
  simp
theorem findL_no {Ps : List Lr} {id : Int} (h : id ∉ idsL Ps) : Ps.find? (fun y => y.id == id) = none :=
  List.find?_eq_none.2 fun y hy => by
    simp only [beq_iff_eq]
    exact fun e => h (e ▸ List.mem_map_of_mem hy)
theorem findL_last {Ps : List Lr} {x : Lr} (h : x.id ∉ idsL Ps) : (Ps ++ [x]).find? (fun y => y.id == x.id) = some x := by
  rw [List.find?_append, findL_no h]
  simp
theorem hd_snoc {Ps : List Lr} {x : Lr} {id : Int} (h : x.id ≠ id) : hdL (Ps ++ [x]) id = hdL Ps id ∧ wtL (Ps ++ [x]) id = wtL Ps id := by
  unfold hdL wtL
  rw [findL_snoc h]
  exact ⟨rfl, rfl⟩
theorem hd_last {Ps : List Lr} {x : Lr} (h : x.id ∉ idsL Ps) : hdL (Ps ++ [x]) x.id = x.holder ∧ wtL (Ps ++ [x]) x.id = x.wait := by
  unfold hdL wtL
  rw [findL_last h]
  exact ⟨rfl, rfl⟩
theorem hd_no {Ps : List Lr} {id : Int} (h : id ∉ idsL Ps) : hdL Ps id = 0 ∧ wtL Ps id = [] := by
  unfold hdL wtL
  rw [findL_no h]
  exact ⟨rfl, rfl⟩
theorem lkT_put {B : Tb} {Ps : List Lr} {x : Lr} (h : x.id ∉ idsL Ps) : ({ lkT B Ps with hd := upF (hdL Ps) x.id x.holder } : Tb) = lkT B (Ps ++ [cutR x 0]) := by
  have e1 : upF (hdL Ps) x.id x.holder = hdL (Ps ++ [cutR x 0]) := by
    funext id
    by_cases e : id = x.id
    · rw [e, upF_same]
      exact (hd_last (x := cutR x 0) h).1.symm
    · rw [upF_ne _ _ e]
      exact (hd_snoc (x := cutR x 0) (fun h => e h.symm)).1.symm
  have e2 : wtL Ps = wtL (Ps ++ [cutR x 0]) := by
    funext id
    by_cases e : id = x.id
    · rw [e, (hd_no h).2]
      exact (hd_last (x := cutR x 0) h).2.symm
    · exact (hd_snoc (x := cutR x 0) (fun h => e h.symm)).2.symm
  unfold lkT
  simp only [e1, e2]
theorem lkT_put0 {B : Tb} {Ps : List Lr} {x : Lr} (h : x.id ∉ idsL Ps) (h0 : x.holder = 0) : lkT B Ps = lkT B (Ps ++ [cutR x 0]) := by
  rw [← lkT_put h, h0]
  have e1 : upF (hdL Ps) x.id 0 = hdL Ps := by
    funext id
    unfold upF
    split
    · rename_i e; rw [e, (hd_no h).1]
    · rfl
  rw [e1]
  rfl
theorem lkT_next {B : Tb} {Ps : List Lr} {x : Lr} (h : x.id ∉ idsL Ps) {j : Nat} (hj : j < x.wait.length) : ({ lkT B (Ps ++ [cutR x j]) with hd := upF (hdL (Ps ++ [cutR x j])) x.id x.holder, wt := upF (wtL (Ps ++ [cutR x j])) x.id (x.wait.take j ++ [x.wait[j]]) } : Tb) = lkT B (Ps ++ [cutR x (j + 1)]) := by
  have e1 : upF (hdL (Ps ++ [cutR x j])) x.id x.holder = hdL (Ps ++ [cutR x (j + 1)]) := by
    funext id
    by_cases e : id = x.id
    · rw [e, upF_same]
      exact (hd_last (x := cutR x (j + 1)) h).1.symm
    · rw [upF_ne _ _ e]
      exact (hd_snoc (x := cutR x j) (fun h => e h.symm)).1.trans (hd_snoc (x := cutR x (j + 1)) (fun h => e h.symm)).1.symm
  have e2 : upF (wtL (Ps ++ [cutR x j])) x.id (x.wait.take j ++ [x.wait[j]]) = wtL (Ps ++ [cutR x (j + 1)]) := by
    funext id
    by_cases e : id = x.id
    · rw [e, upF_same, ← List.take_succ_eq_append_getElem hj]
      exact (hd_last (x := cutR x (j + 1)) h).2.symm
    · rw [upF_ne _ _ e]
      exact (hd_snoc (x := cutR x j) (fun h => e h.symm)).2.trans (hd_snoc (x := cutR x (j + 1)) (fun h => e h.symm)).2.symm
  unfold lkT
  simp only [e1, e2]
theorem waitB_snoc {T : Tb} {id t : Int} : ∀ (L pre : List Int), waitB T id pre (L ++ [t]) = (waitB T id pre L && (inL T.toks t && (!inL (pre ++ L) t && decide (T.nx t = some id))))
  | [], pre => by simp [waitB]
  | u :: r, pre => by
    show (inL T.toks u && (!inL pre u && (decide (T.nx u = some id) && waitB T id (pre ++ [u]) (r ++ [t])))) = ((inL T.toks u && (!inL pre u && (decide (T.nx u = some id) && waitB T id (pre ++ [u]) r))) && _)
    rw [waitB_snoc r (pre ++ [u])]
    simp only [List.append_assoc, List.cons_append, List.nil_append, Bool.and_assoc]
theorem waitB_more {T : Tb} {id : Int} : ∀ (L R pre : List Int), waitB T id pre L = false → waitB T id pre (L ++ R) = false
  | [], R, pre, h => by simp [waitB] at h
  | u :: r, R, pre, h => by
    have h2 : (inL T.toks u && (!inL pre u && (decide (T.nx u = some id) && waitB T id (pre ++ [u]) r))) = false := h
    show (inL T.toks u && (!inL pre u && (decide (T.nx u = some id) && waitB T id (pre ++ [u]) (r ++ R)))) = false
    cases h3 : waitB T id (pre ++ [u]) r with
    | false => rw [waitB_more r R _ h3]; simp
    | true =>
      rw [h3] at h2
      simp only [Bool.and_true] at h2
      cases h4 : inL T.toks u
      · rfl
      · rw [h4] at h2
        cases h5 : inL pre u
        · rw [h5] at h2
          simp only [Bool.not_false, Bool.true_and] at h2
          rw [h2]; rfl
        · rfl
/-- what is known of leases that are in a table -/
structure Bk (B : Tb) : Prop where
  may : mayB B.ids = true
  pos : ∀ t ∈ B.toks, 1 ≤ t
  ris : risL B.toks
  few : B.toks.length ≤ 64
  wr : ∀ t ∈ B.toks, risL (B.want t)
  gl : ∀ t ∈ B.toks, B.got t ≤ (B.want t).length ∧ (B.want t).length ≤ 1000
/-- who waits for a lock that has been loaded as far as that is asked for it, or stands there -/
theorem ask_load {B : Tb} (hk : Bk B) {id hh t : Int} {L : List Int} (hh0 : holdB B id hh = true) (hw : waitB B id [] L = true) (ht : t ∈ B.toks) (hn : B.nx t = some id) :
    (t ∈ L → askL hh L t = (L, 6)) ∧ (t ∉ L → askL hh L t = (L ++ [t], 0)) := by
  have h1 := hk.pos t ht
  obtain ⟨w1, w2⟩ := (waitB_iff L []).1 hw
  refine ⟨fun hL => ?_, fun hL => ?_⟩
  · unfold askL
    rw [if_neg (by omega), if_pos (.inr hL)]
  · have hne : hh ≠ t := fun e => by
      subst e
      unfold holdB at hh0
      simp only [Bool.or_eq_true, beq_iff_eq, Bool.and_eq_true, inL_iff20] at hh0
      rcases hh0 with h | ⟨_, h⟩
      · omega
      · obtain ⟨g1, g2⟩ := nx_at hn
        have := ris_take_lt (hk.wr hh ht) g1 h
        omega
    have hlen : (L ++ [t]).length ≤ B.toks.length := len_of_sub _ _ (by
      rw [List.nodup_append]
      exact ⟨w2, by simp, fun a ha b hb e => by rw [List.mem_singleton] at hb; subst hb; subst e; exact hL ha⟩) fun x hx => by
        rcases List.mem_append.1 hx with hx | hx
        · exact (w1 x hx).1
        · rw [List.mem_singleton.1 hx]; exact ht
    rw [List.length_append, List.length_singleton] at hlen
    have := hk.few
    unfold askL
    rw [if_neg (by omega), if_neg (fun h => h.elim hne hL), if_neg (by omega)]
section
variable {b ml mc : Nat} {pt : Int → Nat} {Gf : Int → Nat → Prop} {cl : Int → Cl} {F : Nat → Prop} {w : World} {T : Tb}
theorem tWaitsAt_any (h : TbR b ml mc pt Gf cl F w T) (hgl : ∀ t ∈ T.toks, T.got t ≤ (T.want t).length ∧ (T.want t).length ≤ 1000) (t id : Int) :
    ∀ w', Below w.heap.size w w' → Calls Tryz.prog 54 #[clv ((clG T cl t).getD cl0), .int .i64 id] w' fun e w'' => e = .returned (.bool (inL T.toks t && decide (T.nx t = some id))) ∧ Below w'.heap.size w' w'' := by
  intro w' hb
  by_cases ht : t ∈ T.toks
  · obtain ⟨h1, h2, h3⟩ := (h.kept hb).ch t ht
    obtain ⟨g1, g2⟩ := hgl t ht
    rw [show inL T.toks t = true from decide_eq_true ht, Bool.true_and, (clG_at cl ht).1]
    exact tWaitsFor_any (cl t) (T.want t) (T.got t) id w' h3 h2 h1 g1 (by omega)
  · have hf : inL T.toks t = false := decide_eq_false ht
    rw [hf, Bool.false_and, (clG_no cl ht).1]
    have := tWaitsFor_any cl0 [] 0 id w' (RowsAt.ints (RowsAt.nil _ _ _)) rfl rfl (Nat.le_refl _) (by simp)
    simpa using this
end
end Go.Proofs.YtbkoogffnchldaaGreat
/- Stage 20's program: Load takes the leases. -/
namespace Go.Proofs.YtbkoogffnchldaaGreat
open Go.RowKit Go.Maps

theorem RowsAt.atX {w : World} {v : Value} {l : List Le} (h : RowsAt w 7 csLe v l) (k : Nat) (hk : k < l.length) :
    ∃ g o c, v = .slice (some ⟨g, o, none⟩) l.length c ∧ l.length ≤ c ∧ g < w.heap.size ∧ w.cell? ⟨g, o + k * 7, none⟩ = some (.int .i64 l[k].token) ∧ w.cell? ⟨g, o + k * 7 + 1, none⟩ = some (.int .i64 l[k].task) ∧ w.cell? ⟨g, o + k * 7 + 2, none⟩ = some (.int .i64 l[k].worker) ∧ w.cell? ⟨g, o + k * 7 + 3, none⟩ = some (.int .i64 l[k].unit) ∧ w.cell? ⟨g, o + k * 7 + 4, none⟩ = some (.int .i64 l[k].due) ∧ w.cell? ⟨g, o + k * 7 + 5, none⟩ = some (.int .i64 l[k].got) ∧ w.cell? ⟨g, o + k * 7 + 6, none⟩ = some l[k].v := by
  obtain ⟨g, o, c, e, hc, hg, hx⟩ := h.spot k hk
  exact ⟨g, o, c, e, hc, hg, hx 0 _ rfl, hx 1 _ rfl, hx 2 _ rfl, hx 3 _ rfl, hx 4 _ rfl, hx 5 _ rfl, hx 6 _ rfl⟩
/-- leases, taken up to a place: what is left tells the rest -/
theorem lesB_drop {ids : List Int} {Xs : List Le} {k : Nat} (hk : k < Xs.length) (last : Int) : lesB ids last (Xs.drop k) = (decide (last < Xs[k].token) && (rightB Xs[k].want && (decide (0 ≤ Xs[k].got) && (decide (Xs[k].got ≤ (Xs[k].want.length : Int)) && (Xs[k].want.all (fun a => inL ids a) && lesB ids Xs[k].token (Xs.drop (k + 1))))))) := by
  rw [List.drop_eq_getElem_cons hk]
  rfl
theorem within_all {a b : List Int} : withinB a b = a.all fun x => inL b x := by
  rw [Bool.eq_iff_iff, within_iff, List.all_eq_true]
  simp only [inL_iff20]
set_option maxHeartbeats 16000000 in
set_option maxRecDepth 100000 in
theorem tLoadClaims_any {b ml mc : Nat} {pt : Int → Nat} {Gf : Int → Nat → Prop} {cl : Int → Cl} {F : Nat → Prop} {w0 w : World} {T : Tb} (h : TbR b ml mc pt Gf cl F w (loadT T [])) (hok : (loadT T []).Ok) (hB0 : Below w0.heap.size w0 w) (hF0 : ∀ k, F k → w0.heap.size ≤ k) (vb : Value) (Xs : List Le) (hx : LeasesAt w0 vb Xs) (hlen : Xs.length ≤ 1000) (h64 : ∀ x ∈ Xs, I64 x.token) (hwl : ∀ x ∈ Xs, x.want.length ≤ 1000) :
    Calls Tryz.prog 20 #[ptr18 b, vb] w fun e w' => e = .returned (.bool (decide (Xs.length ≤ 64) && lesB T.ids 0 Xs)) ∧ ∃ k, ((decide (Xs.length ≤ 64) && lesB T.ids 0 Xs) = true → k = Xs.length) ∧ ∃ cl' F', TbR b ml mc pt Gf cl' F' w' (loadT T (Xs.take k)) ∧ Mv F F' w w' := by
  obtain ⟨r, hr⟩ : ∃ r, (decide (Xs.length ≤ 64) && lesB T.ids 0 Xs) = r := ⟨_, rfl⟩
  rw [hr]
  have HR := Lib.hid hr
  obtain ⟨a, c, rfl⟩ := RowsAt.form hx.rows
  have HX := Lib.hid hx
  have H := Lib.hid h
  have HB0 := Lib.hid hB0
  have HF0 := Lib.hid hF0
  have H64 := Lib.hid h64
  have HWL := Lib.hid hwl
  have hrefl := Below.refl w.heap.size w
  by_cases hn : Xs.length ≤ 64
  · have n1 : ¬ (64 : Int) < (Xs.length : Int) := by omega
    have hr1 : lesB T.ids 0 Xs = r := by rw [← hr, decide_eq_true hn, Bool.true_and]
    have HR1 := Lib.hid hr1
    have HN := Lib.hid hn
    have HID := Lib.hid (tIds_any h hok)
    have HML := Lib.hid (may_len hok.may)
    clear hr h hok hB0 hF0 hx hlen h64 hwl hn hr1
    go_enter Tryz.func20, Tryz.ntmps20
    go_wp2_with (go_at_call 34; (with_reducible refine HID.out.mono ?_); rintro e w6 ⟨vi, rfl, hvi, hvn, hb⟩; obtain ⟨ia, ic, hif⟩ := hvi.form; obtain ⟨idn, hidn⟩ : ∃ n, (loadT T []).ids.length = n := ⟨_, rfl⟩; rw [hidn] at hif; subst hif; have HVI := Lib.hid hvi; have HVN := Lib.hid hvn; have HB6 := Lib.hid hb; clear hvi hvn hb hidn)
    go_loopg [6, 16] Xs.length (fun kx s6 kv wr => ∃ (k : Nat) (last : Int) (cl' : Int → Cl) (F' : Nat → Prop), k ≤ Xs.length ∧ Xs.length - k ≤ kx ∧ s6 = .int .i64 last ∧ kv = .int .i64 k ∧ Hid (lesB T.ids last (Xs.drop k) = r) ∧ Hid (∀ y ∈ Xs.take k, y.token ≤ last) ∧ Hid (TbR b ml mc pt Gf cl' F' wr (loadT T (Xs.take k))) ∧ Hid (Mv F F' w6 wr))
    case atStart => exact ⟨0, 0, cl, F, Nat.zero_le _, Nat.le_refl _, rfl, rfl, HR1.out, (fun y hy => (by simp at hy)), H.out.kept HB6.out, Mv.of_below (Below.refl _ _)⟩
    case round =>
      obtain ⟨k, last, cl', F', hk, hkx, rfl, rfl, HRK, HLA, HT, HM⟩ := hrel
      by_cases hlt : k < Xs.length
      · have HLT := Lib.hid (And.intro hlt hkx)
        have hw6 := HB0.out.trans (HB6.out.mono HB0.out.size)
        have HBW := Lib.hid (hw6.trans (HM.out.only.below HF0.out hw6.size))
        have k0 : (0 : Int) ≤ (k : Int) := by omega
        have k1 : (k : Int) < (Xs.length : Int) := by omega
        have k2 : (k : Int) ≤ 64 := by have := HN.out; omega
        obtain ⟨g, o, cc, e, _, _, p0, p1, p2, p3, p4, p5, p6⟩ := RowsAt.atX (RowsAt.kept HX.out.rows HBW.out) k hlt
        cases e
        have hxi := (HX.out.each _ (List.getElem_mem hlt)).below HBW.out
        have hx64 := H64.out _ (List.getElem_mem hlt)
        have hxw := HWL.out _ (List.getElem_mem hlt)
        have hrk := HRK.out
        rw [lesB_drop hlt, ← within_all] at hrk
        have hsn : Xs.take (k + 1) = Xs.take k ++ [Xs[k]] := List.take_succ_eq_append_getElem hlt
        obtain ⟨⟨tk, ta, wo, un, du, go, xa, xc, xw⟩, hx⟩ : ∃ x, Xs[k]'hlt = x := ⟨_, rfl⟩
        rw [hx] at p0 p1 p2 p3 p4 p5 p6 hxi hx64 hxw hrk hsn
        simp only at p0 p1 p2 p3 p4 p5 hx64 hxw hrk
        obtain ⟨xn, hxn⟩ : ∃ n, xw.length = n := ⟨_, rfl⟩
        change _ = some (Value.slice xa xw.length xc) at p6
        replace hxi : IntsAt wr (.slice xa xw.length xc) xw := hxi
        rw [hxn] at p6 hxi hrk hxw
        have HXN := Lib.hid hxn
        have hii : IntsAt wr (.slice ia idn ic) T.ids := HVI.out.same HM.out.only.size fun h0 j hj => by
          have h1 := (IntsAt.rows HVI.out).lt h0 j hj
          have h2 := HVN.out j hj
          exact HM.out.only.block j h1 fun hf => by have := H.out.lt j hf; omega
        have hbx := (Below.refl wr.heap.size wr).alloc (Nat.le_refl _) (.cells #[.int .i64 tk, .int .i64 ta, .int .i64 wo, .int .i64 un, .int .i64 du, .int .i64 go, .slice xa xn xc] 29)
        have GR := Lib.hid (iRight_any (.slice xa xn xc) xw (wr.alloc (.cells #[.int .i64 tk, .int .i64 ta, .int .i64 wo, .int .i64 un, .int .i64 du, .int .i64 go, .slice xa xn xc] 29)) (hxi.below hbx) (by omega))
        have GWF := Lib.hid fun w7 (hb : Below (wr.alloc (.cells #[.int .i64 tk, .int .i64 ta, .int .i64 wo, .int .i64 un, .int .i64 du, .int .i64 go, .slice xa xn xc] 29)).heap.size (wr.alloc (.cells #[.int .i64 tk, .int .i64 ta, .int .i64 wo, .int .i64 un, .int .i64 du, .int .i64 go, .slice xa xn xc] 29)) w7) => iWithin_any (.slice xa xn xc) (.slice ia idn ic) xw T.ids w7 ((hxi.below hbx).below hb) ((hii.below hbx).below hb) (by omega) (by have : T.ids.length ≤ 32 := HML.out; omega)
        have HBX := Lib.hid hbx
        have HXB := Lib.hid (Blk.new wr [.int .i64 tk, .int .i64 ta, .int .i64 wo, .int .i64 un, .int .i64 du, .int .i64 go, .slice xa xn xc] 29)
        have HSN := Lib.hid hsn
        have HX64 := Lib.hid hx64
        have HXI := Lib.hid hxi
        have HXW := Lib.hid hxw
        clear hk hkx hlt hw6 hxi hx64 hxw hx hxn hii hbx hsn HRK
        by_cases h1 : last < tk
        · have q1 : ¬ tk ≤ last := by omega
          rw [decide_eq_true h1, Bool.true_and] at hrk
          cases h2 : rightB xw with
          | false =>
            rw [h2, Bool.false_and] at hrk
            have HF := Lib.hid hrk
            rw [h2] at GR
            clear hrk h1 h2
            go_wp2_with (go_at_call 32; (with_reducible refine GR.out.mono ?_); rintro e w7 ⟨rfl, hb⟩; have HB7 := Lib.hid (HBX.out.trans (hb.mono HBX.out.size)); have GW := Lib.hid (GWF.out w7 hb); have HXB7 := Lib.hid (HXB.out.kept hb); have y6 := HXB7.out.cell 6 rfl; clear hb)
            go_ret
            exact ⟨ret_b HF.out, k, fun h => (by rw [← HF.out] at h; cases h), cl', F', HT.out.kept HB7.out, (Mv.of_below HB6.out).trans (HM.out.trans (Mv.of_below HB7.out))⟩
          | true =>
            rw [h2, Bool.true_and] at hrk
            rw [h2] at GR
            cases h3 : withinB xw T.ids with
            | false =>
              rw [h3, Bool.false_and, Bool.and_false, Bool.and_false] at hrk
              have HF := Lib.hid hrk
              simp only [h3] at GWF
              clear hrk h1 h2 h3
              go_wp2_with (first
                | (go_at_call 32; (with_reducible refine GR.out.mono ?_); rintro e w7 ⟨rfl, hb⟩; have HB7 := Lib.hid (HBX.out.trans (hb.mono HBX.out.size)); have GW := Lib.hid (GWF.out w7 hb); have HXB7 := Lib.hid (HXB.out.kept hb); have y6 := HXB7.out.cell 6 rfl; clear hb)
                | (go_at_call 33; (with_reducible refine GW.out.mono ?_); rintro e w8 ⟨rfl, hb⟩; have HB8 := Lib.hid (HB7.out.trans (hb.mono HB7.out.size)); have HXB8 := Lib.hid (HXB7.out.kept hb); have z0 := HXB8.out.cell 0 rfl; have z5 := HXB8.out.cell 5 rfl; have z6 := HXB8.out.cell 6 rfl; clear hb y6))
              go_ret
              exact ⟨ret_b HF.out, k, fun h => (by rw [← HF.out] at h; cases h), cl', F', HT.out.kept HB8.out, (Mv.of_below HB6.out).trans (HM.out.trans (Mv.of_below HB8.out))⟩
            | true =>
              rw [h3, Bool.true_and] at hrk
              simp only [h3] at GWF
              by_cases h4 : 0 ≤ go
              · have q4 : ¬ go < 0 := by omega
                rw [decide_eq_true h4, Bool.true_and] at hrk
                by_cases h5 : go ≤ (xn : Int)
                · have q5 : ¬ (xn : Int) < go := by omega
                  rw [decide_eq_true h5, Bool.true_and] at hrk
                  have HRN := Lib.hid hrk
                  have H1 := Lib.hid h1
                  have H4 := Lib.hid h4
                  clear hrk h1 h2 h3 h4 h5
                  go_upto_region 11 with (first
                    | (go_at_call 32; (with_reducible refine GR.out.mono ?_); rintro e w7 ⟨rfl, hb⟩; have HB7 := Lib.hid (HBX.out.trans (hb.mono HBX.out.size)); have GW := Lib.hid (GWF.out w7 hb); have HXB7 := Lib.hid (HXB.out.kept hb); have y6 := HXB7.out.cell 6 rfl; clear hb)
                    | (go_at_call 33; (with_reducible refine GW.out.mono ?_); rintro e w8 ⟨rfl, hb⟩; have HB8 := Lib.hid (HB7.out.trans (hb.mono HB7.out.size)); have HXB8 := Lib.hid (HXB7.out.kept hb); have z0 := HXB8.out.cell 0 rfl; have z5 := HXB8.out.cell 5 rfl; have z6 := HXB8.out.cell 6 rfl; clear hb y6))
                  have HT8 := Lib.hid (HT.out.kept HB8.out)
                  have c1 := HT8.out.blk.cell 1 rfl
                  have CL := Lib.hid fun (w' : World) (hb : Below w8.heap.size w8 w') => cloneI_any (.slice xa xn xc) xw w' ((HXI.out.below HB8.out).below hb) (by have := HXN.out; have := HXW.out; omega)
                  have hno : tk ∉ (Xs.take k).map Le.token := fun hm => by
                    obtain ⟨y, hy, e⟩ := List.mem_map.1 hm
                    have := HLA.out y hy
                    have := H1.out
                    omega
                  have HENT := Lib.hid fun (w9 : World) (hb : Below w8.heap.size w8 w9) (g : Option Nat) (c : Nat) (ho : OwnI w9 w8.heap.size (.slice (g.map fun b => ⟨b, 0, none⟩) xw.length c) xw) => (show ∃ w3, (Instr.mapUpdate 78 (.map (some mc)) (.int .i64 tk) (.agg #[.slice (g.map fun b => ⟨b, 0, none⟩) xw.length c, .int .i64 go])).run Tryz.prog w9 = .ok () w3 ∧ ∃ F2, TbR b ml mc pt Gf (upF cl' tk ⟨g, xw.length, c, go⟩) F2 w3 (loadT T (Xs.take (k + 1))) ∧ Mv F' F2 w8 w3 from by
                    rw [HSN.out]
                    exact HT8.out.loaded hb (x := ⟨tk, ta, wo, un, du, go, xa, xc, xw⟩) HX64.out hno (by rw [List.length_take]; have := HN.out; omega) H4.out ho)
                  rw [HXN.out] at HENT
                  clear hno
                  refine wp_region_chain 12 [.calm 8, .own (lkOwn w8.heap.size xn xw), .calm 3] [8] rfl (by kernel_rfl) (by simp) (by kernel_rfl) (by kernel_rfl) ?_
                  simp only [List.take_succ_cons, List.take_zero, List.drop_succ_cons, List.drop_zero]
                  refine ⟨by simp, fun M => ?_⟩
                  simp only [List.take_succ_cons, List.take_zero, List.drop_succ_cons, List.drop_zero]
                  have e1 := fun n : In M.w => n.cell (M.cell c1)
                  have e2 := fun n : In M.w => n.cell (M.cell z0)
                  have e3 := fun n : In M.w => n.cell (M.cell z6)
                  repeat (go_big_quiet_step (fail))
                  refine wpQuiet_nil ?_
                  clear e1 e2 e3 M
                  refine ⟨rfl, lkOwn_at (f := 35) (args := #[.slice xa xn xc]) HXN.out (Nat.le_refl _) (fun k => by simp [go_sem]) (fun k => CL.out k.w k.h), fun y A hA => ?_⟩
                  simp [Act.put, lkOwn] at hA
                  subst hA
                  refine ⟨by simp, fun M => ?_⟩
                  simp only [List.take_succ_cons, List.take_zero, List.drop_succ_cons, List.drop_zero]
                  have e5 := fun n : In M.w => n.cell (M.cell z5)
                  repeat (go_big_quiet_step (fail))
                  refine wpQuiet_nil ?_
                  clear e5 M
                  refine ⟨rfl, fun w9 hb9 h9 => ?_⟩
                  obtain ⟨y1, y2⟩ := y
                  obtain ⟨w10, hrun, F2, s1, s2⟩ := HENT.out w9 hb9 y1 y2 h9
                  have S1 := Lib.hid s1
                  have S2 := Lib.hid s2
                  have hX10 := HXB8.out.same (s2.only.block wr.heap.size (Blk.lt HXB8.out) fun hf => by have := HT.out.lt _ hf; omega)
                  have zA := hX10.cell 0 rfl
                  generalize y1.map (fun b => (⟨b, 0, none⟩ : Addr)) = xb at *
                  clear hb9 h9 s1 s2 c1 hX10 z0 z5 z6
                  go_upto_region 12 with fail
                  clear hrun
                  go_wp2
                  have HLN := Lib.hid (show ∀ y ∈ Xs.take (k + 1), y.token ≤ tk from fun y hy => by
                    rw [HSN.out] at hy
                    rcases List.mem_append.1 hy with hy | hy
                    · have := HLA.out y hy; have := H1.out; omega
                    · rw [List.mem_singleton.1 hy]; exact Int.le_refl _)
                  go_roundg (Xs.length - (k + 1))
                  case measure => have := HLT.out; omega
                  case rel => exact ⟨k + 1, tk, _, F2, by have := HLT.out; omega, Nat.le_refl _, rfl, by go_num, HRN.out, HLN.out, S1.out, HM.out.trans ((Mv.of_below HB8.out).trans S2.out)⟩
                · have q5 : (xn : Int) < go := by omega
                  rw [decide_eq_false h5, Bool.false_and] at hrk
                  have HF := Lib.hid hrk
                  clear hrk h1 h2 h3 h4 h5
                  go_wp2_with (first
                    | (go_at_call 32; (with_reducible refine GR.out.mono ?_); rintro e w7 ⟨rfl, hb⟩; have HB7 := Lib.hid (HBX.out.trans (hb.mono HBX.out.size)); have GW := Lib.hid (GWF.out w7 hb); have HXB7 := Lib.hid (HXB.out.kept hb); have y6 := HXB7.out.cell 6 rfl; clear hb)
                    | (go_at_call 33; (with_reducible refine GW.out.mono ?_); rintro e w8 ⟨rfl, hb⟩; have HB8 := Lib.hid (HB7.out.trans (hb.mono HB7.out.size)); have HXB8 := Lib.hid (HXB7.out.kept hb); have z0 := HXB8.out.cell 0 rfl; have z5 := HXB8.out.cell 5 rfl; have z6 := HXB8.out.cell 6 rfl; clear hb y6))
                  go_ret
                  exact ⟨ret_b HF.out, k, fun h => (by rw [← HF.out] at h; cases h), cl', F', HT.out.kept HB8.out, (Mv.of_below HB6.out).trans (HM.out.trans (Mv.of_below HB8.out))⟩
              · have q4 : go < 0 := by omega
                rw [decide_eq_false h4, Bool.false_and] at hrk
                have HF := Lib.hid hrk
                clear hrk h1 h2 h3 h4
                go_wp2_with (first
                  | (go_at_call 32; (with_reducible refine GR.out.mono ?_); rintro e w7 ⟨rfl, hb⟩; have HB7 := Lib.hid (HBX.out.trans (hb.mono HBX.out.size)); have GW := Lib.hid (GWF.out w7 hb); have HXB7 := Lib.hid (HXB.out.kept hb); have y6 := HXB7.out.cell 6 rfl; clear hb)
                  | (go_at_call 33; (with_reducible refine GW.out.mono ?_); rintro e w8 ⟨rfl, hb⟩; have HB8 := Lib.hid (HB7.out.trans (hb.mono HB7.out.size)); have HXB8 := Lib.hid (HXB7.out.kept hb); have z0 := HXB8.out.cell 0 rfl; have z5 := HXB8.out.cell 5 rfl; have z6 := HXB8.out.cell 6 rfl; clear hb y6))
                go_ret
                exact ⟨ret_b HF.out, k, fun h => (by rw [← HF.out] at h; cases h), cl', F', HT.out.kept HB8.out, (Mv.of_below HB6.out).trans (HM.out.trans (Mv.of_below HB8.out))⟩
        · have q1 : tk ≤ last := by omega
          rw [decide_eq_false h1, Bool.false_and] at hrk
          have HF := Lib.hid hrk
          clear hrk h1
          go_wp2
          go_ret
          exact ⟨ret_b HF.out, k, fun h => (by rw [← HF.out] at h; cases h), cl', F', HT.out.kept HBX.out, (Mv.of_below HB6.out).trans (HM.out.trans (Mv.of_below HBX.out))⟩
      · have k1 : ¬ (k : Int) < (Xs.length : Int) := by omega
        have hke : k = Xs.length := by omega
        have HF := Lib.hid (show true = r by
          rw [← HRK.out, List.drop_eq_nil_of_le (by omega)]; rfl)
        have HKE := Lib.hid hke
        clear hk hkx hlt hke
        go_wp2
        go_ret
        exact ⟨ret_b HF.out, k, fun _ => HKE.out, cl', F', HT.out, (Mv.of_below HB6.out).trans HM.out⟩
  · have n1 : (64 : Int) < (Xs.length : Int) := by omega
    have HF := Lib.hid (show false = r by rw [← hr, decide_eq_false hn, Bool.false_and])
    clear hr hn h hok hB0 hF0 hx hlen h64 hwl
    go_enter Tryz.func20, Tryz.ntmps20
    go_wp2
    go_ret
    exact ⟨ret_b HF.out, 0, fun h => (by rw [← HF.out] at h; cases h), cl, F, H.out, Mv.of_below hrefl⟩
end Go.Proofs.YtbkoogffnchldaaGreat
