/- Texts of this proof, joined: WpL; WaRefH; WpN; WaLawA; MapR; LockLaw; FqMath; FqA. -/
import Derived.Test.YtjmgokjljmmmgaaGreatBun17
import Derived.Laws.EntriesVeiled
import Derived.Maps.RangeWalk
import Derived.Lib.MinMax
/- Stage 21's program: Chain. -/
namespace Go.Proofs.YtjmgokjljmmmgaaGreat
open Go.RowKit Go.Maps

theorem headW_old {A : List Arc16} {x : Arc16} (h : (headW A x.src).isSome = true) : headW (A ++ [x]) = headW A := by
  funext n
  unfold headW
  rw [List.find?_append]
  by_cases e : x.src = n
  · subst e
    unfold headW at h
    cases hf : A.find? (fun a => a.src == x.src) with
    | none => rw [hf] at h; cases h
    | some a => rfl
  · rw [List.find?_cons_of_neg (by simpa using e)]
    simp
theorem headW_new {A : List Arc16} {x : Arc16} (h : (headW A x.src).isSome = false) : updG (headW A) x.src (some x.dst) = headW (A ++ [x]) := by
  funext n
  unfold headW at h ⊢
  rw [List.find?_append]
  by_cases e : n = x.src
  · subst e
    rw [updG_same]
    cases hf : A.find? (fun a => a.src == x.src) with
    | none => simp
    | some a => rw [hf] at h; cases h
  · rw [updG_other _ _ e, List.find?_cons_of_neg (by simpa using fun h => e h.symm)]
    simp
set_option maxHeartbeats 8000000 in
set_option maxRecDepth 100000 in
theorem pChain_any (vx vl : Value) (Xs : List Le) (Ls : List Lr) (t : Int) (W : World) (hx : LeasesAt W vx Xs) (hl : LocksAt W vl Ls) (hxl : Xs.length ≤ 100) (hll : Ls.length ≤ 1000) (hxw : ∀ x ∈ Xs, x.want.length ≤ 1000) (hx64 : ∀ x ∈ Xs, I64 x.token ∧ ∀ t ∈ x.want, I64 t) (hl64 : ∀ x ∈ Ls, I64 x.id ∧ I64 x.holder) (ht : I64 t) :
    Calls Tryz.prog 20 #[vx, vl, .int .i64 t] W fun e w' => ∃ v, e = .returned v ∧ IntsAt w' v (chainW Xs Ls t) ∧ Below W.heap.size W w' := by
  have hmf : ∀ (fn : Fn) (first cap : Array Value) (w : World), (Instr.makeFunc fn first cap).run Tryz.prog w = .ok (.func fn first cap) w := fun _ _ _ _ => rfl
  have hch : chainW Xs Ls t = chainC (headW (arcsW Xs Ls)) t (arcsW Xs Ls).length := rfl
  rw [hch]
  have HA := Lib.hid fun (w' : World) (hb : Below W.heap.size W w') => pArcs_any vx vl Xs Ls w' ⟨RowsAt.kept hx.rows hb, fun y hy => (hx.each y hy).below hb⟩ (hl.below hb) (by omega) hll hxw (fun x h => (hx64 x h).2) (fun x h => (hl64 x h).1)
  have hal : (arcsW Xs Ls).length ≤ 100 := Nat.le_trans (arcs_len Xs Ls) hxl
  have h64 := arcs_64 (Xs := Xs) (Ls := Ls) (fun x h => (hx64 x h).1) (fun x h => (hl64 x h).2)
  generalize arcsW Xs Ls = A at *
  obtain ⟨R, hR⟩ : ∃ R, chainC (headW A) t A.length = R := ⟨_, rfl⟩
  have GF := Lib.hid fun (b mb m : Nat) (w' : World) (h1 : Blk w' b [.map (some mb)]) (h2 : MapI w' mb m (headW A)) => pFollow_any A b mb m t w' h1 h2 ht (fun a ha => (h64 a ha).2) hal
  simp only [hR] at GF ⊢
  have HAL := Lib.hid hal
  have HA64 := Lib.hid h64
  have hmk : (Instr.makeMap 90 none).run Tryz.prog W = .ok (.map (some W.heap.size)) (W.alloc (.map #[] 0)) := by kernel_rfl
  have hz : (W.alloc (.map #[] 0)).heap.size = W.heap.size + 1 := by simp
  have hal1 := (Below.refl W.heap.size W).alloc (Nat.le_refl _) (.map #[] 0)
  have hal2 := (Below.refl (W.alloc (.map #[] 0)).heap.size (W.alloc (.map #[] 0))).alloc (Nat.le_refl _) (.cells #[.map (some W.heap.size)] 90)
  have hX := Blk.new (W.alloc (.map #[] 0)) [.map (some W.heap.size)] 90
  rw [hz] at hX
  have hm0 := MapG.kept (MapI.new W) hal2
  have HB0 := Lib.hid (hal1.trans (hal2.mono hal1.size))
  clear hx hl hxl hll hxw hx64 hl64 ht hch hal h64 hR hal1 hal2 hz
  go_enter Tryz.func20, Tryz.ntmps20
  go_upto_region 2 with fail
  clear hmk
  generalize (W.alloc (.map #[] 0)).alloc (.cells #[.map (some W.heap.size)] 90) = w1 at *
  have HX1 := Lib.hid (show Blk w1 (W.heap.size + 1) [.map (some W.heap.size)] from hX)
  have HM1 := Lib.hid (show MapI w1 W.heap.size 0 (fun _ => none) from hm0)
  clear hX hm0
  go_wp2_with (go_at_call 18; (with_reducible refine (HA.out _ HB0.out).mono ?_); rintro e w2 ⟨va, rfl, h1, b1⟩; obtain ⟨aa, ca, ea⟩ := RowsAt.form (OwnR.rows csArc_len h1); subst ea; have H1 := Lib.hid h1; have HB1 := Lib.hid b1; clear h1 b1)
  have HOW := Lib.hid (show ∀ k, (Value.slice aa A.length ca).ownBlock = some k → k ≠ W.heap.size from fun k hk e => by
    have := (OwnR.lt H1.out k hk).1
    have := HX1.out.lt
    omega)
  have HX2 := Lib.hid (HX1.out.kept HB1.out)
  have HM2 := Lib.hid (MapG.kept HM1.out HB1.out)
  have HB2 := Lib.hid (HB0.out.trans (HB1.out.mono HB0.out.size))
  have hon := Only.refl (fun j => j = W.heap.size) w2
  go_loopg [17] A.length (fun kx iv ws => ∃ (k m : Nat), k ≤ A.length ∧ A.length - k ≤ kx ∧ iv = .int .i64 k ∧ Hid (m ≤ k) ∧ Hid (MapI ws W.heap.size m (headW (A.take k))) ∧ Hid (Only (fun j => j = W.heap.size) w2 ws))
  case atStart => exact ⟨0, 0, Nat.zero_le _, Nat.le_refl _, rfl, Nat.le_refl _, HM2.out, hon⟩
  case round =>
    clear hon
    obtain ⟨k, m, hk, hkx, rfl, HMM, HMI, HON⟩ := hrel
    have hBW := HON.out.below (B := W.heap.size) (fun j hj => by rw [hj]; exact Nat.le_refl _) HB2.out.size
    have HBW := Lib.hid (HB2.out.trans hBW)
    have HXW := Lib.hid (HX2.out.same (HON.out.block _ HX2.out.lt (by omega)))
    have harc : ArcsAt wr (.slice aa A.length ca) A := RowsAt.same (OwnR.rows csArc_len H1.out) HON.out.size fun h0 g hg => HON.out.block g (OwnR.lt H1.out g hg).2 (HOW.out g hg)
    clear hBW
    by_cases hlt : k < A.length
    · have HLT := Lib.hid (And.intro hlt hkx)
      have k0 : (0 : Int) ≤ (k : Int) := by omega
      have k1 : (k : Int) < (A.length : Int) := by omega
      have k2 : (k : Int) ≤ 100 := by have := HAL.out; omega
      obtain ⟨g, o, cc, e, z0, z1, hx⟩ := harc.spot k hlt
      cases e
      clear z0 z1
      have p0 := hx 0 (.int .i64 (A[k]'hlt).src) rfl
      have p1 := hx 1 (.int .i64 (A[k]'hlt).dst) rfl
      simp only [Nat.add_zero] at p0
      have h64 := HA64.out _ (List.getElem_mem hlt)
      have hsn : A.take (k + 1) = A.take k ++ [A[k]] := List.take_succ_eq_append_getElem hlt
      obtain ⟨⟨s, d⟩, hsd⟩ : ∃ a, A[k]'hlt = a := ⟨_, rfl⟩
      rw [hsd] at p0 p1 h64 hsn
      simp only at p0 p1 h64
      have hbx := (Below.refl wr.heap.size wr).alloc (Nat.le_refl _) (.cells #[.int .i64 s, .int .i64 d] 54)
      have hX := Blk.new wr [.int .i64 s, .int .i64 d] 54
      have HM3 := Lib.hid (MapG.kept HMI.out hbx)
      have HX3 := Lib.hid (HXW.out.kept hbx)
      have HON3 := Lib.hid (HON.out.trans (Only.of_below hbx))
      have HS64 := Lib.hid h64
      have HOLD := Lib.hid (show (headW (A.take k) s).isSome = true → headW (A.take (k + 1)) = headW (A.take k) from fun h => by rw [hsn]; exact headW_old (x := ⟨s, d⟩) h)
      have HNEW := Lib.hid (show (headW (A.take k) s).isSome = false → updG (headW (A.take k)) s (some d) = headW (A.take (k + 1)) from fun h => by rw [hsn]; exact headW_new (x := ⟨s, d⟩) h)
      have hlk := MapI.look HM3.out h64.1
      obtain ⟨q, hq⟩ : ∃ q, (headW (A.take k) s).isSome = q := ⟨_, rfl⟩
      obtain ⟨y, hy⟩ : ∃ y, (headW (A.take k) s).getD 0 = y := ⟨_, rfl⟩
      rw [hq, hy] at hlk
      rw [hq] at HOLD HNEW
      have HQ := Lib.hid hq
      clear hk hkx hlt hx h64 hsn hsd hbx hq hy harc HMI HON HXW
      go_upto_region 5 with fail
      generalize wr.alloc (.cells #[.int .i64 s, .int .i64 d] 54) = w3 at *
      generalize wr.heap.size = bx at *
      have x0 := Blk.cell (vs := [.int .i64 s, .int .i64 d]) hX 0 rfl
      have x1 := Blk.cell (vs := [.int .i64 s, .int .i64 d]) hX 1 rfl
      have c0 := HX3.out.cell 0 rfl
      clear hX p0 p1
      cases q with
      | true =>
        have hm := HM3.out
        rw [← HOLD.out rfl] at hm
        have HM4 := Lib.hid hm
        clear hm
        go_wp2
        go_roundg (A.length - (k + 1))
        case measure => have := HLT.out; omega
        case rel => exact ⟨k + 1, m, by have := HLT.out; omega, Nat.le_refl _, by go_num, (by show m ≤ k + 1; have := HMM.out; omega), HM4.out, HON3.out⟩
      | false =>
        obtain ⟨w5, hrun, hm5, hg5⟩ := MapI.put HM3.out (by have := HMM.out; have := HLT.out; have := HAL.out; omega) HS64.out.1 d HS64.out.2
        rw [HNEW.out rfl] at hm5
        have HM5 := Lib.hid hm5
        have HON5 := Lib.hid (HON3.out.trans (Only.grown hg5 fun j hj => (Option.some.inj hj).symm))
        have HPP := Lib.hid (show (if (headW (A.take k) s).isSome = true then m else m + 1) ≤ k + 1 by have := HMM.out; split <;> omega)
        clear hm5 hg5
        go_wp2
        clear hrun
        go_roundg (A.length - (k + 1))
        case measure => have := HLT.out; omega
        case rel => exact ⟨k + 1, _, by have := HLT.out; omega, Nat.le_refl _, by go_num, HPP.out, HM5.out, HON5.out⟩
    · have k1 : ¬ (k : Int) < (A.length : Int) := by omega
      have hm := HMI.out
      rw [show A.take k = A from List.take_of_length_le (by omega)] at hm
      have GF2 := Lib.hid (GF.out _ _ _ wr HXW.out hm)
      clear hk hkx hlt hm harc HMI
      go_wp2_with (go_at_call 49; (with_reducible refine GF2.out.mono ?_); rintro e w4 ⟨v4, rfl, h4, b4⟩; have H4 := Lib.hid h4; have HB4 := Lib.hid b4; clear h4 b4)
      go_ret
      exact ⟨_, rfl, H4.out, HBW.out.trans (HB4.out.mono HBW.out.size)⟩
end Go.Proofs.YtjmgokjljmmmgaaGreat
/- Stage 21: the document's Ready, Few, Arrows. -/
namespace Go.Proofs.YtjmgokjljmmmgaaGreat
open Go.RowKit

theorem ready_le (Xs : List Le) (Ls : List Lr) : (readyW Xs Ls).length ≤ Xs.length := by
  unfold readyW
  rw [List.length_map]
  exact List.length_filter_le ..
end Go.Proofs.YtjmgokjljmmmgaaGreat
/- Stage 21's program: Ready. -/
namespace Go.Proofs.YtjmgokjljmmmgaaGreat
open Go.RowKit Go.Maps

set_option maxHeartbeats 16000000 in
set_option maxRecDepth 100000 in
theorem pRdy1_any (x : Le) (Ls : List Lr) (bf b B : Nat) (w : World) (hf : Blk w bf [.func (.func 68) #[] #[.pointer (some ⟨b, 0, none⟩)]]) (hA : AwtAt B w b Ls) (hi : IntsAt w (.slice x.a x.want.length x.c) x.want) (hw : x.want.length ≤ 1000) (h64 : ∀ t ∈ x.want, I64 t) (hk : ∀ k ∈ Ls, IntsAt w (.slice k.a k.wait.length k.c) k.wait) (hkw : ∀ k ∈ Ls, k.wait.length ≤ 1000) :
    Calls Tryz.prog 47 #[lv7 x.token x.task x.worker x.unit x.due x.got (.slice x.a x.want.length x.c), .pointer (some ⟨bf, 0, none⟩)] w fun e w' => e = .returned (.bool (readyX Ls x)) ∧ Below w.heap.size w w' := by
  have hrx : readyX Ls x = (decide (x.got = (x.want.length : Int)) || ((awX Ls x).map fun k => (k.holder == 0) && (k.wait.head? == some x.token)).getD false) := rfl
  obtain ⟨rx, hrxd⟩ : ∃ rx, readyX Ls x = rx := ⟨_, rfl⟩
  rw [hrxd] at hrx ⊢
  have hb1 := (Below.refl w.heap.size w).alloc (Nat.le_refl _) (.cells #[.int .i64 x.token, .int .i64 x.task, .int .i64 x.worker, .int .i64 x.unit, .int .i64 x.due, .int .i64 x.got, .slice x.a x.want.length x.c] 43)
  have hX := Blk.new w [.int .i64 x.token, .int .i64 x.task, .int .i64 x.worker, .int .i64 x.unit, .int .i64 x.due, .int .i64 x.got, .slice x.a x.want.length x.c] 43
  have HC := Lib.hid (pAwtC_any (hA.kept hb1) x (hi.below hb1) hw h64)
  have GF := Lib.hid fun w' => pFull_any x.token x.task x.worker x.unit x.due x.got x.a x.want.length x.c w'
  have HK := Lib.hid fun (k : Lr) (h : k ∈ Ls) (w' : World) (hb : Below w.heap.size w w') => (hk k h).below hb
  have HKW := Lib.hid hkw
  have hin : ∀ k, awX Ls x = some k → k ∈ Ls := fun k h => by
    unfold awX at h
    cases h2 : nxX x with
    | none => rw [h2] at h; cases h
    | some id =>
      rw [h2] at h
      exact List.mem_of_find?_eq_some h
  have HF := Lib.hid (hf.kept hb1)
  obtain ⟨aw, haw⟩ : ∃ aw, awX Ls x = aw := ⟨_, rfl⟩
  rw [haw] at hrx
  simp only [haw] at HC hin
  obtain ⟨y, hy⟩ : ∃ y, (aw.map lrhW).getD kh0 = y := ⟨_, rfl⟩
  obtain ⟨q, hq⟩ : ∃ q, aw.isSome = q := ⟨_, rfl⟩
  simp only [hy, hq] at HC
  have HY := Lib.hid hy
  have HQ := Lib.hid hq
  have HIN := Lib.hid hin
  have HRX := Lib.hid hrx
  obtain ⟨y1, y2, ⟨ya, yn, yc⟩⟩ := y
  obtain ⟨tk, ta, wo, un, du, go, xa, xc, xw⟩ := x
  simp only at HRX HC GF hX hb1 HF ⊢
  replace HC : Hid (Calls Tryz.prog 68 #[.agg #[.int .i64 tk, .int .i64 ta, .int .i64 wo, .int .i64 un, .int .i64 du, .int .i64 go, .slice xa xw.length xc], .pointer (some ⟨b, 0, none⟩)] _ fun e w' => e = .returned (.tuple #[.agg #[.int .i64 y1, .int .i64 y2, .slice ya yn yc], .bool q]) ∧ Below _ _ w') := HC
  generalize xw.length = xn at *
  clear hf hA hi hw h64 hk hkw hrx hrxd haw hy hq hin
  go_enter Tryz.func47, Tryz.ntmps47
  go_upto_region 1 with fail
  generalize w.alloc (.cells #[.int .i64 tk, .int .i64 ta, .int .i64 wo, .int .i64 un, .int .i64 du, .int .i64 go, .slice xa xn xc] 43) = w1 at *
  replace hX : Blk w1 w.heap.size [.int .i64 tk, .int .i64 ta, .int .i64 wo, .int .i64 un, .int .i64 du, .int .i64 go, .slice xa xn xc] := hX
  have HX := Lib.hid hX
  have HB := Lib.hid hb1
  have c0 := HF.out.cell 0 rfl
  have x0 := hX.cell 0 rfl
  have x1 := hX.cell 1 rfl
  have x2 := hX.cell 2 rfl
  have x3 := hX.cell 3 rfl
  have x4 := hX.cell 4 rfl
  have x5 := hX.cell 5 rfl
  have x6 := hX.cell 6 rfl
  clear hX hb1
  go_upto_region 2 with (go_at_call 68; (with_reducible refine HC.out.mono ?_); rintro e w2 ⟨rfl, b2⟩; have HB2 := Lib.hid b2; clear b2)
  clear c0 x0 x1 x2 x3 x4 x5 x6
  have hal := (Below.refl w2.heap.size w2).alloc (Nat.le_refl _) (.cells #[.int .i64 y1, .int .i64 y2, .slice ya yn yc] 50)
  have hY := Blk.new w2 [.int .i64 y1, .int .i64 y2, .slice ya yn yc] 50
  have hX3 := (HX.out.kept HB2.out).kept hal
  have HB3 := Lib.hid (HB.out.trans ((HB2.out.trans (hal.mono HB2.out.size)).mono HB.out.size))
  generalize w2.alloc (.cells #[.int .i64 y1, .int .i64 y2, .slice ya yn yc] 50) = w3 at *
  replace hY : Blk w3 w2.heap.size [.int .i64 y1, .int .i64 y2, .slice ya yn yc] := hY
  have x0 := hX3.cell 0 rfl
  have x1 := hX3.cell 1 rfl
  have x2 := hX3.cell 2 rfl
  have x3 := hX3.cell 3 rfl
  have x4 := hX3.cell 4 rfl
  have x5 := hX3.cell 5 rfl
  have x6 := hX3.cell 6 rfl
  have y1' := hY.cell 1 rfl
  have y2' := hY.cell 2 rfl
  clear hX3 hY hal
  by_cases hfl : go = (xn : Int)
  · have hr : rx = true := by rw [HRX.out, decide_eq_true hfl]; rfl
    have hd : decide (go = (xn : Int)) = true := decide_eq_true hfl
    simp only [hd] at GF
    subst hr
    clear hfl hd
    refine wp_region_calm0 (by kernel_rfl) (by kernel_rfl) fun M => ?_
    have f0 := fun n : In M.w => n.cell (M.cell x0)
    have f1 := fun n : In M.w => n.cell (M.cell x1)
    have f2 := fun n : In M.w => n.cell (M.cell x2)
    have f3 := fun n : In M.w => n.cell (M.cell x3)
    have f4 := fun n : In M.w => n.cell (M.cell x4)
    have f5 := fun n : In M.w => n.cell (M.cell x5)
    have f6 := fun n : In M.w => n.cell (M.cell x6)
    repeat (go_big_quiet_step ((go_at_call 48; with_reducible exact In.call (GF.out _))))
    refine wpQuiet_nil ?_
    clear f0 f1 f2 f3 f4 f5 f6 M
    intro w5 hb5
    have HB5 := Lib.hid (HB3.out.trans (hb5.mono HB3.out.size))
    clear hb5 x0 x1 x2 x3 x4 x5 x6 y1' y2'
    go_wp2
    go_ret
    exact ⟨rfl, HB5.out⟩
  · have hd : decide (go = (xn : Int)) = false := decide_eq_false hfl
    simp only [hd] at GF
    have hr := HRX.out
    rw [hd, Bool.false_or] at hr
    cases aw with
    | none =>
      have hqf : q = false := HQ.out.symm
      subst hqf
      simp only [Option.map_none, Option.getD_none] at hr
      subst hr
      clear hfl hd
      refine wp_region_calm0 (by kernel_rfl) (by kernel_rfl) fun M => ?_
      have f0 := fun n : In M.w => n.cell (M.cell x0)
      have f1 := fun n : In M.w => n.cell (M.cell x1)
      have f2 := fun n : In M.w => n.cell (M.cell x2)
      have f3 := fun n : In M.w => n.cell (M.cell x3)
      have f4 := fun n : In M.w => n.cell (M.cell x4)
      have f5 := fun n : In M.w => n.cell (M.cell x5)
      have f6 := fun n : In M.w => n.cell (M.cell x6)
      repeat (go_big_quiet_step ((go_at_call 48; with_reducible exact In.call (GF.out _))))
      refine wpQuiet_nil ?_
      clear f0 f1 f2 f3 f4 f5 f6 M
      intro w5 hb5
      have HB5 := Lib.hid (HB3.out.trans (hb5.mono HB3.out.size))
      clear hb5 x0 x1 x2 x3 x4 x5 x6 y1' y2'
      go_wp2
      go_ret
      exact ⟨rfl, HB5.out⟩
    | some kk =>
      have hqf : q = true := HQ.out.symm
      subst hqf
      have hyy := HY.out
      have hkm := HIN.out kk rfl
      have hki := HK.out kk hkm w3 HB3.out
      have hkl := HKW.out kk hkm
      simp only [Option.map_some, Option.getD_some] at hr hyy
      obtain ⟨id', hh, ka, kc, kw⟩ := kk
      simp only [lrhW, Kh.mk.injEq, Ah.mk.injEq] at hyy
      obtain ⟨_, hy2, rfl, hyn, rfl⟩ := hyy
      simp only at hr hki hkl hy2 hyn
      subst hy2
      by_cases hz : hh = 0
      · subst hz
        have ez : ((0 : Int) == 0) = true := rfl
        rw [ez, Bool.true_and] at hr
        cases kw with
        | nil =>
          have hr2 : rx = false := by rw [hr]; simp
          have hn0 : yn = 0 := hyn.symm
          subst hr2 hn0
          clear hfl hd hr hki
          refine wp_region_calm0 (by kernel_rfl) (by kernel_rfl) fun M => ?_
          have f0 := fun n : In M.w => n.cell (M.cell x0)
          have f1 := fun n : In M.w => n.cell (M.cell x1)
          have f2 := fun n : In M.w => n.cell (M.cell x2)
          have f3 := fun n : In M.w => n.cell (M.cell x3)
          have f4 := fun n : In M.w => n.cell (M.cell x4)
          have f5 := fun n : In M.w => n.cell (M.cell x5)
          have f6 := fun n : In M.w => n.cell (M.cell x6)
          have f7 := fun n : In M.w => n.cell (M.cell y1')
          have f8 := fun n : In M.w => n.cell (M.cell y2')
          repeat (go_big_quiet_step ((go_at_call 48; with_reducible exact In.call (GF.out _))))
          refine wpQuiet_nil ?_
          clear f0 f1 f2 f3 f4 f5 f6 f7 f8 M
          intro w5 hb5
          have HB5 := Lib.hid (HB3.out.trans (hb5.mono HB3.out.size))
          clear hb5 x0 x1 x2 x3 x4 x5 x6 y1' y2'
          go_wp2
          go_ret
          exact ⟨rfl, HB5.out⟩
        | cons z rest =>
          obtain ⟨g4, o4, c4, e4, _, _, m0⟩ := hki.spot 0 (by simp)
          cases e4
          simp only [List.getElem_cons_zero, Nat.add_zero] at m0
          have hr2 : rx = (z == tk) := by rw [hr]; simp
          rw [hyn] at hkl
          have l1 : (0 : Int) < (yn : Int) := by rw [← hyn]; simp only [List.length_cons]; omega
          have l2 : (yn : Int) ≤ 1000 := by omega
          have l3 : 0 < yn := by omega
          clear hr hki hyn
          by_cases hyy2 : z = tk
          · have hr3 : rx = true := by rw [hr2, hyy2]; simp
            subst hr3
            rw [hyy2] at m0
            have ey : (tk == tk) = true := by simp
            clear hr2 hyy2 hfl hd
            refine wp_region_calm0 (by kernel_rfl) (by kernel_rfl) fun M => ?_
            have f0 := fun n : In M.w => n.cell (M.cell x0)
            have f1 := fun n : In M.w => n.cell (M.cell x1)
            have f2 := fun n : In M.w => n.cell (M.cell x2)
            have f3 := fun n : In M.w => n.cell (M.cell x3)
            have f4 := fun n : In M.w => n.cell (M.cell x4)
            have f5 := fun n : In M.w => n.cell (M.cell x5)
            have f6 := fun n : In M.w => n.cell (M.cell x6)
            have f7 := fun n : In M.w => n.cell (M.cell y1')
            have f8 := fun n : In M.w => n.cell (M.cell y2')
            have f9 := fun n : In M.w => n.cell (M.cell m0)
            repeat (go_big_quiet_step ((go_at_call 48; with_reducible exact In.call (GF.out _))))
            refine wpQuiet_nil ?_
            clear f0 f1 f2 f3 f4 f5 f6 f7 f8 f9 M
            intro w5 hb5
            have HB5 := Lib.hid (HB3.out.trans (hb5.mono HB3.out.size))
            clear hb5 x0 x1 x2 x3 x4 x5 x6 y1' y2'
            go_wp2
            go_ret
            exact ⟨rfl, HB5.out⟩
          · have ey : (z == tk) = false := beq_noI hyy2
            have hr3 : rx = false := hr2.trans ey
            subst hr3
            clear hr2 hfl hd
            refine wp_region_calm0 (by kernel_rfl) (by kernel_rfl) fun M => ?_
            have f0 := fun n : In M.w => n.cell (M.cell x0)
            have f1 := fun n : In M.w => n.cell (M.cell x1)
            have f2 := fun n : In M.w => n.cell (M.cell x2)
            have f3 := fun n : In M.w => n.cell (M.cell x3)
            have f4 := fun n : In M.w => n.cell (M.cell x4)
            have f5 := fun n : In M.w => n.cell (M.cell x5)
            have f6 := fun n : In M.w => n.cell (M.cell x6)
            have f7 := fun n : In M.w => n.cell (M.cell y1')
            have f8 := fun n : In M.w => n.cell (M.cell y2')
            have f9 := fun n : In M.w => n.cell (M.cell m0)
            repeat (go_big_quiet_step ((go_at_call 48; with_reducible exact In.call (GF.out _))))
            refine wpQuiet_nil ?_
            clear f0 f1 f2 f3 f4 f5 f6 f7 f8 f9 M
            intro w5 hb5
            have HB5 := Lib.hid (HB3.out.trans (hb5.mono HB3.out.size))
            clear hb5 x0 x1 x2 x3 x4 x5 x6 y1' y2'
            go_wp2
            go_ret
            exact ⟨rfl, HB5.out⟩
      · have ez : (hh == 0) = false := beq_noI hz
        have hr2 : rx = false := by rw [hr, ez, Bool.false_and]
        subst hr2
        clear hr hfl hd hki
        refine wp_region_calm0 (by kernel_rfl) (by kernel_rfl) fun M => ?_
        have f0 := fun n : In M.w => n.cell (M.cell x0)
        have f1 := fun n : In M.w => n.cell (M.cell x1)
        have f2 := fun n : In M.w => n.cell (M.cell x2)
        have f3 := fun n : In M.w => n.cell (M.cell x3)
        have f4 := fun n : In M.w => n.cell (M.cell x4)
        have f5 := fun n : In M.w => n.cell (M.cell x5)
        have f6 := fun n : In M.w => n.cell (M.cell x6)
        have f7 := fun n : In M.w => n.cell (M.cell y1')
        repeat (go_big_quiet_step ((go_at_call 48; with_reducible exact In.call (GF.out _))))
        refine wpQuiet_nil ?_
        clear f0 f1 f2 f3 f4 f5 f6 f7 M
        intro w5 hb5
        have HB5 := Lib.hid (HB3.out.trans (hb5.mono HB3.out.size))
        clear hb5 x0 x1 x2 x3 x4 x5 x6 y1' y2'
        go_wp2
        go_ret
        exact ⟨rfl, HB5.out⟩
set_option maxHeartbeats 8000000 in
set_option maxRecDepth 100000 in
theorem pReady_any (vx vl : Value) (Xs : List Le) (Ls : List Lr) (W : World) (hx : LeasesAt W vx Xs) (hl : LocksAt W vl Ls) (hxl : Xs.length ≤ 1000) (hll : Ls.length ≤ 1000) (hxw : ∀ x ∈ Xs, x.want.length ≤ 1000) (hlw : ∀ x ∈ Ls, x.wait.length ≤ 1000) (hx64 : ∀ x ∈ Xs, ∀ t ∈ x.want, I64 t) (hl64 : ∀ x ∈ Ls, I64 x.id) :
    Calls Tryz.prog 16 #[vx, vl] W fun e w' => ∃ v, e = .returned v ∧ IntsAt w' v (readyW Xs Ls) ∧ Below W.heap.size W w' := by
  have hmf : ∀ (fn : Fn) (first cap : Array Value) (w : World), (Instr.makeFunc fn first cap).run Tryz.prog w = .ok (.func fn first cap) w := fun _ _ _ _ => rfl
  have HAW := Lib.hid (pAwaited_any vl Ls W hl.rows hll hl64)
  have HTK := Lib.hid fun (w2 : World) (hb2 : Below W.heap.size W w2) (bf b B : Nat) (hf : Blk w2 bf [.func (.func 68) #[] #[.pointer (some ⟨b, 0, none⟩)]]) (hA : AwtAt B w2 b Ls) => pTokensOf_any 47 #[.pointer (some ⟨bf, 0, none⟩)] (fun _ _ => by kernel_rfl) (readyX Ls) vx Xs w2 (RowsAt.kept hx.rows hb2) hxl fun x hxm w' hb => pRdy1_any x Ls bf b B w' (hf.kept hb) (hA.kept hb) (((hx.each x hxm).below hb2).below hb) (hxw x hxm) (hx64 x hxm) (fun k hk => ((hl.each k hk).below hb2).below hb) hlw
  have hrd : (Xs.filter (readyX Ls)).map Le.token = readyW Xs Ls := rfl
  simp only [hrd] at HTK
  generalize readyW Xs Ls = R at *
  clear hx hl hxl hll hxw hlw hx64 hl64 hrd
  go_enter Tryz.func16, Tryz.ntmps16
  go_upto_region 2 with (go_at_call 45; (with_reducible refine HAW.out.mono ?_); rintro e w1 ⟨b, rfl, h1, b1⟩; have HA1 := Lib.hid h1; have HB1 := Lib.hid b1; clear h1 b1)
  have hal := (Below.refl w1.heap.size w1).alloc (Nat.le_refl _) (.cells #[.func (.func 68) #[] #[.pointer (some ⟨b, 0, none⟩)]] 85)
  have hX := Blk.new w1 [.func (.func 68) #[] #[.pointer (some ⟨b, 0, none⟩)]] 85
  have hA2 := HA1.out.kept hal
  have HB2 := Lib.hid (HB1.out.trans (hal.mono HB1.out.size))
  generalize w1.alloc (.cells #[.func (.func 68) #[] #[.pointer (some ⟨b, 0, none⟩)]] 85) = w2 at *
  have GT := Lib.hid (HTK.out w2 HB2.out _ b _ hX hA2)
  clear hal hX hA2
  go_wp2_with (go_at_call 46; (with_reducible refine GT.out.mono ?_); rintro e w3 ⟨v3, rfl, h3, b3⟩; have H3 := Lib.hid (OwnI.ints h3); have HB3 := Lib.hid (HB2.out.trans (b3.mono HB2.out.size)); clear h3 b3)
  go_ret
  exact ⟨_, rfl, H3.out, HB3.out⟩
end Go.Proofs.YtjmgokjljmmmgaaGreat
/- Stage 21: what comes at any rate. -/
namespace Go.Proofs.YtjmgokjljmmmgaaGreat
open Go.RowKit

theorem RowsAt.two {α : Type} (w : World) (t : TypeId) {K : Nat} {cs : α → List Value} (x y : α) (h : ∀ x, (cs x).length = K) : RowsAt (w.alloc (.cells (cs x ++ cs y).toArray t)) K cs (.slice (some ⟨w.heap.size, 0, none⟩) 2 2) [x, y] := by
  refine ⟨_, 2, rfl, Nat.le_refl _, fun _ => ⟨w.heap.size, 0, rfl, by simp, fun j z hj i u hu => ?_⟩⟩
  have hi : i < K := by rw [← h z]; exact (List.getElem?_eq_some_iff.1 hu).1
  rw [Nat.zero_add, World.cell?_alloc_at _ _ _ _ rfl]
  simp only [List.getElem?_toArray]
  match j, hj with
  | 0, hj =>
    obtain rfl : x = z := by simpa using hj
    rw [Nat.zero_mul, Nat.zero_add, List.getElem?_append_left (by rw [h]; exact hi)]
    exact hu
  | 1, hj =>
    obtain rfl : y = z := by simpa using hj
    rw [Nat.one_mul, List.getElem?_append_right (by rw [h]; omega), h, Nat.add_sub_cancel_left]
    exact hu
  | j + 2, hj => simp at hj
def xs21 (n : Nat) : List Le := [⟨5, 0, 0, 0, 0, 1, some ⟨n, 0, none⟩, 2, [1, 2]⟩, ⟨6, 0, 0, 0, 0, 1, some ⟨n + 1, 0, none⟩, 1, [2]⟩]
def ls21 (n : Nat) : List Lr := [⟨1, 5, none, 0, []⟩, ⟨2, 6, some ⟨n + 1 + 1 + 1, 0, none⟩, 1, [5]⟩]
theorem f21 (n : Nat) : arcsW (xs21 n) (ls21 n) = [⟨5, 6⟩] ∧ rightW (xs21 n) (ls21 n) = true ∧ ringW (xs21 n) (ls21 n) = false ∧ readyW (xs21 n) (ls21 n) = [6] ∧ chainW (xs21 n) (ls21 n) 5 = [5, 6] := ⟨by kernel_rfl, by kernel_rfl, by kernel_rfl, by kernel_rfl, by kernel_rfl⟩
def w21 (w : World) : World := ((((w.alloc (.cells #[.int .i64 1, .int .i64 2] 3)).alloc (.cells #[.int .i64 2] 3)).alloc (.cells #[.int .i64 5, .int .i64 0, .int .i64 0, .int .i64 0, .int .i64 0, .int .i64 1, .slice (some ⟨w.heap.size, 0, none⟩) 2 2, .int .i64 6, .int .i64 0, .int .i64 0, .int .i64 0, .int .i64 0, .int .i64 1, .slice (some ⟨w.heap.size + 1, 0, none⟩) 1 1] 43)).alloc (.cells #[.int .i64 5] 3)).alloc (.cells #[.int .i64 1, .int .i64 5, .slice none 0 0, .int .i64 2, .int .i64 6, .slice (some ⟨w.heap.size + 1 + 1 + 1, 0, none⟩) 1 1] 50)
theorem below_alloc (w : World) (o : Obj) : Below w.heap.size w (w.alloc o) := (Below.refl w.heap.size w).alloc (Nat.le_refl _) o
theorem size_alloc21 (w : World) (o : Obj) : (w.alloc o).heap.size = w.heap.size + 1 := by simp
theorem lit21 (w : World) : LeasesAt (w21 w) (.slice (some ⟨w.heap.size + 1 + 1, 0, none⟩) 2 2) (xs21 w.heap.size) ∧ LocksAt (w21 w) (.slice (some ⟨w.heap.size + 1 + 1 + 1 + 1, 0, none⟩) 2 2) (ls21 w.heap.size) ∧ Below w.heap.size w (w21 w) := by
  unfold w21
  obtain ⟨w1, h1⟩ : ∃ w1, w.alloc (.cells #[.int .i64 1, .int .i64 2] 3) = w1 := ⟨_, rfl⟩
  have e1 : w1.heap.size = w.heap.size + 1 := by rw [← h1]; exact size_alloc21 _ _
  have b1 : Below w.heap.size w w1 := by rw [← h1]; exact below_alloc _ _
  have i1 : IntsAt w1 (.slice (some ⟨w.heap.size, 0, none⟩) 2 2) [1, 2] := by rw [← h1]; exact IntsAt.lit w [1, 2] _
  rw [h1]
  obtain ⟨w2, h2⟩ : ∃ w2, w1.alloc (.cells #[.int .i64 2] 3) = w2 := ⟨_, rfl⟩
  have e2 : w2.heap.size = w.heap.size + 1 + 1 := by rw [← h2, size_alloc21, e1]
  have b2 : Below w1.heap.size w1 w2 := by rw [← h2]; exact below_alloc _ _
  have i2 : IntsAt w2 (.slice (some ⟨w.heap.size + 1, 0, none⟩) 1 1) [2] := by rw [← h2, ← e1]; exact IntsAt.lit w1 [2] _
  rw [h2]
  obtain ⟨w3, h3⟩ : ∃ w3, w2.alloc (.cells #[.int .i64 5, .int .i64 0, .int .i64 0, .int .i64 0, .int .i64 0, .int .i64 1, .slice (some ⟨w.heap.size, 0, none⟩) 2 2, .int .i64 6, .int .i64 0, .int .i64 0, .int .i64 0, .int .i64 0, .int .i64 1, .slice (some ⟨w.heap.size + 1, 0, none⟩) 1 1] 43) = w3 := ⟨_, rfl⟩
  have e3 : w3.heap.size = w.heap.size + 1 + 1 + 1 := by rw [← h3, size_alloc21, e2]
  have b3 : Below w2.heap.size w2 w3 := by rw [← h3]; exact below_alloc _ _
  have i3 : RowsAt w3 7 csLe (.slice (some ⟨w.heap.size + 1 + 1, 0, none⟩) 2 2) (xs21 w.heap.size) := by
    rw [← h3, ← e2]
    exact RowsAt.two (cs := csLe) w2 43 ⟨5, 0, 0, 0, 0, 1, some ⟨w.heap.size, 0, none⟩, 2, [1, 2]⟩ ⟨6, 0, 0, 0, 0, 1, some ⟨w.heap.size + 1, 0, none⟩, 1, [2]⟩ csLe_len
  rw [h3]
  obtain ⟨w4, h4⟩ : ∃ w4, w3.alloc (.cells #[.int .i64 5] 3) = w4 := ⟨_, rfl⟩
  have e4 : w4.heap.size = w.heap.size + 1 + 1 + 1 + 1 := by rw [← h4, size_alloc21, e3]
  have b4 : Below w3.heap.size w3 w4 := by rw [← h4]; exact below_alloc _ _
  have i4 : IntsAt w4 (.slice (some ⟨w.heap.size + 1 + 1 + 1, 0, none⟩) 1 1) [5] := by rw [← h4, ← e3]; exact IntsAt.lit w3 [5] _
  rw [h4]
  obtain ⟨w5, h5⟩ : ∃ w5, w4.alloc (.cells #[.int .i64 1, .int .i64 5, .slice none 0 0, .int .i64 2, .int .i64 6, .slice (some ⟨w.heap.size + 1 + 1 + 1, 0, none⟩) 1 1] 50) = w5 := ⟨_, rfl⟩
  have b5 : Below w4.heap.size w4 w5 := by rw [← h5]; exact below_alloc _ _
  have i5 : RowsAt w5 3 csL (.slice (some ⟨w.heap.size + 1 + 1 + 1 + 1, 0, none⟩) 2 2) (ls21 w.heap.size) := by
    rw [← h5, ← e4]
    exact RowsAt.two (cs := csL) w4 50 ⟨1, 5, none, 0, []⟩ ⟨2, 6, some ⟨w.heap.size + 1 + 1 + 1, 0, none⟩, 1, [5]⟩ csL_len
  rw [h5]
  have b35 := b4.trans (b5.mono b4.size)
  have b25 := b3.trans (b35.mono b3.size)
  have b15 := b2.trans (b25.mono b2.size)
  refine ⟨⟨RowsAt.kept i3 b35, fun x hx => ?_⟩, ⟨i5, fun x hx => ?_⟩, b1.trans (b15.mono b1.size)⟩
  · simp only [xs21, List.mem_cons, List.not_mem_nil, or_false] at hx
    rcases hx with rfl | rfl
    · exact i1.below b15
    · exact i2.below b25
  · simp only [ls21, List.mem_cons, List.not_mem_nil, or_false] at hx
    rcases hx with rfl | rfl
    · exact ⟨none, 0, rfl, Nat.le_refl _, fun h => absurd h (by simp)⟩
    · exact i4.below b5
theorem b21 (n : Nat) : (∀ x ∈ xs21 n, x.want.length ≤ 1000) ∧ (∀ x ∈ ls21 n, x.wait.length ≤ 1000) ∧ (∀ x ∈ xs21 n, I64 x.token ∧ ∀ t ∈ x.want, I64 t) ∧ (∀ x ∈ ls21 n, I64 x.id ∧ I64 x.holder ∧ ∀ t ∈ x.wait, I64 t) := by
  refine ⟨fun x hx => ?_, fun x hx => ?_, fun x hx => ?_, fun x hx => ?_⟩
  all_goals simp only [xs21, ls21, List.mem_cons, List.not_mem_nil, or_false] at hx
  all_goals rcases hx with rfl | rfl
  all_goals simp [I64]
set_option maxHeartbeats 8000000 in
set_option maxRecDepth 100000 in
theorem alive21_any (w : World) : Calls Tryz.prog 6 #[] w fun e w' => e = .returned (.bool true) ∧ Below w.heap.size w w' := by
  obtain ⟨hx, hl, hb⟩ := lit21 w
  obtain ⟨f1, f2, f3, f4, f5⟩ := f21 w.heap.size
  obtain ⟨g1, g2, g3, g4⟩ := b21 w.heap.size
  have l1 : (xs21 w.heap.size).length = 2 := rfl
  have l2 : (ls21 w.heap.size).length = 2 := rfl
  have hw : w21 w = w21 w := rfl
  conv at hw => lhs; unfold w21
  generalize w21 w = w5 at *
  obtain ⟨XS, hXS⟩ : ∃ X, xs21 w.heap.size = X := ⟨_, rfl⟩
  obtain ⟨LS, hLS⟩ : ∃ X, ls21 w.heap.size = X := ⟨_, rfl⟩
  rw [hXS] at hx f1 f2 f3 f4 f5 g1 g3 l1
  rw [hLS] at hl f1 f2 f3 f4 f5 g2 g4 l2
  have i5 : I64 5 := by simp [I64]
  have KX := Lib.hid (show ∀ w', Below w5.heap.size w5 w' → LeasesAt w' (.slice (some ⟨w.heap.size + 1 + 1, 0, none⟩) 2 2) XS from fun w' hb => ⟨RowsAt.kept hx.rows hb, fun y hy => (hx.each y hy).below hb⟩)
  have KL := Lib.hid (show ∀ w', Below w5.heap.size w5 w' → LocksAt w' (.slice (some ⟨w.heap.size + 1 + 1 + 1 + 1, 0, none⟩) 2 2) LS from fun w' hb => hl.below hb)
  have CA := Lib.hid (show ∀ w', Below w5.heap.size w5 w' → Calls Tryz.prog 18 #[.slice (some ⟨w.heap.size + 1 + 1, 0, none⟩) 2 2, .slice (some ⟨w.heap.size + 1 + 1 + 1 + 1, 0, none⟩) 2 2] w' fun e w2 => ∃ v, e = .returned v ∧ OwnR w2 w'.heap.size 54 2 csArc v [⟨5, 6⟩] ∧ Below w'.heap.size w' w2 from fun w' hb => by
    rw [← f1]
    exact pArcs_any _ _ XS LS w' (KX.out w' hb) (KL.out w' hb) (by omega) (by omega) g1 (fun x h => (g3 x h).2) (fun x h => (g4 x h).1))
  have CR := Lib.hid (show ∀ w', Below w5.heap.size w5 w' → Calls Tryz.prog 13 #[.slice (some ⟨w.heap.size + 1 + 1, 0, none⟩) 2 2, .slice (some ⟨w.heap.size + 1 + 1 + 1 + 1, 0, none⟩) 2 2] w' fun e w2 => e = .returned (.bool true) ∧ Below w'.heap.size w' w2 from fun w' hb => by
    rw [← f2]
    exact pRight_any _ _ XS LS w' (KX.out w' hb) (KL.out w' hb) (by omega) (by omega) g1 g2 g3 g4)
  have CG := Lib.hid (show ∀ w', Below w5.heap.size w5 w' → Calls Tryz.prog 15 #[.slice (some ⟨w.heap.size + 1 + 1, 0, none⟩) 2 2, .slice (some ⟨w.heap.size + 1 + 1 + 1 + 1, 0, none⟩) 2 2] w' fun e w2 => e = .returned (.bool false) ∧ Below w'.heap.size w' w2 from fun w' hb => by
    rw [← f3]
    exact pRing_any _ _ XS LS w' (KX.out w' hb) (KL.out w' hb) (by omega) (by omega) g1 g3 (fun x h => ⟨(g4 x h).1, (g4 x h).2.1⟩))
  have CD := Lib.hid (show ∀ w', Below w5.heap.size w5 w' → Calls Tryz.prog 16 #[.slice (some ⟨w.heap.size + 1 + 1, 0, none⟩) 2 2, .slice (some ⟨w.heap.size + 1 + 1 + 1 + 1, 0, none⟩) 2 2] w' fun e w2 => ∃ v, e = .returned v ∧ IntsAt w2 v [6] ∧ Below w'.heap.size w' w2 from fun w' hb => by
    rw [← f4]
    exact pReady_any _ _ XS LS w' (KX.out w' hb) (KL.out w' hb) (by omega) (by omega) g1 g2 (fun x h => (g3 x h).2) (fun x h => (g4 x h).1))
  have CC := Lib.hid (show ∀ w', Below w5.heap.size w5 w' → Calls Tryz.prog 20 #[.slice (some ⟨w.heap.size + 1 + 1, 0, none⟩) 2 2, .slice (some ⟨w.heap.size + 1 + 1 + 1 + 1, 0, none⟩) 2 2, .int .i64 5] w' fun e w2 => ∃ v, e = .returned v ∧ IntsAt w2 v [5, 6] ∧ Below w'.heap.size w' w2 from fun w' hb => by
    rw [← f5]
    exact pChain_any _ _ XS LS 5 w' (KX.out w' hb) (KL.out w' hb) (by omega) (by omega) g1 g3 (fun x h => ⟨(g4 x h).1, (g4 x h).2.1⟩) i5)
  have C1 := Lib.hid (show ∀ va vb w1, IntsAt w1 va [6] → IntsAt w1 vb [6] → Calls Tryz.prog 19 #[va, vb] w1 fun e w' => e = .returned (.bool true) ∧ Below w1.heap.size w1 w' from fun va vb w1 ha hb => by
    have := refInts_any va vb [6] [6] w1 ha hb (by simp) (by simp)
    rwa [decide_eq_true rfl] at this)
  have C2 := Lib.hid (show ∀ va vb w1, IntsAt w1 va [5, 6] → IntsAt w1 vb [5, 6] → Calls Tryz.prog 19 #[va, vb] w1 fun e w' => e = .returned (.bool true) ∧ Below w1.heap.size w1 w' from fun va vb w1 ha hb => by
    have := refInts_any va vb [5, 6] [5, 6] w1 ha hb (by simp) (by simp)
    rwa [decide_eq_true rfl] at this)
  have L2 := Lib.hid (show ∀ (w : World) (a b : Int), IntsAt (w.alloc (.cells #[.int .i64 a, .int .i64 b] 3)) (.slice (some ⟨w.heap.size, 0, none⟩) 2 2) [a, b] from fun w a b => IntsAt.lit w [a, b] 3)
  have L1 := Lib.hid (show ∀ (w : World) (a : Int), IntsAt (w.alloc (.cells #[.int .i64 a] 3)) (.slice (some ⟨w.heap.size, 0, none⟩) 1 1) [a] from fun w a => IntsAt.lit w [a] 3)
  have HB0 := Lib.hid hb
  clear hx hl hb f1 f2 f3 f4 f5 g1 g2 g3 g4 l1 l2 hXS hLS i5 KX KL
  have HW := Lib.hid hw
  clear hw
  go_enter Tryz.func6, Tryz.ntmps6
  go_wp2_with (first
    | (go_at_call 18; rw [HW.out]; (with_reducible refine (CA.out _ (Below.refl _ _)).mono ?_); rintro e w6 ⟨va, rfl, h, b⟩; have h' := OwnR.rows csArc_len h; obtain ⟨a1, c1, e1⟩ := RowsAt.form h'; rw [show ([⟨5, 6⟩] : List Arc16).length = 1 from rfl] at e1; subst e1; have V1 := Lib.hid h'; have B6 := Lib.hid b; clear h h' b)
    | (go_at_call 13; (with_reducible refine (CR.out _ B6.out).mono ?_); rintro e w7 ⟨rfl, b⟩; have B7 := Lib.hid (B6.out.trans (b.mono B6.out.size)); obtain ⟨ga, oa, ca, ea, _, _, xa⟩ := (V1.out.kept b).spot 0 (by simp); rw [show ([⟨5, 6⟩] : List Arc16).length = 1 from rfl] at ea; cases ea; have xa0 := xa 0 (.int .i64 5) rfl; have xa1 := xa 1 (.int .i64 6) rfl; simp only [Nat.zero_mul, Nat.add_zero] at xa0 xa1; clear b xa)
    | (go_at_call 15; (with_reducible refine (CG.out _ B7.out).mono ?_); rintro e w8 ⟨rfl, b⟩; have B8 := Lib.hid (B7.out.trans (b.mono B7.out.size)); clear b)
    | (go_at_call 16; (with_reducible refine (CD.out _ B8.out).mono ?_); rintro e w9 ⟨v9, rfl, h, b⟩; have X9 := Lib.hid h; have B9 := Lib.hid (B8.out.trans (b.mono B8.out.size)); clear b h)
    | (go_at_call 19; (with_reducible refine (C2.out _ _ _ (XC.out.below (below_alloc _ _)) (L2.out _ 5 6)).mono ?_); rintro e wC ⟨rfl, b⟩; have BE := Lib.hid (BC.out.trans (((below_alloc _ _).trans (b.mono (below_alloc _ _).size)).mono BC.out.size)); clear b)
    | (go_at_call 19; (with_reducible refine (C1.out _ _ _ (X9.out.below (below_alloc _ _)) (L1.out _ 6)).mono ?_); rintro e wA ⟨rfl, b⟩; have BA := Lib.hid (B9.out.trans (((below_alloc _ _).trans (b.mono (below_alloc _ _).size)).mono B9.out.size)); clear b)
    | (go_at_call 20; (with_reducible refine (CC.out _ BA.out).mono ?_); rintro e wB ⟨vC, rfl, h, b⟩; have XC := Lib.hid h; have BC := Lib.hid (BA.out.trans (b.mono BA.out.size)); clear b h))
  go_ret
  exact ⟨rfl, HB0.out.trans (BE.out.mono HB0.out.size)⟩
end Go.Proofs.YtjmgokjljmmmgaaGreat
/- A range over a map with keys of kind int (XMapG): which keys are still to come, told as a property of numbers; maps to pointers. FOR ALL STAGES WITH MAPS. -/
namespace Go.Proofs.YtjmgokjljmmmgaaGreat
open Go.RowKit Go.Maps

theorem key_same (a b : Int) : (Lit.int .i64 a).sameKey (.int .i64 b) = decide (a = b) := by
  by_cases h : a = b
  · subst h
    simp [Lit.sameKey]
  · rw [decide_eq_false h]
    exact Maps.sameKey_ne (kl_ne h)
theorem i64_of_wf {n : Int} (h : (Lit.int .i64 n).wf = true) : I64 n := by
  simp [Lit.wf, IntKind.min, IntKind.max, IntKind.signed, IntKind.bits] at h
  unfold I64
  omega
section
variable {P : Program} {kt e : TypeId} (E : Elt P e)
/-- a range over the map in block b is under way, its iterator in block r: of the keys S are still to come, cnt of them -/
def RngG (kt : TypeId) (w : World) (b r m : Nat) (g : Int → Option E.α) (S : Int → Prop) (cnt : Nat) : Prop :=
  ∃ D left, w.ranges P kt E.R b r m D left cnt ∧ Maps.size D = m ∧ (∀ id, I64 id → match g id with
    | none => Maps.has D (.int .i64 id) = false
    | some x => Maps.has D (.int .i64 id) = true ∧ ∀ z, D.atKey (.int .i64 id) z = E.enc x) ∧ (∀ id, I64 id → (left (.int .i64 id) = true ↔ S id)) ∧ ∀ id, I64 id → S id → (g id).isSome = true
variable {E} {w w' : World} {b r m cnt : Nat} {g : Int → Option E.α} {S : Int → Prop}
theorem RngG.map (h : RngG E kt w b r m g S cnt) : MapG E kt w b m g := by
  obtain ⟨D, left, h1, h2, h3, _⟩ := h
  exact ⟨D, h1.owns, h2, h3⟩
theorem RngG.same (h : RngG E kt w b r m g S cnt) (hb : w'.heap[b]? = w.heap[b]?) (hr : w'.heap[r]? = w.heap[r]?) : RngG E kt w' b r m g S cnt := by
  obtain ⟨D, left, ⟨es, clock, since, seen, c0, h1, h2, h3, h4, h5, h6⟩, h7⟩ := h
  exact ⟨D, left, ⟨es, clock, since, seen, c0, hb.trans h1, h2, h3, h4, hr.trans h5, h6⟩, h7⟩
theorem RngG.grown {row : Option Nat} (h : RngG E kt w b r m g S cnt) (hg : w.grownBy w' row) (hb : some b ≠ row) (hr : some r ≠ row) : RngG E kt w' b r m g S cnt := by
  obtain ⟨D, left, h1, h2⟩ := h
  exact ⟨D, left, h1.kept hg hb hr, h2⟩
theorem RngG.kept (h : RngG E kt w b r m g S cnt) (hb : Below w.heap.size w w') : RngG E kt w' b r m g S cnt :=
  h.grown (row := none) ⟨hb.os, hb.tape, hb.output, hb.size, fun k hk _ => hb.block k hk⟩ (by simp) (by simp)
theorem RngG.lt (h : RngG E kt w b r m g S cnt) : r < w.heap.size := by
  obtain ⟨D, left, h1, _⟩ := h
  exact h1.lt
theorem RngG.left (h : RngG E kt w b r m g S cnt) : w.rangeLeft b r = cnt := by
  obtain ⟨D, left, h1, _⟩ := h
  exact h1.left_eq
variable {ops : Array Oper} {rest : List Oper} {o : Oper} {a : Act} {Q : Exit → Act → World → Prop}
theorem wpList_rangeG (hg : o.guard = none) (mo : Operand) (t : TypeId) (hop : o.op = Op.range t mo) (hk : P.underlying kt = some (.int .i64)) (ht : P.underlying t = some (.map kt e)) (hm : a.eval mo = .map (some b)) (h : MapG E kt w b m g)
    (hK : ∀ w', RngG E kt w' b w.heap.size m g (fun id => (g id).isSome = true) m → w.grownBy w' none → w'.heap.size = w.heap.size + 1 → wpList P ops Q rest (a.put o.dst (.pointer (some ⟨w.heap.size, 0, none⟩))) w') : wpList P ops Q (o :: rest) a w := by
  obtain ⟨D, h1, h2, h3⟩ := h
  refine wpList_range_own w hg mo t hop kt e (int_keyed hk) ht E.R b m D hm h1 fun w' k1 k2 k3 => hK w' ⟨D, _, h2 ▸ k1, h2, h3, fun id hi => ?_, fun id _ h => h⟩ k2 k3
  have := h3 id hi
  cases hgi : g id with
  | none =>
    rw [hgi] at this
    simp only at this
    rw [this]
    simp [hgi]
  | some x =>
    rw [hgi] at this
    rw [this.1]
    simp [hgi]
theorem wpList_nextG (hinv : ∀ v y, E.R v = some y → ∃ c, v = E.val c) (hg : o.guard = none) (it : Operand) (hop : o.op = Op.next it false) (hk : P.underlying kt = some (.int .i64)) (hit : a.eval it = .pointer (some ⟨r, 0, none⟩)) (h : RngG E kt w b r m g S cnt)
    (hDone : (∀ id, I64 id → ¬ S id) → wpList P ops Q rest (a.put o.dst (.tuple #[.bool false])) w)
    (hMore : ∀ (id : Int) (x : E.α) (w' : World) (cnt' : Nat), I64 id → S id → g id = some x → RngG E kt w' b r m g (fun z => S z ∧ z ≠ id) cnt' → cnt' < cnt → w.grownBy w' (some r) → w'.heap.size = w.heap.size →
      (Instr.entry (.pointer (some ⟨r, 0, none⟩))).run P w' = .ok (.tuple #[.int .i64 id, E.val x]) w' → wpList P ops Q rest (a.put o.dst (.tuple #[.bool true, .int .i64 id, E.val x])) w') : wpList P ops Q (o :: rest) a w := by
  obtain ⟨D, left, h1, h2, h3, h4, h5⟩ := h
  refine wpList_next_ranges w hg it hop kt (int_keyed hk) E.R (Value.int .i64) E.val (fun key kl hkey => by obtain ⟨x, rfl, _⟩ := Maps.keyOf_int_inv hk hkey; exact ⟨x, rfl⟩) hinv b r m D left cnt hit h1
    (fun _ hl => hDone fun id hi hs => by have := (h4 id hi).2 hs; rw [hl] at this; cases this) fun id c kl y w' cnt' hkey hlk hv hat hrg hlt hgr hsz hen => ?_
  obtain ⟨x', ex, rfl, hwx⟩ := Maps.keyOf_int_inv hk hkey
  cases ex
  have hi := i64_of_wf hwx
  have hs := (h4 id hi).1 hlk
  have h6 := h5 id hi hs
  obtain ⟨x, hx⟩ := Option.isSome_iff_exists.1 h6
  have h7 := h3 id hi
  rw [hx] at h7
  have hy : y.1 = E.enc x := (hat (.lit (.int .i64 0))).symm.trans (h7.2 _)
  have ev : E.val c = E.val x := E.inv (E.val c) x y.2 (by rw [hv, ← hy])
  rw [ev] at hen ⊢
  refine hMore id x w' cnt' hi hs hx ⟨D, _, hrg, h2, h3, fun z hz => ?_, fun z hz hs => h5 z hz hs.1⟩ hlt hgr hsz hen
  rw [key_same, Bool.and_eq_true, h4 z hz]
  simp
end

/-! ### Pointers -/
def readP : Value → Option (DataW Unit × List MemPlace)
  | .pointer none => some (.lit (.int .i64 (-1)), [])
  | .pointer (some ⟨b, 0, none⟩) => some (.lit (.int .i64 (b : Int)), [])
  | _ => none
def encP (x : Option Nat) : DataW Unit := .lit (.int .i64 (match x with | none => -1 | some b => (b : Int)))
def ptv (x : Option Nat) : Value := .pointer (x.map fun b => ⟨b, 0, none⟩)
theorem encP_inj {x y : Option Nat} (h : encP x = encP y) : x = y := by
  simp only [encP, DataW.lit.injEq, Lit.int.injEq, true_and] at h
  cases x <;> cases y <;> simp only at h
  · rfl
  · omega
  · omega
  · rw [Int.ofNat.inj h]
theorem readP_inv (v : Value) (y : DataW Unit × List MemPlace) (h : readP v = some y) : ∃ c, v = ptv c ∧ y = (encP c, []) := by
  unfold readP at h
  split at h
  · exact ⟨none, rfl, (Option.some.inj h).symm⟩
  · exact ⟨some _, rfl, (Option.some.inj h).symm⟩
  · cases h
noncomputable def EP (t : TypeId) (hz : ∀ w, (zeroValue t).run Tryz.prog w = .ok (.pointer none) w) : Elt Tryz.prog t where
  α := Option Nat
  val := ptv
  enc := encP
  ok := fun _ => True
  z := none
  R := readP
  out := fun x _ => by cases x <;> rfl
  inv := fun v x ps h => by
    obtain ⟨c, h1, h2⟩ := readP_inv v _ h
    rw [h1, encP_inj (congrArg Prod.fst h2)]
  okz := trivial
  hz := hz
end Go.Proofs.YtjmgokjljmmmgaaGreat
/- What the laws of layer 19 lean on: the program's contracts, as one structure; alive. -/
namespace Go.Proofs.YtjmgokjljmmmgaaGreat
open Go.RowKit

structure Lq where
  id : Int
  holder : Int
  wait : List Int
section
variable {w w1 : World} {p : Value} {q : Lq} {bs : List Bes}
end

end Go.Proofs.YtjmgokjljmmmgaaGreat
/- Stage 18's program: a ring of 1024 numbers; a gap that is closed. -/
namespace Go.Proofs.YtjmgokjljmmmgaaGreat
open Go.RowKit

/-- from place f on the ring has the numbers of l -/
structure RingIs (R : List Int) (f : Nat) (l : List Int) : Prop where
  len : R.length = 1024
  fl : f < 1024
  le : l.length ≤ 1024
  at_ : ∀ k, k < l.length → R[(f + k) % 1024]? = l[k]?
/-- .. but for a gap at j -/
structure GapR (R : List Int) (f : Nat) (U : List Int) (j : Nat) : Prop where
  len : R.length = 1024
  fl : f < 1024
  le : U.length + 1 ≤ 1024
  jl : j ≤ U.length
  at_ : ∀ k, k ≤ U.length → k ≠ j → R[(f + k) % 1024]? = U[if k < j then k else k - 1]?
theorem RingIs.nil {R : List Int} {f : Nat} (h1 : R.length = 1024) (h2 : f < 1024) : RingIs R f [] := ⟨h1, h2, by simp, fun k h => by simp at h⟩
theorem RingIs.put {R : List Int} {f : Nat} {l : List Int} (h : RingIs R f l) (hl : l.length < 1024) (x : Int) : RingIs (R.set ((f + l.length) % 1024) x) f (l ++ [x]) := by
  refine ⟨by rw [List.length_set]; exact h.len, h.fl, by simp; omega, fun k hk => ?_⟩
  rw [List.length_append, List.length_singleton] at hk
  have hf := h.fl
  rw [List.getElem?_set]
  by_cases e : k = l.length
  · subst e
    rw [if_pos rfl, if_pos (by rw [h.len]; omega), List.getElem?_append_right (Nat.le_refl _), Nat.sub_self]
    rfl
  · rw [if_neg (by omega), h.at_ k (by omega), List.getElem?_append_left (by omega)]
theorem GapR.start {R : List Int} {f : Nat} {l : List Int} (h : RingIs R f l) {j : Nat} (hj : j < l.length) : GapR R f (l.eraseIdx j) j := by
  have hl : (l.eraseIdx j).length = l.length - 1 := List.length_eraseIdx_of_lt hj
  have hle := h.le
  refine ⟨h.len, h.fl, by omega, by omega, fun k hk hne => ?_⟩
  rw [h.at_ k (by omega), List.getElem?_eraseIdx]
  by_cases hkj : k < j
  · rw [if_pos hkj, if_pos hkj]
  · rw [if_neg hkj, if_neg (by omega)]
    congr 1
    omega
theorem GapR.step {R : List Int} {f : Nat} {U : List Int} {j : Nat} (h : GapR R f U (j + 1)) {y : Int} (hy : R[(f + j) % 1024]? = some y) : GapR (R.set ((f + (j + 1)) % 1024) y) f U j := by
  have hf := h.fl
  have hle := h.le
  have hj := h.jl
  have h0 := h.at_ j (by omega) (by omega)
  rw [hy, if_pos (by omega)] at h0
  refine ⟨by rw [List.length_set]; exact h.len, h.fl, h.le, by omega, fun k hk hne => ?_⟩
  rw [List.getElem?_set]
  by_cases e : k = j + 1
  · subst e
    rw [if_pos rfl, if_pos (by rw [h.len]; omega), if_neg (by omega), Nat.add_sub_cancel]
    exact h0
  · rw [if_neg (by omega), h.at_ k hk e]
    by_cases hkj : k < j
    · rw [if_pos hkj, if_pos (by omega)]
    · rw [if_neg hkj, if_neg (by omega)]
theorem GapR.stop {R : List Int} {f : Nat} {U : List Int} (h : GapR R f U 0) : RingIs R ((f + 1) % 1024) U := by
  have hf := h.fl
  have hle := h.le
  refine ⟨h.len, by omega, by omega, fun k hk => ?_⟩
  have := h.at_ (k + 1) (by omega) (by omega)
  rw [if_neg (by omega), Nat.add_sub_cancel] at this
  rw [← this]
  congr 1
  omega
theorem drop_erase {l : List Int} (hn : l.Nodup) (x : Int) : l.eraseIdx (l.idxOf x) = dropF l x := by
  rw [← List.erase_eq_eraseIdx_of_idxOf rfl, hn.erase_eq_filter]
  unfold dropF
  congr 1
  funext y
  by_cases h : y = x <;> simp [h]
theorem drop_head {x : Int} {l : List Int} (hn : (x :: l).Nodup) : dropF (x :: l) x = l := by
  rw [← drop_erase hn, List.idxOf_cons_self]
  rfl
theorem drop_none {l : List Int} {x : Int} (h : x ∉ l) : dropF l x = l := List.filter_eq_self.2 fun _ hy => decide_eq_true fun e => h (e ▸ hy)
theorem drop_nodup {l : List Int} (hn : l.Nodup) (x : Int) : (dropF l x).Nodup := hn.filter _
/-- the numbers of a map of bools -/
def setB (l : List Int) : Int → Option Bool := fun x => if x ∈ l then some true else none
theorem setB_in {l : List Int} {x : Int} (h : x ∈ l) : setB l x = some true := if_pos h
theorem setB_not {l : List Int} {x : Int} (h : x ∉ l) : setB l x = none := if_neg h
theorem setB_get (l : List Int) (x : Int) : (setB l x).getD false = inL l x := by
  by_cases h : x ∈ l
  · rw [setB_in h, inL_iff.2 h]; rfl
  · rw [setB_not h, inL_not.2 h]; rfl
theorem setB_put (l : List Int) (x : Int) : updG (setB l) x (some true) = setB (l ++ [x]) := by
  funext k
  unfold updG setB
  by_cases h : k = x
  · subst h; simp
  · simp [h]
theorem setB_del (l : List Int) (x : Int) : updG (setB l) x none = setB (dropF l x) := by
  funext k
  unfold updG setB
  by_cases h : k = x
  · subst h; simp [dropF_mem]
  · simp [h, dropF_mem]

/-- the cells of a queue -/
def qc (R : List Int) (f : Nat) (room : Int) (m : Nat) : List Value := R.map (Value.int .i64) ++ [.int .i64 (f : Int), .int .i64 room, .map (some m)]
section
variable {R : List Int} {f : Nat} {room : Int} {m : Nat}
theorem qc_at {k : Nat} {x : Int} (hx : R[k]? = some x) : (qc R f room m)[k]? = some (.int .i64 x) := by
  have hk : k < R.length := (List.getElem?_eq_some_iff.1 hx).1
  unfold qc
  rw [List.getElem?_append_left (by rw [List.length_map]; exact hk), List.getElem?_map, hx]
  rfl
theorem qc_rest (h : R.length = 1024) (k : Nat) : (qc R f room m)[1024 + k]? = [Value.int .i64 (f : Int), .int .i64 room, .map (some m)][k]? := by
  unfold qc
  rw [List.getElem?_append_right (by rw [List.length_map]; omega), List.length_map, h, Nat.add_sub_cancel_left]
theorem qc_set (h : R.length = 1024) {k : Nat} (hk : k < 1024) (x : Int) : (qc R f room m).set k (.int .i64 x) = qc (R.set k x) f room m := by
  unfold qc
  rw [List.set_append_left _ _ (by rw [List.length_map]; omega), List.map_set]
theorem qc_setf (h : R.length = 1024) (g : Nat) : (qc R f room m).set 1024 (.int .i64 (g : Int)) = qc R g room m := by
  unfold qc
  rw [List.set_append_right _ _ (by rw [List.length_map]; omega), List.length_map, h]
  rfl
end
end Go.Proofs.YtjmgokjljmmmgaaGreat
/- Stage 18's program: a queue in memory; has, place, Len, Room, First, At. -/
namespace Go.Proofs.YtjmgokjljmmmgaaGreat
open Go.RowKit

abbrev ptr18 (p : Nat) : Value := .pointer (some ⟨p, 0, none⟩)
/-- the queue's block and its map of n numbers -/
structure FqRaw (w : World) (p m : Nat) (R : List Int) (f : Nat) (room : Int) (n : Nat) (g : Int → Option Bool) : Prop where
  blk : Blk w p (qc R f room m)
  map : MapB w m n g
  len : R.length = 1024
section
variable {w w' : World} {p m : Nat} {R : List Int} {f : Nat} {room : Int} {n : Nat} {g : Int → Option Bool}
theorem FqRaw.ring (h : FqRaw w p m R f room n g) {k : Nat} {x : Int} (hx : R[k]? = some x) : w.cell? ⟨p, k, none⟩ = some (.int .i64 x) := h.blk.cell k (qc_at hx)
theorem FqRaw.free (h : FqRaw w p m R f room n g) {k : Nat} {x : Int} (hx : R[k]? = some x) : w.frozen? ⟨p, k, none⟩ = false := h.blk.free k (qc_at hx)
theorem FqRaw.fst (h : FqRaw w p m R f room n g) : w.cell? ⟨p, 1024, none⟩ = some (.int .i64 (f : Int)) := h.blk.cell 1024 (qc_rest h.len 0)
theorem FqRaw.fst_free (h : FqRaw w p m R f room n g) : w.frozen? ⟨p, 1024, none⟩ = false := h.blk.free 1024 (qc_rest h.len 0)
theorem FqRaw.room_ (h : FqRaw w p m R f room n g) : w.cell? ⟨p, 1025, none⟩ = some (.int .i64 room) := h.blk.cell 1025 (qc_rest h.len 1)
theorem FqRaw.in_ (h : FqRaw w p m R f room n g) : w.cell? ⟨p, 1026, none⟩ = some (.map (some m)) := h.blk.cell 1026 (qc_rest h.len 2)
theorem FqRaw.lt (h : FqRaw w p m R f room n g) : p < w.heap.size := World.block_lt_of_cell? w ⟨p, 1024, none⟩ h.fst
theorem FqRaw.ne (h : FqRaw w p m R f room n g) : m ≠ p := h.map.ne_cell h.fst
theorem FqRaw.same (h : FqRaw w p m R f room n g) (h1 : w'.heap[p]? = w.heap[p]?) (h2 : w'.heap[m]? = w.heap[m]?) : FqRaw w' p m R f room n g := ⟨h.blk.same h1, h.map.same h2, h.len⟩
theorem FqRaw.kept (h : FqRaw w p m R f room n g) (hb : Below w.heap.size w w') : FqRaw w' p m R f room n g := h.same (hb.block p h.lt) (hb.block m h.map.lt)
theorem FqRaw.put (h : FqRaw w p m R f room n g) {k : Nat} (hk : k < 1024) (x : Int) : FqRaw (w.setCell ⟨p, k, none⟩ (.int .i64 x)) p m (R.set k x) f room n g :=
  ⟨by have := h.blk.set k (.int .i64 x); rwa [qc_set h.len hk] at this, h.map.away _ _ h.ne, by rw [List.length_set]; exact h.len⟩
theorem FqRaw.move (h : FqRaw w p m R f room n g) (f' : Nat) : FqRaw (w.setCell ⟨p, 1024, none⟩ (.int .i64 (f' : Int))) p m R f' room n g :=
  ⟨by have := h.blk.set 1024 (.int .i64 (f' : Int)); rwa [qc_setf h.len] at this, h.map.away _ _ h.ne, h.len⟩
theorem FqRaw.mapped {n' : Nat} {g' : Int → Option Bool} (h : FqRaw w p m R f room n g) (hm : MapB w' m n' g') (hg : w.grownBy w' (some m)) : FqRaw w' p m R f room n' g' :=
  ⟨h.blk.same (hg.block p h.lt fun e => h.ne (Option.some.inj e).symm), hm, h.len⟩

theorem fHas_any {l : List Int} (x : Int) (h : FqRaw w p m R f room n (setB l)) (hx : I64 x) : Calls Tryz.prog 107 #[ptr18 p, .int .i64 x] w fun e w' => e = .returned (.bool (inL l x)) ∧ w = w' := by
  have c3 := h.in_
  have hm := h.map.look1 hx
  rw [setB_get] at hm
  generalize inL l x = t at *
  clear h hx
  go_enter Tryz.func107, Tryz.ntmps107
  go_wp2
  go_ret
  exact ⟨rfl, rfl⟩
theorem fHas_nil (x : Int) (w : World) : Calls Tryz.prog 107 #[.pointer none, .int .i64 x] w fun e w' => e = .returned (.bool false) ∧ w = w' := by
  go_enter Tryz.func107, Tryz.ntmps107
  go_wp2
  go_ret
  exact ⟨rfl, rfl⟩
theorem fPlace_any (k : Nat) (h : FqRaw w p m R f room n g) (hf : f < 1024) (hk : k ≤ 1024) : Calls Tryz.prog 93 #[ptr18 p, .int .i64 (k : Int)] w fun e w' => e = .returned (.int .i64 (((f + k) % 1024 : Nat) : Int)) ∧ w = w' := by
  have c1 := h.fst
  obtain ⟨t, ht⟩ : ∃ t, (f + k) % 1024 = t := ⟨_, rfl⟩
  have hr : ((f : Int) + (k : Int)) % 1024 = (t : Int) := by omega
  rw [ht]
  have f0 : (0 : Int) ≤ (f : Int) := by omega
  have f1 : (f : Int) < 1024 := by omega
  have k0 : (0 : Int) ≤ (k : Int) := by omega
  have k1 : (k : Int) ≤ 1024 := by omega
  clear h ht hf hk
  go_enter Tryz.func93, Tryz.ntmps93
  go_wp2
  go_ret
  exact ⟨ret_i hr, rfl⟩
theorem fLen_any (h : FqRaw w p m R f room n g) : Calls Tryz.prog 92 #[ptr18 p] w fun e w' => e = .returned (.int .i64 (n : Int)) ∧ w = w' := by
  have c3 := h.in_
  have HM := Lib.hid h.map
  clear h
  go_enter Tryz.func92, Tryz.ntmps92
  go_wp2_with (at_len; refine wpList_lenB rfl _ rfl rfl HM.out ?_)
  go_ret
  exact ⟨rfl, rfl⟩
theorem fLen_nil (w : World) : Calls Tryz.prog 92 #[.pointer none] w fun e w' => e = .returned (.int .i64 0) ∧ w = w' := by
  go_enter Tryz.func92, Tryz.ntmps92
  go_wp2
  go_ret
  exact ⟨rfl, rfl⟩
theorem fRoom_any (h : FqRaw w p m R f room n g) : Calls Tryz.prog 108 #[ptr18 p] w fun e w' => e = .returned (.int .i64 room) ∧ w = w' := by
  have c3 := h.room_
  clear h
  go_enter Tryz.func108, Tryz.ntmps108
  go_wp2
  go_ret
  exact ⟨rfl, rfl⟩
theorem fRoom_nil (w : World) : Calls Tryz.prog 108 #[.pointer none] w fun e w' => e = .returned (.int .i64 0) ∧ w = w' := by
  go_enter Tryz.func108, Tryz.ntmps108
  go_wp2
  go_ret
  exact ⟨rfl, rfl⟩

set_option maxHeartbeats 1000000 in
theorem fFirst_any {l : List Int} (h : FqRaw w p m R f room l.length (setB l)) (hr : RingIs R f l) : Calls Tryz.prog 89 #[ptr18 p] w fun e w' => e = .returned (.tuple #[.int .i64 (hdF l).1, .bool (hdF l).2]) ∧ Below w.heap.size w w' := by
  have H1 := Lib.hid (fLen_any h)
  cases l with
  | nil =>
    clear h hr
    go_enter Tryz.func89, Tryz.ntmps89
    go_wp2_with (go_at_call 92; (with_reducible refine H1.out.mono ?_); rintro e w1 ⟨rfl, rfl⟩)
    exact bodyPost_ret (v := .tuple #[.int .i64 0, .bool false]) (by simp [results, Tryz.results89, go_sem]) rfl ⟨rfl, Below.refl _ _⟩
  | cons x t =>
    have hx : R[f]? = some x := by
      have := hr.at_ 0 (by simp)
      have hf := hr.fl
      rwa [Nat.add_zero, Nat.mod_eq_of_lt hf] at this
    have c0 := h.ring hx
    have c1 := h.fst
    have f0 : (0 : Int) ≤ (f : Int) := by omega
    have f1 : (f : Int) < 1024 := by have := hr.fl; omega
    have hl : (((x :: t).length : Int) == 0) = false := beq_noI (by simp; omega)
    generalize (x :: t).length = n at *
    clear h hr hx
    simp only [hdF]
    go_enter Tryz.func89, Tryz.ntmps89
    go_wp2_with (go_at_call 92; (with_reducible refine H1.out.mono ?_); rintro e w1 ⟨rfl, rfl⟩)
    refine wp_region_calm0 (by kernel_rfl) (by kernel_rfl) fun M => ?_
    have m0 := fun n : In M.w => n.cell (M.cell c0)
    have m1 := fun n : In M.w => n.cell (M.cell c1)
    repeat (go_big_quiet_step (fail))
    refine wpQuiet_nil ?_
    clear m0 m1 M
    intro w1 hb
    have HB1 := Lib.hid hb
    clear hb
    go_wp2
    exact bodyPost_ret (v := .tuple #[.int .i64 x, .bool true]) (by simp [results, Tryz.results89, go_sem]) rfl ⟨rfl, HB1.out⟩
theorem fFirst_nil (w : World) : Calls Tryz.prog 89 #[.pointer none] w fun e w' => e = .returned (.tuple #[.int .i64 0, .bool false]) ∧ Below w.heap.size w w' := by
  have H1 := Lib.hid (fLen_nil w)
  go_enter Tryz.func89, Tryz.ntmps89
  go_wp2_with (go_at_call 92; (with_reducible refine H1.out.mono ?_); rintro e w1 ⟨rfl, rfl⟩)
  exact bodyPost_ret (v := .tuple #[.int .i64 0, .bool false]) (by simp [results, Tryz.results89, go_sem]) rfl ⟨rfl, Below.refl _ _⟩
end
end Go.Proofs.YtjmgokjljmmmgaaGreat
