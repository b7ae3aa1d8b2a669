/- Texts of this proof, joined: WpL; WpN; WaLawA; WaLaw; OpenBss; OpenLocks; OpenLeases; WaTellsAll. -/
import Derived.Test.YtjmgokjljmmmgaaBun19
import Derived.Laws.EntriesVeiled
import Derived.Lib.SmallJoins
import Derived.ChangeArms
import Derived.Deep.Strs
/- Stage 21's program: Chain. -/
namespace Go.Proofs.Ytjmgokjljmmmgaa
open Go.RowKit Go.Maps

theorem headW_old {A : List Arc16} {x : Arc16} (h : (headW A x.src).isSome = true) : headW (A ++ [x]) = headW A := by
  funext n
  unfold headW
  rw [List.find?_append]
  by_cases e : x.src = n
  · subst e
    unfold headW at h
    cases hf : A.find? (fun a => a.src == x.src) with
    | none => rw [hf] at h; cases h
    | some a => rfl
  · rw [List.find?_cons_of_neg (by simpa using e)]
    simp
theorem headW_new {A : List Arc16} {x : Arc16} (h : (headW A x.src).isSome = false) : updG (headW A) x.src (some x.dst) = headW (A ++ [x]) := by
  funext n
  unfold headW at h ⊢
  rw [List.find?_append]
  by_cases e : n = x.src
  · subst e
    rw [updG_same]
    cases hf : A.find? (fun a => a.src == x.src) with
    | none => simp
    | some a => rw [hf] at h; cases h
  · rw [updG_other _ _ e, List.find?_cons_of_neg (by simpa using fun h => e h.symm)]
    simp
set_option maxHeartbeats 8000000 in
set_option maxRecDepth 100000 in
theorem pChain_any (vx vl : Value) (Xs : List Le) (Ls : List Lr) (t : Int) (W : World) (hx : LeasesAt W vx Xs) (hl : LocksAt W vl Ls) (hxl : Xs.length ≤ 100) (hll : Ls.length ≤ 1000) (hxw : ∀ x ∈ Xs, x.want.length ≤ 1000) (hx64 : ∀ x ∈ Xs, I64 x.token ∧ ∀ t ∈ x.want, I64 t) (hl64 : ∀ x ∈ Ls, I64 x.id ∧ I64 x.holder) (ht : I64 t) :
    Calls Try.prog 14 #[vx, vl, .int .i64 t] W fun e w' => ∃ v, e = .returned v ∧ IntsAt w' v (chainW Xs Ls t) ∧ Below W.heap.size W w' := by
  have hmf : ∀ (fn : Fn) (first cap : Array Value) (w : World), (Instr.makeFunc fn first cap).run Try.prog w = .ok (.func fn first cap) w := fun _ _ _ _ => rfl
  have hch : chainW Xs Ls t = chainC (headW (arcsW Xs Ls)) t (arcsW Xs Ls).length := rfl
  rw [hch]
  have HA := Lib.hid fun (w' : World) (hb : Below W.heap.size W w') => pArcs_any vx vl Xs Ls w' ⟨RowsAt.kept hx.rows hb, fun y hy => (hx.each y hy).below hb⟩ (hl.below hb) (by omega) hll hxw (fun x h => (hx64 x h).2) (fun x h => (hl64 x h).1)
  have hal : (arcsW Xs Ls).length ≤ 100 := Nat.le_trans (arcs_len Xs Ls) hxl
  have h64 := arcs_64 (Xs := Xs) (Ls := Ls) (fun x h => (hx64 x h).1) (fun x h => (hl64 x h).2)
  generalize arcsW Xs Ls = A at *
  obtain ⟨R, hR⟩ : ∃ R, chainC (headW A) t A.length = R := ⟨_, rfl⟩
  have GF := Lib.hid fun (b mb m : Nat) (w' : World) (h1 : Blk w' b [.map (some mb)]) (h2 : MapI w' mb m (headW A)) => pFollow_any A b mb m t w' h1 h2 ht (fun a ha => (h64 a ha).2) hal
  simp only [hR] at GF ⊢
  have HAL := Lib.hid hal
  have HA64 := Lib.hid h64
  have hmk : (Instr.makeMap 52 none).run Try.prog W = .ok (.map (some W.heap.size)) (W.alloc (.map #[] 0)) := by kernel_rfl
  have hz : (W.alloc (.map #[] 0)).heap.size = W.heap.size + 1 := by simp
  have hal1 := (Below.refl W.heap.size W).alloc (Nat.le_refl _) (.map #[] 0)
  have hal2 := (Below.refl (W.alloc (.map #[] 0)).heap.size (W.alloc (.map #[] 0))).alloc (Nat.le_refl _) (.cells #[.map (some W.heap.size)] 52)
  have hX := Blk.new (W.alloc (.map #[] 0)) [.map (some W.heap.size)] 52
  rw [hz] at hX
  have hm0 := MapG.kept (MapI.new W) hal2
  have HB0 := Lib.hid (hal1.trans (hal2.mono hal1.size))
  clear hx hl hxl hll hxw hx64 hl64 ht hch hal h64 hR hal1 hal2 hz
  go_enter Try.func14, Try.ntmps14
  go_upto_region 2 with fail
  clear hmk
  generalize (W.alloc (.map #[] 0)).alloc (.cells #[.map (some W.heap.size)] 52) = w1 at *
  have HX1 := Lib.hid (show Blk w1 (W.heap.size + 1) [.map (some W.heap.size)] from hX)
  have HM1 := Lib.hid (show MapI w1 W.heap.size 0 (fun _ => none) from hm0)
  clear hX hm0
  go_wp2_with (go_at_call 11; (with_reducible refine (HA.out _ HB0.out).mono ?_); rintro e w2 ⟨va, rfl, h1, b1⟩; obtain ⟨aa, ca, ea⟩ := RowsAt.form (OwnR.rows csArc_len h1); subst ea; have H1 := Lib.hid h1; have HB1 := Lib.hid b1; clear h1 b1)
  have HOW := Lib.hid (show ∀ k, (Value.slice aa A.length ca).ownBlock = some k → k ≠ W.heap.size from fun k hk e => by
    have := (OwnR.lt H1.out k hk).1
    have := HX1.out.lt
    omega)
  have HX2 := Lib.hid (HX1.out.kept HB1.out)
  have HM2 := Lib.hid (MapG.kept HM1.out HB1.out)
  have HB2 := Lib.hid (HB0.out.trans (HB1.out.mono HB0.out.size))
  have hon := Only.refl (fun j => j = W.heap.size) w2
  go_loopg [17] A.length (fun kx iv ws => ∃ (k m : Nat), k ≤ A.length ∧ A.length - k ≤ kx ∧ iv = .int .i64 k ∧ Hid (m ≤ k) ∧ Hid (MapI ws W.heap.size m (headW (A.take k))) ∧ Hid (Only (fun j => j = W.heap.size) w2 ws))
  case atStart => exact ⟨0, 0, Nat.zero_le _, Nat.le_refl _, rfl, Nat.le_refl _, HM2.out, hon⟩
  case round =>
    clear hon
    obtain ⟨k, m, hk, hkx, rfl, HMM, HMI, HON⟩ := hrel
    have hBW := HON.out.below (B := W.heap.size) (fun j hj => by rw [hj]; exact Nat.le_refl _) HB2.out.size
    have HBW := Lib.hid (HB2.out.trans hBW)
    have HXW := Lib.hid (HX2.out.same (HON.out.block _ HX2.out.lt (by omega)))
    have harc : ArcsAt wr (.slice aa A.length ca) A := RowsAt.same (OwnR.rows csArc_len H1.out) HON.out.size fun h0 g hg => HON.out.block g (OwnR.lt H1.out g hg).2 (HOW.out g hg)
    clear hBW
    by_cases hlt : k < A.length
    · have HLT := Lib.hid (And.intro hlt hkx)
      have k0 : (0 : Int) ≤ (k : Int) := by omega
      have k1 : (k : Int) < (A.length : Int) := by omega
      have k2 : (k : Int) ≤ 100 := by have := HAL.out; omega
      obtain ⟨g, o, cc, e, z0, z1, hx⟩ := harc.spot k hlt
      cases e
      clear z0 z1
      have p0 := hx 0 (.int .i64 (A[k]'hlt).src) rfl
      have p1 := hx 1 (.int .i64 (A[k]'hlt).dst) rfl
      simp only [Nat.add_zero] at p0
      have h64 := HA64.out _ (List.getElem_mem hlt)
      have hsn : A.take (k + 1) = A.take k ++ [A[k]] := List.take_succ_eq_append_getElem hlt
      obtain ⟨⟨s, d⟩, hsd⟩ : ∃ a, A[k]'hlt = a := ⟨_, rfl⟩
      rw [hsd] at p0 p1 h64 hsn
      simp only at p0 p1 h64
      have hbx := (Below.refl wr.heap.size wr).alloc (Nat.le_refl _) (.cells #[.int .i64 s, .int .i64 d] 39)
      have hX := Blk.new wr [.int .i64 s, .int .i64 d] 39
      have HM3 := Lib.hid (MapG.kept HMI.out hbx)
      have HX3 := Lib.hid (HXW.out.kept hbx)
      have HON3 := Lib.hid (HON.out.trans (Only.of_below hbx))
      have HS64 := Lib.hid h64
      have HOLD := Lib.hid (show (headW (A.take k) s).isSome = true → headW (A.take (k + 1)) = headW (A.take k) from fun h => by rw [hsn]; exact headW_old (x := ⟨s, d⟩) h)
      have HNEW := Lib.hid (show (headW (A.take k) s).isSome = false → updG (headW (A.take k)) s (some d) = headW (A.take (k + 1)) from fun h => by rw [hsn]; exact headW_new (x := ⟨s, d⟩) h)
      have hlk := MapI.look HM3.out h64.1
      obtain ⟨q, hq⟩ : ∃ q, (headW (A.take k) s).isSome = q := ⟨_, rfl⟩
      obtain ⟨y, hy⟩ : ∃ y, (headW (A.take k) s).getD 0 = y := ⟨_, rfl⟩
      rw [hq, hy] at hlk
      rw [hq] at HOLD HNEW
      have HQ := Lib.hid hq
      clear hk hkx hlt hx h64 hsn hsd hbx hq hy harc HMI HON HXW
      go_upto_region 5 with fail
      generalize wr.alloc (.cells #[.int .i64 s, .int .i64 d] 39) = w3 at *
      generalize wr.heap.size = bx at *
      have x0 := Blk.cell (vs := [.int .i64 s, .int .i64 d]) hX 0 rfl
      have x1 := Blk.cell (vs := [.int .i64 s, .int .i64 d]) hX 1 rfl
      have c0 := HX3.out.cell 0 rfl
      clear hX p0 p1
      cases q with
      | true =>
        have hm := HM3.out
        rw [← HOLD.out rfl] at hm
        have HM4 := Lib.hid hm
        clear hm
        go_wp2
        go_roundg (A.length - (k + 1))
        case measure => have := HLT.out; omega
        case rel => exact ⟨k + 1, m, by have := HLT.out; omega, Nat.le_refl _, by go_num, (by show m ≤ k + 1; have := HMM.out; omega), HM4.out, HON3.out⟩
      | false =>
        obtain ⟨w5, hrun, hm5, hg5⟩ := MapI.put HM3.out (by have := HMM.out; have := HLT.out; have := HAL.out; omega) HS64.out.1 d HS64.out.2
        rw [HNEW.out rfl] at hm5
        have HM5 := Lib.hid hm5
        have HON5 := Lib.hid (HON3.out.trans (Only.grown hg5 fun j hj => (Option.some.inj hj).symm))
        have HPP := Lib.hid (show (if (headW (A.take k) s).isSome = true then m else m + 1) ≤ k + 1 by have := HMM.out; split <;> omega)
        clear hm5 hg5
        go_wp2
        clear hrun
        go_roundg (A.length - (k + 1))
        case measure => have := HLT.out; omega
        case rel => exact ⟨k + 1, _, by have := HLT.out; omega, Nat.le_refl _, by go_num, HPP.out, HM5.out, HON5.out⟩
    · have k1 : ¬ (k : Int) < (A.length : Int) := by omega
      have hm := HMI.out
      rw [show A.take k = A from List.take_of_length_le (by omega)] at hm
      have GF2 := Lib.hid (GF.out _ _ _ wr HXW.out hm)
      clear hk hkx hlt hm harc HMI
      go_wp2_with (go_at_call 28; (with_reducible refine GF2.out.mono ?_); rintro e w4 ⟨v4, rfl, h4, b4⟩; have H4 := Lib.hid h4; have HB4 := Lib.hid b4; clear h4 b4)
      go_ret
      exact ⟨_, rfl, H4.out, HBW.out.trans (HB4.out.mono HBW.out.size)⟩
end Go.Proofs.Ytjmgokjljmmmgaa
/- Stage 21's program: Ready. -/
namespace Go.Proofs.Ytjmgokjljmmmgaa
open Go.RowKit Go.Maps

set_option maxHeartbeats 16000000 in
set_option maxRecDepth 100000 in
theorem pRdy1_any (x : Le) (Ls : List Lr) (bf b B : Nat) (w : World) (hf : Blk w bf [.func (.func 49) #[] #[.pointer (some ⟨b, 0, none⟩)]]) (hA : AwtAt B w b Ls) (hi : IntsAt w (.slice x.a x.want.length x.c) x.want) (hw : x.want.length ≤ 1000) (h64 : ∀ t ∈ x.want, I64 t) (hk : ∀ k ∈ Ls, IntsAt w (.slice k.a k.wait.length k.c) k.wait) (hkw : ∀ k ∈ Ls, k.wait.length ≤ 1000) :
    Calls Try.prog 33 #[lv7 x.token x.task x.worker x.unit x.due x.got (.slice x.a x.want.length x.c), .pointer (some ⟨bf, 0, none⟩)] w fun e w' => e = .returned (.bool (readyX Ls x)) ∧ Below w.heap.size w w' := by
  have hrx : readyX Ls x = (decide (x.got = (x.want.length : Int)) || ((awX Ls x).map fun k => (k.holder == 0) && (k.wait.head? == some x.token)).getD false) := rfl
  obtain ⟨rx, hrxd⟩ : ∃ rx, readyX Ls x = rx := ⟨_, rfl⟩
  rw [hrxd] at hrx ⊢
  have hb1 := (Below.refl w.heap.size w).alloc (Nat.le_refl _) (.cells #[.int .i64 x.token, .int .i64 x.task, .int .i64 x.worker, .int .i64 x.unit, .int .i64 x.due, .int .i64 x.got, .slice x.a x.want.length x.c] 35)
  have hX := Blk.new w [.int .i64 x.token, .int .i64 x.task, .int .i64 x.worker, .int .i64 x.unit, .int .i64 x.due, .int .i64 x.got, .slice x.a x.want.length x.c] 35
  have HC := Lib.hid (pAwtC_any (hA.kept hb1) x (hi.below hb1) hw h64)
  have GF := Lib.hid fun w' => pFull_any x.token x.task x.worker x.unit x.due x.got x.a x.want.length x.c w'
  have HK := Lib.hid fun (k : Lr) (h : k ∈ Ls) (w' : World) (hb : Below w.heap.size w w') => (hk k h).below hb
  have HKW := Lib.hid hkw
  have hin : ∀ k, awX Ls x = some k → k ∈ Ls := fun k h => by
    unfold awX at h
    cases h2 : nxX x with
    | none => rw [h2] at h; cases h
    | some id =>
      rw [h2] at h
      exact List.mem_of_find?_eq_some h
  have HF := Lib.hid (hf.kept hb1)
  obtain ⟨aw, haw⟩ : ∃ aw, awX Ls x = aw := ⟨_, rfl⟩
  rw [haw] at hrx
  simp only [haw] at HC hin
  obtain ⟨y, hy⟩ : ∃ y, (aw.map lrhW).getD kh0 = y := ⟨_, rfl⟩
  obtain ⟨q, hq⟩ : ∃ q, aw.isSome = q := ⟨_, rfl⟩
  simp only [hy, hq] at HC
  have HY := Lib.hid hy
  have HQ := Lib.hid hq
  have HIN := Lib.hid hin
  have HRX := Lib.hid hrx
  obtain ⟨y1, y2, ⟨ya, yn, yc⟩⟩ := y
  obtain ⟨tk, ta, wo, un, du, go, xa, xc, xw⟩ := x
  simp only at HRX HC GF hX hb1 HF ⊢
  replace HC : Hid (Calls Try.prog 49 #[.agg #[.int .i64 tk, .int .i64 ta, .int .i64 wo, .int .i64 un, .int .i64 du, .int .i64 go, .slice xa xw.length xc], .pointer (some ⟨b, 0, none⟩)] _ fun e w' => e = .returned (.tuple #[.agg #[.int .i64 y1, .int .i64 y2, .slice ya yn yc], .bool q]) ∧ Below _ _ w') := HC
  generalize xw.length = xn at *
  clear hf hA hi hw h64 hk hkw hrx hrxd haw hy hq hin
  go_enter Try.func33, Try.ntmps33
  go_upto_region 1 with fail
  generalize w.alloc (.cells #[.int .i64 tk, .int .i64 ta, .int .i64 wo, .int .i64 un, .int .i64 du, .int .i64 go, .slice xa xn xc] 35) = w1 at *
  replace hX : Blk w1 w.heap.size [.int .i64 tk, .int .i64 ta, .int .i64 wo, .int .i64 un, .int .i64 du, .int .i64 go, .slice xa xn xc] := hX
  have HX := Lib.hid hX
  have HB := Lib.hid hb1
  have c0 := HF.out.cell 0 rfl
  have x0 := hX.cell 0 rfl
  have x1 := hX.cell 1 rfl
  have x2 := hX.cell 2 rfl
  have x3 := hX.cell 3 rfl
  have x4 := hX.cell 4 rfl
  have x5 := hX.cell 5 rfl
  have x6 := hX.cell 6 rfl
  clear hX hb1
  go_upto_region 2 with (go_at_call 49; (with_reducible refine HC.out.mono ?_); rintro e w2 ⟨rfl, b2⟩; have HB2 := Lib.hid b2; clear b2)
  clear c0 x0 x1 x2 x3 x4 x5 x6
  have hal := (Below.refl w2.heap.size w2).alloc (Nat.le_refl _) (.cells #[.int .i64 y1, .int .i64 y2, .slice ya yn yc] 37)
  have hY := Blk.new w2 [.int .i64 y1, .int .i64 y2, .slice ya yn yc] 37
  have hX3 := (HX.out.kept HB2.out).kept hal
  have HB3 := Lib.hid (HB.out.trans ((HB2.out.trans (hal.mono HB2.out.size)).mono HB.out.size))
  generalize w2.alloc (.cells #[.int .i64 y1, .int .i64 y2, .slice ya yn yc] 37) = w3 at *
  replace hY : Blk w3 w2.heap.size [.int .i64 y1, .int .i64 y2, .slice ya yn yc] := hY
  have x0 := hX3.cell 0 rfl
  have x1 := hX3.cell 1 rfl
  have x2 := hX3.cell 2 rfl
  have x3 := hX3.cell 3 rfl
  have x4 := hX3.cell 4 rfl
  have x5 := hX3.cell 5 rfl
  have x6 := hX3.cell 6 rfl
  have y1' := hY.cell 1 rfl
  have y2' := hY.cell 2 rfl
  clear hX3 hY hal
  by_cases hfl : go = (xn : Int)
  · have hr : rx = true := by rw [HRX.out, decide_eq_true hfl]; rfl
    have hd : decide (go = (xn : Int)) = true := decide_eq_true hfl
    simp only [hd] at GF
    subst hr
    clear hfl hd
    refine wp_region_calm0 (by kernel_rfl) (by kernel_rfl) fun M => ?_
    have f0 := fun n : In M.w => n.cell (M.cell x0)
    have f1 := fun n : In M.w => n.cell (M.cell x1)
    have f2 := fun n : In M.w => n.cell (M.cell x2)
    have f3 := fun n : In M.w => n.cell (M.cell x3)
    have f4 := fun n : In M.w => n.cell (M.cell x4)
    have f5 := fun n : In M.w => n.cell (M.cell x5)
    have f6 := fun n : In M.w => n.cell (M.cell x6)
    repeat (go_big_quiet_step ((go_at_call 34; with_reducible exact In.call (GF.out _))))
    refine wpQuiet_nil ?_
    clear f0 f1 f2 f3 f4 f5 f6 M
    intro w5 hb5
    have HB5 := Lib.hid (HB3.out.trans (hb5.mono HB3.out.size))
    clear hb5 x0 x1 x2 x3 x4 x5 x6 y1' y2'
    go_wp2
    go_ret
    exact ⟨rfl, HB5.out⟩
  · have hd : decide (go = (xn : Int)) = false := decide_eq_false hfl
    simp only [hd] at GF
    have hr := HRX.out
    rw [hd, Bool.false_or] at hr
    cases aw with
    | none =>
      have hqf : q = false := HQ.out.symm
      subst hqf
      simp only [Option.map_none, Option.getD_none] at hr
      subst hr
      clear hfl hd
      refine wp_region_calm0 (by kernel_rfl) (by kernel_rfl) fun M => ?_
      have f0 := fun n : In M.w => n.cell (M.cell x0)
      have f1 := fun n : In M.w => n.cell (M.cell x1)
      have f2 := fun n : In M.w => n.cell (M.cell x2)
      have f3 := fun n : In M.w => n.cell (M.cell x3)
      have f4 := fun n : In M.w => n.cell (M.cell x4)
      have f5 := fun n : In M.w => n.cell (M.cell x5)
      have f6 := fun n : In M.w => n.cell (M.cell x6)
      repeat (go_big_quiet_step ((go_at_call 34; with_reducible exact In.call (GF.out _))))
      refine wpQuiet_nil ?_
      clear f0 f1 f2 f3 f4 f5 f6 M
      intro w5 hb5
      have HB5 := Lib.hid (HB3.out.trans (hb5.mono HB3.out.size))
      clear hb5 x0 x1 x2 x3 x4 x5 x6 y1' y2'
      go_wp2
      go_ret
      exact ⟨rfl, HB5.out⟩
    | some kk =>
      have hqf : q = true := HQ.out.symm
      subst hqf
      have hyy := HY.out
      have hkm := HIN.out kk rfl
      have hki := HK.out kk hkm w3 HB3.out
      have hkl := HKW.out kk hkm
      simp only [Option.map_some, Option.getD_some] at hr hyy
      obtain ⟨id', hh, ka, kc, kw⟩ := kk
      simp only [lrhW, Kh.mk.injEq, Ah.mk.injEq] at hyy
      obtain ⟨_, hy2, rfl, hyn, rfl⟩ := hyy
      simp only at hr hki hkl hy2 hyn
      subst hy2
      by_cases hz : hh = 0
      · subst hz
        have ez : ((0 : Int) == 0) = true := rfl
        rw [ez, Bool.true_and] at hr
        cases kw with
        | nil =>
          have hr2 : rx = false := by rw [hr]; simp
          have hn0 : yn = 0 := hyn.symm
          subst hr2 hn0
          clear hfl hd hr hki
          refine wp_region_calm0 (by kernel_rfl) (by kernel_rfl) fun M => ?_
          have f0 := fun n : In M.w => n.cell (M.cell x0)
          have f1 := fun n : In M.w => n.cell (M.cell x1)
          have f2 := fun n : In M.w => n.cell (M.cell x2)
          have f3 := fun n : In M.w => n.cell (M.cell x3)
          have f4 := fun n : In M.w => n.cell (M.cell x4)
          have f5 := fun n : In M.w => n.cell (M.cell x5)
          have f6 := fun n : In M.w => n.cell (M.cell x6)
          have f7 := fun n : In M.w => n.cell (M.cell y1')
          have f8 := fun n : In M.w => n.cell (M.cell y2')
          repeat (go_big_quiet_step ((go_at_call 34; with_reducible exact In.call (GF.out _))))
          refine wpQuiet_nil ?_
          clear f0 f1 f2 f3 f4 f5 f6 f7 f8 M
          intro w5 hb5
          have HB5 := Lib.hid (HB3.out.trans (hb5.mono HB3.out.size))
          clear hb5 x0 x1 x2 x3 x4 x5 x6 y1' y2'
          go_wp2
          go_ret
          exact ⟨rfl, HB5.out⟩
        | cons z rest =>
          obtain ⟨g4, o4, c4, e4, _, _, m0⟩ := hki.spot 0 (by simp)
          cases e4
          simp only [List.getElem_cons_zero, Nat.add_zero] at m0
          have hr2 : rx = (z == tk) := by rw [hr]; simp
          rw [hyn] at hkl
          have l1 : (0 : Int) < (yn : Int) := by rw [← hyn]; simp only [List.length_cons]; omega
          have l2 : (yn : Int) ≤ 1000 := by omega
          have l3 : 0 < yn := by omega
          clear hr hki hyn
          by_cases hyy2 : z = tk
          · have hr3 : rx = true := by rw [hr2, hyy2]; simp
            subst hr3
            rw [hyy2] at m0
            have ey : (tk == tk) = true := by simp
            clear hr2 hyy2 hfl hd
            refine wp_region_calm0 (by kernel_rfl) (by kernel_rfl) fun M => ?_
            have f0 := fun n : In M.w => n.cell (M.cell x0)
            have f1 := fun n : In M.w => n.cell (M.cell x1)
            have f2 := fun n : In M.w => n.cell (M.cell x2)
            have f3 := fun n : In M.w => n.cell (M.cell x3)
            have f4 := fun n : In M.w => n.cell (M.cell x4)
            have f5 := fun n : In M.w => n.cell (M.cell x5)
            have f6 := fun n : In M.w => n.cell (M.cell x6)
            have f7 := fun n : In M.w => n.cell (M.cell y1')
            have f8 := fun n : In M.w => n.cell (M.cell y2')
            have f9 := fun n : In M.w => n.cell (M.cell m0)
            repeat (go_big_quiet_step ((go_at_call 34; with_reducible exact In.call (GF.out _))))
            refine wpQuiet_nil ?_
            clear f0 f1 f2 f3 f4 f5 f6 f7 f8 f9 M
            intro w5 hb5
            have HB5 := Lib.hid (HB3.out.trans (hb5.mono HB3.out.size))
            clear hb5 x0 x1 x2 x3 x4 x5 x6 y1' y2'
            go_wp2
            go_ret
            exact ⟨rfl, HB5.out⟩
          · have ey : (z == tk) = false := beq_noI hyy2
            have hr3 : rx = false := hr2.trans ey
            subst hr3
            clear hr2 hfl hd
            refine wp_region_calm0 (by kernel_rfl) (by kernel_rfl) fun M => ?_
            have f0 := fun n : In M.w => n.cell (M.cell x0)
            have f1 := fun n : In M.w => n.cell (M.cell x1)
            have f2 := fun n : In M.w => n.cell (M.cell x2)
            have f3 := fun n : In M.w => n.cell (M.cell x3)
            have f4 := fun n : In M.w => n.cell (M.cell x4)
            have f5 := fun n : In M.w => n.cell (M.cell x5)
            have f6 := fun n : In M.w => n.cell (M.cell x6)
            have f7 := fun n : In M.w => n.cell (M.cell y1')
            have f8 := fun n : In M.w => n.cell (M.cell y2')
            have f9 := fun n : In M.w => n.cell (M.cell m0)
            repeat (go_big_quiet_step ((go_at_call 34; with_reducible exact In.call (GF.out _))))
            refine wpQuiet_nil ?_
            clear f0 f1 f2 f3 f4 f5 f6 f7 f8 f9 M
            intro w5 hb5
            have HB5 := Lib.hid (HB3.out.trans (hb5.mono HB3.out.size))
            clear hb5 x0 x1 x2 x3 x4 x5 x6 y1' y2'
            go_wp2
            go_ret
            exact ⟨rfl, HB5.out⟩
      · have ez : (hh == 0) = false := beq_noI hz
        have hr2 : rx = false := by rw [hr, ez, Bool.false_and]
        subst hr2
        clear hr hfl hd hki
        refine wp_region_calm0 (by kernel_rfl) (by kernel_rfl) fun M => ?_
        have f0 := fun n : In M.w => n.cell (M.cell x0)
        have f1 := fun n : In M.w => n.cell (M.cell x1)
        have f2 := fun n : In M.w => n.cell (M.cell x2)
        have f3 := fun n : In M.w => n.cell (M.cell x3)
        have f4 := fun n : In M.w => n.cell (M.cell x4)
        have f5 := fun n : In M.w => n.cell (M.cell x5)
        have f6 := fun n : In M.w => n.cell (M.cell x6)
        have f7 := fun n : In M.w => n.cell (M.cell y1')
        repeat (go_big_quiet_step ((go_at_call 34; with_reducible exact In.call (GF.out _))))
        refine wpQuiet_nil ?_
        clear f0 f1 f2 f3 f4 f5 f6 f7 M
        intro w5 hb5
        have HB5 := Lib.hid (HB3.out.trans (hb5.mono HB3.out.size))
        clear hb5 x0 x1 x2 x3 x4 x5 x6 y1' y2'
        go_wp2
        go_ret
        exact ⟨rfl, HB5.out⟩
set_option maxHeartbeats 8000000 in
set_option maxRecDepth 100000 in
theorem pReady_any (vx vl : Value) (Xs : List Le) (Ls : List Lr) (W : World) (hx : LeasesAt W vx Xs) (hl : LocksAt W vl Ls) (hxl : Xs.length ≤ 1000) (hll : Ls.length ≤ 1000) (hxw : ∀ x ∈ Xs, x.want.length ≤ 1000) (hlw : ∀ x ∈ Ls, x.wait.length ≤ 1000) (hx64 : ∀ x ∈ Xs, ∀ t ∈ x.want, I64 t) (hl64 : ∀ x ∈ Ls, I64 x.id) :
    Calls Try.prog 16 #[vx, vl] W fun e w' => ∃ v, e = .returned v ∧ IntsAt w' v (readyW Xs Ls) ∧ Below W.heap.size W w' := by
  have hmf : ∀ (fn : Fn) (first cap : Array Value) (w : World), (Instr.makeFunc fn first cap).run Try.prog w = .ok (.func fn first cap) w := fun _ _ _ _ => rfl
  have HAW := Lib.hid (pAwaited_any vl Ls W hl.rows hll hl64)
  have HTK := Lib.hid fun (w2 : World) (hb2 : Below W.heap.size W w2) (bf b B : Nat) (hf : Blk w2 bf [.func (.func 49) #[] #[.pointer (some ⟨b, 0, none⟩)]]) (hA : AwtAt B w2 b Ls) => pTokensOf_any 33 #[.pointer (some ⟨bf, 0, none⟩)] (fun _ _ => by kernel_rfl) (readyX Ls) vx Xs w2 (RowsAt.kept hx.rows hb2) hxl fun x hxm w' hb => pRdy1_any x Ls bf b B w' (hf.kept hb) (hA.kept hb) (((hx.each x hxm).below hb2).below hb) (hxw x hxm) (hx64 x hxm) (fun k hk => ((hl.each k hk).below hb2).below hb) hlw
  have hrd : (Xs.filter (readyX Ls)).map Le.token = readyW Xs Ls := rfl
  simp only [hrd] at HTK
  generalize readyW Xs Ls = R at *
  clear hx hl hxl hll hxw hlw hx64 hl64 hrd
  go_enter Try.func16, Try.ntmps16
  go_upto_region 2 with (go_at_call 26; (with_reducible refine HAW.out.mono ?_); rintro e w1 ⟨b, rfl, h1, b1⟩; have HA1 := Lib.hid h1; have HB1 := Lib.hid b1; clear h1 b1)
  have hal := (Below.refl w1.heap.size w1).alloc (Nat.le_refl _) (.cells #[.func (.func 49) #[] #[.pointer (some ⟨b, 0, none⟩)]] 48)
  have hX := Blk.new w1 [.func (.func 49) #[] #[.pointer (some ⟨b, 0, none⟩)]] 48
  have hA2 := HA1.out.kept hal
  have HB2 := Lib.hid (HB1.out.trans (hal.mono HB1.out.size))
  generalize w1.alloc (.cells #[.func (.func 49) #[] #[.pointer (some ⟨b, 0, none⟩)]] 48) = w2 at *
  have GT := Lib.hid (HTK.out w2 HB2.out _ b _ hX hA2)
  clear hal hX hA2
  go_wp2_with (go_at_call 32; (with_reducible refine GT.out.mono ?_); rintro e w3 ⟨v3, rfl, h3, b3⟩; have H3 := Lib.hid (OwnI.ints h3); have HB3 := Lib.hid (HB2.out.trans (b3.mono HB2.out.size)); clear h3 b3)
  go_ret
  exact ⟨_, rfl, H3.out, HB3.out⟩
end Go.Proofs.Ytjmgokjljmmmgaa
/- Stage 21: what comes at any rate. -/
namespace Go.Proofs.Ytjmgokjljmmmgaa
open Go.RowKit

theorem RowsAt.two {α : Type} (w : World) (t : TypeId) {K : Nat} {cs : α → List Value} (x y : α) (h : ∀ x, (cs x).length = K) : RowsAt (w.alloc (.cells (cs x ++ cs y).toArray t)) K cs (.slice (some ⟨w.heap.size, 0, none⟩) 2 2) [x, y] := by
  refine ⟨_, 2, rfl, Nat.le_refl _, fun _ => ⟨w.heap.size, 0, rfl, by simp, fun j z hj i u hu => ?_⟩⟩
  have hi : i < K := by rw [← h z]; exact (List.getElem?_eq_some_iff.1 hu).1
  rw [Nat.zero_add, World.cell?_alloc_at _ _ _ _ rfl]
  simp only [List.getElem?_toArray]
  match j, hj with
  | 0, hj =>
    obtain rfl : x = z := by simpa using hj
    rw [Nat.zero_mul, Nat.zero_add, List.getElem?_append_left (by rw [h]; exact hi)]
    exact hu
  | 1, hj =>
    obtain rfl : y = z := by simpa using hj
    rw [Nat.one_mul, List.getElem?_append_right (by rw [h]; omega), h, Nat.add_sub_cancel_left]
    exact hu
  | j + 2, hj => simp at hj
def xs21 (n : Nat) : List Le := [⟨5, 0, 0, 0, 0, 1, some ⟨n, 0, none⟩, 2, [1, 2]⟩, ⟨6, 0, 0, 0, 0, 1, some ⟨n + 1, 0, none⟩, 1, [2]⟩]
def ls21 (n : Nat) : List Lr := [⟨1, 5, none, 0, []⟩, ⟨2, 6, some ⟨n + 1 + 1 + 1, 0, none⟩, 1, [5]⟩]
theorem f21 (n : Nat) : arcsW (xs21 n) (ls21 n) = [⟨5, 6⟩] ∧ rightW (xs21 n) (ls21 n) = true ∧ ringW (xs21 n) (ls21 n) = false ∧ readyW (xs21 n) (ls21 n) = [6] ∧ chainW (xs21 n) (ls21 n) 5 = [5, 6] := ⟨by kernel_rfl, by kernel_rfl, by kernel_rfl, by kernel_rfl, by kernel_rfl⟩
def w21 (w : World) : World := ((((w.alloc (.cells #[.int .i64 1, .int .i64 2] 3)).alloc (.cells #[.int .i64 2] 3)).alloc (.cells #[.int .i64 5, .int .i64 0, .int .i64 0, .int .i64 0, .int .i64 0, .int .i64 1, .slice (some ⟨w.heap.size, 0, none⟩) 2 2, .int .i64 6, .int .i64 0, .int .i64 0, .int .i64 0, .int .i64 0, .int .i64 1, .slice (some ⟨w.heap.size + 1, 0, none⟩) 1 1] 35)).alloc (.cells #[.int .i64 5] 3)).alloc (.cells #[.int .i64 1, .int .i64 5, .slice none 0 0, .int .i64 2, .int .i64 6, .slice (some ⟨w.heap.size + 1 + 1 + 1, 0, none⟩) 1 1] 37)
theorem below_alloc (w : World) (o : Obj) : Below w.heap.size w (w.alloc o) := (Below.refl w.heap.size w).alloc (Nat.le_refl _) o
theorem size_alloc21 (w : World) (o : Obj) : (w.alloc o).heap.size = w.heap.size + 1 := by simp
theorem lit21 (w : World) : LeasesAt (w21 w) (.slice (some ⟨w.heap.size + 1 + 1, 0, none⟩) 2 2) (xs21 w.heap.size) ∧ LocksAt (w21 w) (.slice (some ⟨w.heap.size + 1 + 1 + 1 + 1, 0, none⟩) 2 2) (ls21 w.heap.size) ∧ Below w.heap.size w (w21 w) := by
  unfold w21
  obtain ⟨w1, h1⟩ : ∃ w1, w.alloc (.cells #[.int .i64 1, .int .i64 2] 3) = w1 := ⟨_, rfl⟩
  have e1 : w1.heap.size = w.heap.size + 1 := by rw [← h1]; exact size_alloc21 _ _
  have b1 : Below w.heap.size w w1 := by rw [← h1]; exact below_alloc _ _
  have i1 : IntsAt w1 (.slice (some ⟨w.heap.size, 0, none⟩) 2 2) [1, 2] := by rw [← h1]; exact IntsAt.lit w [1, 2] _
  rw [h1]
  obtain ⟨w2, h2⟩ : ∃ w2, w1.alloc (.cells #[.int .i64 2] 3) = w2 := ⟨_, rfl⟩
  have e2 : w2.heap.size = w.heap.size + 1 + 1 := by rw [← h2, size_alloc21, e1]
  have b2 : Below w1.heap.size w1 w2 := by rw [← h2]; exact below_alloc _ _
  have i2 : IntsAt w2 (.slice (some ⟨w.heap.size + 1, 0, none⟩) 1 1) [2] := by rw [← h2, ← e1]; exact IntsAt.lit w1 [2] _
  rw [h2]
  obtain ⟨w3, h3⟩ : ∃ w3, w2.alloc (.cells #[.int .i64 5, .int .i64 0, .int .i64 0, .int .i64 0, .int .i64 0, .int .i64 1, .slice (some ⟨w.heap.size, 0, none⟩) 2 2, .int .i64 6, .int .i64 0, .int .i64 0, .int .i64 0, .int .i64 0, .int .i64 1, .slice (some ⟨w.heap.size + 1, 0, none⟩) 1 1] 35) = w3 := ⟨_, rfl⟩
  have e3 : w3.heap.size = w.heap.size + 1 + 1 + 1 := by rw [← h3, size_alloc21, e2]
  have b3 : Below w2.heap.size w2 w3 := by rw [← h3]; exact below_alloc _ _
  have i3 : RowsAt w3 7 csLe (.slice (some ⟨w.heap.size + 1 + 1, 0, none⟩) 2 2) (xs21 w.heap.size) := by
    rw [← h3, ← e2]
    exact RowsAt.two (cs := csLe) w2 35 ⟨5, 0, 0, 0, 0, 1, some ⟨w.heap.size, 0, none⟩, 2, [1, 2]⟩ ⟨6, 0, 0, 0, 0, 1, some ⟨w.heap.size + 1, 0, none⟩, 1, [2]⟩ csLe_len
  rw [h3]
  obtain ⟨w4, h4⟩ : ∃ w4, w3.alloc (.cells #[.int .i64 5] 3) = w4 := ⟨_, rfl⟩
  have e4 : w4.heap.size = w.heap.size + 1 + 1 + 1 + 1 := by rw [← h4, size_alloc21, e3]
  have b4 : Below w3.heap.size w3 w4 := by rw [← h4]; exact below_alloc _ _
  have i4 : IntsAt w4 (.slice (some ⟨w.heap.size + 1 + 1 + 1, 0, none⟩) 1 1) [5] := by rw [← h4, ← e3]; exact IntsAt.lit w3 [5] _
  rw [h4]
  obtain ⟨w5, h5⟩ : ∃ w5, w4.alloc (.cells #[.int .i64 1, .int .i64 5, .slice none 0 0, .int .i64 2, .int .i64 6, .slice (some ⟨w.heap.size + 1 + 1 + 1, 0, none⟩) 1 1] 37) = w5 := ⟨_, rfl⟩
  have b5 : Below w4.heap.size w4 w5 := by rw [← h5]; exact below_alloc _ _
  have i5 : RowsAt w5 3 csL (.slice (some ⟨w.heap.size + 1 + 1 + 1 + 1, 0, none⟩) 2 2) (ls21 w.heap.size) := by
    rw [← h5, ← e4]
    exact RowsAt.two (cs := csL) w4 37 ⟨1, 5, none, 0, []⟩ ⟨2, 6, some ⟨w.heap.size + 1 + 1 + 1, 0, none⟩, 1, [5]⟩ csL_len
  rw [h5]
  have b35 := b4.trans (b5.mono b4.size)
  have b25 := b3.trans (b35.mono b3.size)
  have b15 := b2.trans (b25.mono b2.size)
  refine ⟨⟨RowsAt.kept i3 b35, fun x hx => ?_⟩, ⟨i5, fun x hx => ?_⟩, b1.trans (b15.mono b1.size)⟩
  · simp only [xs21, List.mem_cons, List.not_mem_nil, or_false] at hx
    rcases hx with rfl | rfl
    · exact i1.below b15
    · exact i2.below b25
  · simp only [ls21, List.mem_cons, List.not_mem_nil, or_false] at hx
    rcases hx with rfl | rfl
    · exact ⟨none, 0, rfl, Nat.le_refl _, fun h => absurd h (by simp)⟩
    · exact i4.below b5
theorem b21 (n : Nat) : (∀ x ∈ xs21 n, x.want.length ≤ 1000) ∧ (∀ x ∈ ls21 n, x.wait.length ≤ 1000) ∧ (∀ x ∈ xs21 n, I64 x.token ∧ ∀ t ∈ x.want, I64 t) ∧ (∀ x ∈ ls21 n, I64 x.id ∧ I64 x.holder ∧ ∀ t ∈ x.wait, I64 t) := by
  refine ⟨fun x hx => ?_, fun x hx => ?_, fun x hx => ?_, fun x hx => ?_⟩
  all_goals simp only [xs21, ls21, List.mem_cons, List.not_mem_nil, or_false] at hx
  all_goals rcases hx with rfl | rfl
  all_goals simp [I64]
set_option maxHeartbeats 8000000 in
set_option maxRecDepth 100000 in
theorem alive21_any (w : World) : Calls Try.prog 5 #[] w fun e w' => e = .returned (.bool true) ∧ Below w.heap.size w w' := by
  obtain ⟨hx, hl, hb⟩ := lit21 w
  obtain ⟨f1, f2, f3, f4, f5⟩ := f21 w.heap.size
  obtain ⟨g1, g2, g3, g4⟩ := b21 w.heap.size
  have l1 : (xs21 w.heap.size).length = 2 := rfl
  have l2 : (ls21 w.heap.size).length = 2 := rfl
  have hw : w21 w = w21 w := rfl
  conv at hw => lhs; unfold w21
  generalize w21 w = w5 at *
  obtain ⟨XS, hXS⟩ : ∃ X, xs21 w.heap.size = X := ⟨_, rfl⟩
  obtain ⟨LS, hLS⟩ : ∃ X, ls21 w.heap.size = X := ⟨_, rfl⟩
  rw [hXS] at hx f1 f2 f3 f4 f5 g1 g3 l1
  rw [hLS] at hl f1 f2 f3 f4 f5 g2 g4 l2
  have i5 : I64 5 := by simp [I64]
  have KX := Lib.hid (show ∀ w', Below w5.heap.size w5 w' → LeasesAt w' (.slice (some ⟨w.heap.size + 1 + 1, 0, none⟩) 2 2) XS from fun w' hb => ⟨RowsAt.kept hx.rows hb, fun y hy => (hx.each y hy).below hb⟩)
  have KL := Lib.hid (show ∀ w', Below w5.heap.size w5 w' → LocksAt w' (.slice (some ⟨w.heap.size + 1 + 1 + 1 + 1, 0, none⟩) 2 2) LS from fun w' hb => hl.below hb)
  have CA := Lib.hid (show ∀ w', Below w5.heap.size w5 w' → Calls Try.prog 11 #[.slice (some ⟨w.heap.size + 1 + 1, 0, none⟩) 2 2, .slice (some ⟨w.heap.size + 1 + 1 + 1 + 1, 0, none⟩) 2 2] w' fun e w2 => ∃ v, e = .returned v ∧ OwnR w2 w'.heap.size 39 2 csArc v [⟨5, 6⟩] ∧ Below w'.heap.size w' w2 from fun w' hb => by
    rw [← f1]
    exact pArcs_any _ _ XS LS w' (KX.out w' hb) (KL.out w' hb) (by omega) (by omega) g1 (fun x h => (g3 x h).2) (fun x h => (g4 x h).1))
  have CR := Lib.hid (show ∀ w', Below w5.heap.size w5 w' → Calls Try.prog 6 #[.slice (some ⟨w.heap.size + 1 + 1, 0, none⟩) 2 2, .slice (some ⟨w.heap.size + 1 + 1 + 1 + 1, 0, none⟩) 2 2] w' fun e w2 => e = .returned (.bool true) ∧ Below w'.heap.size w' w2 from fun w' hb => by
    rw [← f2]
    exact pRight_any _ _ XS LS w' (KX.out w' hb) (KL.out w' hb) (by omega) (by omega) g1 g2 g3 g4)
  have CG := Lib.hid (show ∀ w', Below w5.heap.size w5 w' → Calls Try.prog 8 #[.slice (some ⟨w.heap.size + 1 + 1, 0, none⟩) 2 2, .slice (some ⟨w.heap.size + 1 + 1 + 1 + 1, 0, none⟩) 2 2] w' fun e w2 => e = .returned (.bool false) ∧ Below w'.heap.size w' w2 from fun w' hb => by
    rw [← f3]
    exact pRing_any _ _ XS LS w' (KX.out w' hb) (KL.out w' hb) (by omega) (by omega) g1 g3 (fun x h => ⟨(g4 x h).1, (g4 x h).2.1⟩))
  have CD := Lib.hid (show ∀ w', Below w5.heap.size w5 w' → Calls Try.prog 16 #[.slice (some ⟨w.heap.size + 1 + 1, 0, none⟩) 2 2, .slice (some ⟨w.heap.size + 1 + 1 + 1 + 1, 0, none⟩) 2 2] w' fun e w2 => ∃ v, e = .returned v ∧ IntsAt w2 v [6] ∧ Below w'.heap.size w' w2 from fun w' hb => by
    rw [← f4]
    exact pReady_any _ _ XS LS w' (KX.out w' hb) (KL.out w' hb) (by omega) (by omega) g1 g2 (fun x h => (g3 x h).2) (fun x h => (g4 x h).1))
  have CC := Lib.hid (show ∀ w', Below w5.heap.size w5 w' → Calls Try.prog 14 #[.slice (some ⟨w.heap.size + 1 + 1, 0, none⟩) 2 2, .slice (some ⟨w.heap.size + 1 + 1 + 1 + 1, 0, none⟩) 2 2, .int .i64 5] w' fun e w2 => ∃ v, e = .returned v ∧ IntsAt w2 v [5, 6] ∧ Below w'.heap.size w' w2 from fun w' hb => by
    rw [← f5]
    exact pChain_any _ _ XS LS 5 w' (KX.out w' hb) (KL.out w' hb) (by omega) (by omega) g1 g3 (fun x h => ⟨(g4 x h).1, (g4 x h).2.1⟩) i5)
  have C1 := Lib.hid (show ∀ va vb w1, IntsAt w1 va [6] → IntsAt w1 vb [6] → Calls Try.prog 13 #[va, vb] w1 fun e w' => e = .returned (.bool true) ∧ Below w1.heap.size w1 w' from fun va vb w1 ha hb => by
    have := refInts_any va vb [6] [6] w1 ha hb (by simp) (by simp)
    rwa [decide_eq_true rfl] at this)
  have C2 := Lib.hid (show ∀ va vb w1, IntsAt w1 va [5, 6] → IntsAt w1 vb [5, 6] → Calls Try.prog 13 #[va, vb] w1 fun e w' => e = .returned (.bool true) ∧ Below w1.heap.size w1 w' from fun va vb w1 ha hb => by
    have := refInts_any va vb [5, 6] [5, 6] w1 ha hb (by simp) (by simp)
    rwa [decide_eq_true rfl] at this)
  have L2 := Lib.hid (show ∀ (w : World) (a b : Int), IntsAt (w.alloc (.cells #[.int .i64 a, .int .i64 b] 3)) (.slice (some ⟨w.heap.size, 0, none⟩) 2 2) [a, b] from fun w a b => IntsAt.lit w [a, b] 3)
  have L1 := Lib.hid (show ∀ (w : World) (a : Int), IntsAt (w.alloc (.cells #[.int .i64 a] 3)) (.slice (some ⟨w.heap.size, 0, none⟩) 1 1) [a] from fun w a => IntsAt.lit w [a] 3)
  have HB0 := Lib.hid hb
  clear hx hl hb f1 f2 f3 f4 f5 g1 g2 g3 g4 l1 l2 hXS hLS i5 KX KL
  have HW := Lib.hid hw
  clear hw
  go_enter Try.func5, Try.ntmps5
  go_wp2_with (first
    | (go_at_call 11; rw [HW.out]; (with_reducible refine (CA.out _ (Below.refl _ _)).mono ?_); rintro e w6 ⟨va, rfl, h, b⟩; have h' := OwnR.rows csArc_len h; obtain ⟨a1, c1, e1⟩ := RowsAt.form h'; rw [show ([⟨5, 6⟩] : List Arc16).length = 1 from rfl] at e1; subst e1; have V1 := Lib.hid h'; have B6 := Lib.hid b; clear h h' b)
    | (go_at_call 6; (with_reducible refine (CR.out _ B6.out).mono ?_); rintro e w7 ⟨rfl, b⟩; have B7 := Lib.hid (B6.out.trans (b.mono B6.out.size)); obtain ⟨ga, oa, ca, ea, _, _, xa⟩ := (V1.out.kept b).spot 0 (by simp); rw [show ([⟨5, 6⟩] : List Arc16).length = 1 from rfl] at ea; cases ea; have xa0 := xa 0 (.int .i64 5) rfl; have xa1 := xa 1 (.int .i64 6) rfl; simp only [Nat.zero_mul, Nat.add_zero] at xa0 xa1; clear b xa)
    | (go_at_call 8; (with_reducible refine (CG.out _ B7.out).mono ?_); rintro e w8 ⟨rfl, b⟩; have B8 := Lib.hid (B7.out.trans (b.mono B7.out.size)); clear b)
    | (go_at_call 16; (with_reducible refine (CD.out _ B8.out).mono ?_); rintro e w9 ⟨v9, rfl, h, b⟩; have X9 := Lib.hid h; have B9 := Lib.hid (B8.out.trans (b.mono B8.out.size)); clear b h)
    | (go_at_call 13; (with_reducible refine (C2.out _ _ _ (XC.out.below (below_alloc _ _)) (L2.out _ 5 6)).mono ?_); rintro e wC ⟨rfl, b⟩; have BE := Lib.hid (BC.out.trans (((below_alloc _ _).trans (b.mono (below_alloc _ _).size)).mono BC.out.size)); clear b)
    | (go_at_call 13; (with_reducible refine (C1.out _ _ _ (X9.out.below (below_alloc _ _)) (L1.out _ 6)).mono ?_); rintro e wA ⟨rfl, b⟩; have BA := Lib.hid (B9.out.trans (((below_alloc _ _).trans (b.mono (below_alloc _ _).size)).mono B9.out.size)); clear b)
    | (go_at_call 14; (with_reducible refine (CC.out _ BA.out).mono ?_); rintro e wB ⟨vC, rfl, h, b⟩; have XC := Lib.hid h; have BC := Lib.hid (BA.out.trans (b.mono BA.out.size)); clear b h))
  go_ret
  exact ⟨rfl, HB0.out.trans (BE.out.mono HB0.out.size)⟩
end Go.Proofs.Ytjmgokjljmmmgaa
/- Stage 21: the law WaitsTells. -/
namespace Go.Proofs.Ytjmgokjljmmmgaa
open Go.RowKit

theorem chainC_len (h : Int → Option Int) (t : Int) : ∀ k, (chainC h t k).length ≤ k + 1
  | 0 => Nat.le_refl _
  | k + 1 => by
    have ih := chainC_len h t k
    show ((stepC h (chainC h t k)).getD (chainC h t k)).length ≤ k + 1 + 1
    generalize chainC h t k = c at *
    unfold stepC
    cases h (c.getLastD 0) with
    | none => simp; omega
    | some q =>
      rw [Option.bind_some]
      split
      · simp; omega
      · simp; omega
set_option maxHeartbeats 16000000 in
set_option maxRecDepth 100000 in
theorem waitsTells_any (va vb : Value) (Xs : List Le) (Ls : List Lr) (t : Int) (w : World) (hx : LeasesAt w va Xs) (hl : LocksAt w vb Ls) (hx64 : ∀ x ∈ Xs, I64 x.token ∧ ∀ t ∈ x.want, I64 t) (hl64 : ∀ x ∈ Ls, I64 x.id ∧ I64 x.holder ∧ ∀ t ∈ x.wait, I64 t) (ht : I64 t) :
    Calls Try.prog 3 #[va, vb, .int .i64 t] w fun e w' => e = .returned (.bool true) ∧ Below w.heap.size w w' := by
  have HAL := Lib.hid fun w => alive21_any w
  have HFW := Lib.hid (refFewW_any va vb Xs Ls w hx.rows hl.rows)
  cases hfw : fewW Xs Ls with
  | false =>
    rw [hfw] at HFW
    clear hx hl hx64 hl64 ht hfw
    go_enter Try.func3, Try.ntmps3
    go_wp2_with (first
      | (go_at_call 4; (with_reducible refine HFW.out.mono ?_); rintro e w1 ⟨rfl, rfl⟩)
      | (go_at_call 5; (with_reducible refine (HAL.out _).mono ?_); rintro e w5 ⟨rfl, hb⟩))
    go_ret
    exact ⟨rfl, hb⟩
  | true =>
    rw [hfw] at HFW
    obtain ⟨⟨q1, q2⟩, q3, q4⟩ := (fewW_iff Xs Ls).1 hfw
    have g1 : ∀ x ∈ Xs, x.want.length ≤ 1000 := fun x hx => Nat.le_trans (q3 x hx) (by omega)
    have g2 : ∀ x ∈ Ls, x.wait.length ≤ 1000 := fun x hx => Nat.le_trans (q4 x hx) (by omega)
    have KX := Lib.hid (show ∀ w', Below w.heap.size w w' → LeasesAt w' va Xs from fun w' hb => ⟨RowsAt.kept hx.rows hb, fun y hy => (hx.each y hy).below hb⟩)
    have KL := Lib.hid (show ∀ w', Below w.heap.size w w' → LocksAt w' vb Ls from fun w' hb => hl.below hb)
    have PR := Lib.hid fun w' (hb : Below w.heap.size w w') => pRight_any va vb Xs Ls w' (KX.out w' hb) (KL.out w' hb) (by omega) (by omega) g1 g2 hx64 hl64
    have DR := Lib.hid fun w' (hb : Below w.heap.size w w') => refRightW_any va vb Xs Ls w' (KX.out w' hb) (KL.out w' hb) (by omega) (by omega) g1 g2
    have PG := Lib.hid fun w' (hb : Below w.heap.size w w') => pRing_any va vb Xs Ls w' (KX.out w' hb) (KL.out w' hb) (by omega) (by omega) g1 hx64 (fun x h => ⟨(hl64 x h).1, (hl64 x h).2.1⟩)
    have DG := Lib.hid fun w' (hb : Below w.heap.size w w') => refRingW_any va vb Xs Ls w' (KX.out w' hb) (KL.out w' hb) (by omega) (by omega) g1
    have PA := Lib.hid fun w' (hb : Below w.heap.size w w') => pArcs_any va vb Xs Ls w' (KX.out w' hb) (KL.out w' hb) (by omega) (by omega) g1 (fun x h => (hx64 x h).2) (fun x h => (hl64 x h).1)
    have DA := Lib.hid fun w' (hb : Below w.heap.size w w') => refArcsW_any va vb Xs Ls w' (KX.out w' hb) (KL.out w' hb) (by omega) (by omega) g1
    have PC := Lib.hid fun w' (hb : Below w.heap.size w w') => pChain_any va vb Xs Ls t w' (KX.out w' hb) (KL.out w' hb) (by omega) (by omega) g1 hx64 (fun x h => ⟨(hl64 x h).1, (hl64 x h).2.1⟩) ht
    have DC := Lib.hid fun w' (hb : Below w.heap.size w w') => refChainW_any va vb Xs Ls t w' (KX.out w' hb) (KL.out w' hb) (by omega) (by omega) g1
    have PD := Lib.hid fun w' (hb : Below w.heap.size w w') => pReady_any va vb Xs Ls w' (KX.out w' hb) (KL.out w' hb) (by omega) (by omega) g1 g2 (fun x h => (hx64 x h).2) (fun x h => (hl64 x h).1)
    have DD := Lib.hid fun w' (hb : Below w.heap.size w w') => refReadyW_any va vb Xs Ls w' (KX.out w' hb) (KL.out w' hb) (by omega) (by omega) g1 g2
    have la : (arcsW Xs Ls).length ≤ 1000 := Nat.le_trans (arcs_len Xs Ls) (by omega)
    have ld : (readyW Xs Ls).length ≤ 1000000 := by
      unfold readyW
      rw [List.length_map]
      exact Nat.le_trans (List.length_filter_le _ _) (by omega)
    have lc : (chainW Xs Ls t).length ≤ 1000000 := Nat.le_trans (chainC_len _ _ _) (by have := arcs_len Xs Ls; omega)
    have WA := Lib.hid fun (va vb : Value) (w' : World) (h1 : ArcsAt w' va (arcsW Xs Ls)) (h2 : ArcsAt w' vb (arcsW Xs Ls)) => refArrows_any va vb (arcsW Xs Ls) w' h1 h2 la
    have EI := Lib.hid fun (va vb : Value) (w' : World) (l : List Int) (hl : l.length ≤ 1000000) (h1 : IntsAt w' va l) (h2 : IntsAt w' vb l) => show Calls Try.prog 13 #[va, vb] w' fun e w2 => e = .returned (.bool true) ∧ Below w'.heap.size w' w2 by
      have := refInts_any va vb l l w' h1 h2 hl hl
      rwa [decide_eq_true rfl] at this
    have LC := Lib.hid lc
    have LD := Lib.hid ld
    obtain ⟨R, hR⟩ : ∃ R, rightW Xs Ls = R := ⟨_, rfl⟩
    obtain ⟨G, hG⟩ : ∃ R, ringW Xs Ls = R := ⟨_, rfl⟩
    simp only [hR] at PR DR
    simp only [hG] at PG DG
    have rr : (R != R) = false := by cases R <;> rfl
    have gg : (G != G) = false := by cases G <;> rfl
    generalize arcsW Xs Ls = A at *
    generalize chainW Xs Ls t = C at *
    generalize readyW Xs Ls = D at *
    have hb0 := Lib.hid (Below.refl w.heap.size w)
    clear hx hl hx64 hl64 ht hfw q1 q2 q3 q4 g1 g2 la ld lc hR hG KX KL
    go_enter Try.func3, Try.ntmps3
    go_wp2_with (first
      | (go_at_call 4; (with_reducible refine HFW.out.mono ?_); rintro e w1 ⟨rfl, rfl⟩)
      | (go_at_call 6; (with_reducible refine (PR.out _ hb0.out).mono ?_); rintro e w1 ⟨rfl, b⟩; have B1 := Lib.hid (hb0.out.trans (b.mono hb0.out.size)); clear b)
      | (go_at_call 7; (with_reducible refine (DR.out _ B1.out).mono ?_); rintro e w2 ⟨rfl, b⟩; have B2 := Lib.hid (B1.out.trans (b.mono B1.out.size)); clear b)
      | (go_at_call 8; (with_reducible refine (PG.out _ B2.out).mono ?_); rintro e w3 ⟨rfl, b⟩; have B3 := Lib.hid (B2.out.trans (b.mono B2.out.size)); clear b)
      | (go_at_call 9; (with_reducible refine (DG.out _ B3.out).mono ?_); rintro e w4 ⟨rfl, b⟩; have B4 := Lib.hid (B3.out.trans (b.mono B3.out.size)); clear b)
      | (go_at_call 11; (with_reducible refine (PA.out _ B4.out).mono ?_); rintro e w5 ⟨v5, rfl, h, b⟩; have V5 := Lib.hid (OwnR.rows csArc_len h); have B5 := Lib.hid (B4.out.trans (b.mono B4.out.size)); clear h b)
      | (go_at_call 12; (with_reducible refine (DA.out _ B5.out).mono ?_); rintro e w6 ⟨v6, rfl, h, b⟩; have V6 := Lib.hid (OwnR.rows csArc_len h); have V5' := Lib.hid (RowsAt.kept V5.out b); have B6 := Lib.hid (B5.out.trans (b.mono B5.out.size)); clear h b)
      | (go_at_call 10; (with_reducible refine (WA.out _ _ _ V5'.out V6.out).mono ?_); rintro e w7 ⟨rfl, b⟩; have B7 := Lib.hid (B6.out.trans (b.mono B6.out.size)); clear b)
      | (go_at_call 14; (with_reducible refine (PC.out _ B7.out).mono ?_); rintro e w8 ⟨v8, rfl, h, b⟩; have V8 := Lib.hid h; have B8 := Lib.hid (B7.out.trans (b.mono B7.out.size)); clear h b)
      | (go_at_call 15; (with_reducible refine (DC.out _ B8.out).mono ?_); rintro e w9 ⟨v9, rfl, h, b⟩; have V9 := Lib.hid h; have V8' := Lib.hid (V8.out.below b); have B9 := Lib.hid (B8.out.trans (b.mono B8.out.size)); clear h b)
      | (go_at_call 13; (with_reducible refine (EI.out _ _ _ D LD.out VB'.out VC.out).mono ?_); rintro e wD ⟨rfl, b⟩; have BD := Lib.hid (BC.out.trans (b.mono BC.out.size)); clear b)
      | (go_at_call 13; (with_reducible refine (EI.out _ _ _ C LC.out V8'.out V9.out).mono ?_); rintro e wA ⟨rfl, b⟩; have BA := Lib.hid (B9.out.trans (b.mono B9.out.size)); clear b)
      | (go_at_call 16; (with_reducible refine (PD.out _ BA.out).mono ?_); rintro e wB ⟨vB, rfl, h, b⟩; have VB := Lib.hid h; have BB := Lib.hid (BA.out.trans (b.mono BA.out.size)); clear h b)
      | (go_at_call 17; (with_reducible refine (DD.out _ BB.out).mono ?_); rintro e wC ⟨vC, rfl, h, b⟩; have VC := Lib.hid h; have VB' := Lib.hid (VB.out.below b); have BC := Lib.hid (BB.out.trans (b.mono BB.out.size)); clear h b)
      | (go_at_call 5; (with_reducible refine (HAL.out _).mono ?_); rintro e wE ⟨rfl, b⟩; have BE := Lib.hid (BD.out.trans (b.mono BD.out.size)); clear b))
    go_ret
    exact ⟨rfl, BE.out⟩
end Go.Proofs.Ytjmgokjljmmmgaa
/- Lists of lists of bytes that come in. -/
namespace Go.Proofs.Ytjmgokjljmmmgaa
open Go.RowKit Go.ChangeShapes Go.WideShapes Go.Joins Go.Deep

set_option maxRecDepth 100000 in
/-- a slice that lies in a cell -/
theorem open_rows_good {α : Type} [Inhabited α] {H : Type} {enc : TypeId × Value → H} {w : World} {t e : TypeId} {K n0 : Nat} {xs0 : List Value} {z : DataW H × List MemPlace} (cs : α → List Value) (good : α → Prop)
    (ht : Try.prog.underlying t = some (.slice e)) (ce : Try.prog.cellsOf e = K) (hK : 0 < K)
    (elem : ∀ n xs x, xs.length = K → DataW.trod enc Try.prog w 0 (fun _ => true) true n e xs = some x → ∃ y, xs = cs y ∧ good y)
    (hx0 : DataW.trod enc Try.prog w 0 (fun _ => true) true n0 t xs0 = some z) :
    ∃ a len cap l, xs0 = [.slice a len cap] ∧ RowsAt w K cs (.slice a len cap) l ∧ l.length ≤ 9223372036854775807 ∧ ∀ x ∈ l, good x := by
  obtain ⟨d, p⟩ := z
  rcases open_slice ht hx0 with ⟨hcs, _⟩ | ⟨x, ln, c, m, n, D, Pl, hcs, _, hl, hm, hmm, _, hx⟩
  · exact ⟨none, 0, 0, [], hcs, RowsAt.nil _ _ _, by simp, by simp⟩
  · have hmc : m = c := by simpa using hmm
    subst hmc
    rw [ce] at hx
    have each : ∀ i, i < m → ∃ y : α, (∀ j u, (cs y)[j]? = some u → w.cell? ((x.add (i * K)).add j) = some u) ∧ good y ∧ (cs y).length = K := by
      intro i hi
      obtain ⟨xs, h1, h2⟩ := hx i hi
      obtain ⟨_, hlen, hcell⟩ := World.cells?_some h1
      obtain ⟨y, rfl, hg⟩ := elem n xs _ hlen h2
      refine ⟨y, fun j u hu => ?_, hg, hlen⟩
      have := hcell j (by rw [← hlen]; exact (List.getElem?_eq_some_iff.1 hu).1)
      rw [this, hu]
    obtain ⟨q, hq⟩ := choose_lt each
    have hll : ((List.range ln).map q).length = ln := by simp
    refine ⟨some x, ln, m, (List.range ln).map q, hcs, ⟨some x, m, by rw [hll], by rw [hll]; exact hl, fun h0 => ?_⟩, ?_, fun y hy => ?_⟩
    · rw [hll] at h0
      obtain ⟨h1, _, h3⟩ := hq 0 (by omega)
      obtain ⟨u, hu⟩ : ∃ u, (cs (q 0))[0]? = some u := ⟨_, List.getElem?_eq_getElem (by omega)⟩
      have h4 := h1 0 u hu
      obtain ⟨b, off, spot⟩ := x
      have hspot : spot = none := by simpa [Addr.add] using World.cell?_spot h4
      subst hspot
      rw [add_plain, add_plain] at h4
      refine ⟨b, off, rfl, World.block_lt_of_cell? _ _ h4, fun j y hj i u hu => ?_⟩
      have hjl : j < ln := by rw [← hll]; exact (List.getElem?_eq_some_iff.1 hj).1
      have hyq : q j = y := by simpa [hjl] using hj
      rw [← hyq] at hu
      have := (hq j (by omega)).1 i u hu
      rw [add_plain, add_plain] at this
      exact this
    · rw [hll]
      unfold maxLen at hm
      omega
    · rw [List.mem_map] at hy
      obtain ⟨i, hi, rfl⟩ := hy
      exact (hq i (by have := List.mem_range.1 hi; omega)).2.1
theorem open_rows_in {α : Type} [Inhabited α] {H : Type} {enc : TypeId × Value → H} {w : World} {t e : TypeId} {K n0 : Nat} {xs0 : List Value} {z : DataW H × List MemPlace} (cs : α → List Value)
    (ht : Try.prog.underlying t = some (.slice e)) (ce : Try.prog.cellsOf e = K) (hK : 0 < K)
    (elem : ∀ n xs x, xs.length = K → DataW.trod enc Try.prog w 0 (fun _ => true) true n e xs = some x → ∃ y, xs = cs y)
    (hx0 : DataW.trod enc Try.prog w 0 (fun _ => true) true n0 t xs0 = some z) :
    ∃ a len cap l, xs0 = [.slice a len cap] ∧ RowsAt w K cs (.slice a len cap) l ∧ l.length ≤ 9223372036854775807 := by
  obtain ⟨a, len, cap, l, h1, h2, h3, _⟩ := open_rows_good cs (fun _ => True) ht ce hK (fun n xs x h h' => (elem n xs x h h').imp fun _ e => ⟨e, trivial⟩) hx0
  exact ⟨a, len, cap, l, h1, h2, h3⟩
end Go.Proofs.Ytjmgokjljmmmgaa
/- Lists of locks that come in, opened. -/
namespace Go.Proofs.Ytjmgokjljmmmgaa
open Go.RowKit Go.ChangeShapes Go.WideShapes Go.Joins Go.Deep

theorem cells_lockO : Try.prog.cellsOf 37 = 3 := by kernel_rfl
theorem cells_int_lo : Try.prog.cellsOf 3 = 1 := by kernel_rfl
theorem cells_ints_lo : Try.prog.cellsOf 30 = 1 := by kernel_rfl
theorem list3_lo {α : Type} {l : List α} (h : l.length = 3) : ∃ a b c, l = [a, b, c] := by
  match l, h with
  | [a, b, c], _ => exact ⟨a, b, c, rfl⟩
set_option maxRecDepth 100000 in
theorem trod_lockO {H : Type} {enc : TypeId × Value → H} {w : World} {fuel : Nat} {cs : List Value} {x : DataW H × List MemPlace} (hl : cs.length = 3) (h : DataW.trod enc Try.prog w 0 (fun _ => true) true fuel 37 cs = some x) : ∃ a : Lr, cs = csL a ∧ IntsAt w a.v a.wait ∧ (-9223372036854775808 ≤ a.id ∧ a.id ≤ 9223372036854775807) ∧ (-9223372036854775808 ≤ a.holder ∧ a.holder ≤ 9223372036854775807) ∧ ∀ t ∈ a.wait, -9223372036854775808 ≤ t ∧ t ≤ 9223372036854775807 := by
  obtain ⟨c0, c1, c2, rfl⟩ := list3_lo hl
  obtain ⟨y0, y1, y2, k, _, _, h0, h1, h2⟩ := trod_struct3 Try.underlying37 h
  simp only [cells_int_lo, cells_ints_lo, List.drop_zero, List.take_succ_cons, List.take_zero, List.drop_succ_cons] at h0 h1 h2
  obtain ⟨a, e0, _, wa⟩ := DataW.trod_int Try.underlying3 h0
  obtain ⟨b, e1, _, wb⟩ := DataW.trod_int Try.underlying3 h1
  obtain ⟨s, len, cap, l, e2, hr, _, hw⟩ := open_rows_good csI (fun n => -9223372036854775808 ≤ n ∧ n ≤ 9223372036854775807) Try.underlying30 cells_int_lo (by decide) (by
    intro n xs x _ hx
    obtain ⟨a, e0, _, wa⟩ := DataW.trod_int Try.underlying3 hx
    exact ⟨a, e0, bounds_i64 wa⟩) h2
  simp at e0 e1 e2
  subst e0 e1 e2
  obtain ⟨s', c', e3⟩ := RowsAt.form hr
  cases e3
  exact ⟨⟨a, b, s, cap, l⟩, rfl, RowsAt.ints hr, bounds_i64 wa, bounds_i64 wb, hw⟩
set_option maxRecDepth 100000 in
theorem open_locks {H : Type} {enc : TypeId × Value → H} {w : World} {base : Nat} {v : Value} {d : DataW H} {p : List MemPlace} (hok : Value.okWide Try.prog w .any base 23 v) (h : DataW.Trod enc Try.prog w 0 (fun _ => true) true 23 v d p) :
    ∃ l, LocksAt w v l ∧ l.length ≤ 9223372036854775807 ∧ ∀ a ∈ l, (-9223372036854775808 ≤ a.id ∧ a.id ≤ 9223372036854775807) ∧ (-9223372036854775808 ≤ a.holder ∧ a.holder ≤ 9223372036854775807) ∧ ∀ t ∈ a.wait, -9223372036854775808 ≤ t ∧ t ≤ 9223372036854775807 := by
  obtain ⟨l, h1, h2, h3⟩ := open_rows csL (fun a => IntsAt w a.v a.wait ∧ (-9223372036854775808 ≤ a.id ∧ a.id ≤ 9223372036854775807) ∧ (-9223372036854775808 ≤ a.holder ∧ a.holder ≤ 9223372036854775807) ∧ ∀ t ∈ a.wait, -9223372036854775808 ≤ t ∧ t ≤ 9223372036854775807) Try.underlying23 cells_lockO (by decide) (fun _ _ _ hl h => trod_lockO hl h) hok h
  exact ⟨l, ⟨h1, fun a ha => (h3 a ha).1⟩, h2, fun a ha => (h3 a ha).2⟩
end Go.Proofs.Ytjmgokjljmmmgaa
/- Lists of leases that come in, opened. -/
namespace Go.Proofs.Ytjmgokjljmmmgaa
open Go.RowKit Go.ChangeShapes Go.WideShapes Go.Joins Go.Deep

theorem cells_leaseO : Try.prog.cellsOf 35 = 7 := by kernel_rfl
theorem cells_int_le : Try.prog.cellsOf 3 = 1 := by kernel_rfl
theorem cells_ints_le : Try.prog.cellsOf 30 = 1 := by kernel_rfl
theorem list7_le {α : Type} {l : List α} (h : l.length = 7) : ∃ a b c d e f g, l = [a, b, c, d, e, f, g] := by
  match l, h with
  | [a, b, c, d, e, f, g], _ => exact ⟨a, b, c, d, e, f, g, rfl⟩
theorem trod_struct7 {P : Program} {H : Type} {enc : TypeId × Value → H} {w : World} {base : Nat} {spare : Nat → Bool} {held : Bool} {t : TypeId} {f0 f1 f2 f3 f4 f5 f6 : Field} {fuel : Nat} {cs : List Value} {x : DataW H × List MemPlace} (ht : P.underlying t = some (.struct #[f0, f1, f2, f3, f4, f5, f6])) (h : DataW.trod enc P w base spare held fuel t cs = some x) :
    ∃ y0 y1 y2 y3 y4 y5 y6 n, DataW.trod enc P w base spare held n f0.type ((cs.drop f0.offset).take (P.cellsOf f0.type)) = some y0 ∧
      DataW.trod enc P w base spare held n f1.type ((cs.drop f1.offset).take (P.cellsOf f1.type)) = some y1 ∧ DataW.trod enc P w base spare held n f2.type ((cs.drop f2.offset).take (P.cellsOf f2.type)) = some y2 ∧
      DataW.trod enc P w base spare held n f3.type ((cs.drop f3.offset).take (P.cellsOf f3.type)) = some y3 ∧ DataW.trod enc P w base spare held n f4.type ((cs.drop f4.offset).take (P.cellsOf f4.type)) = some y4 ∧
      DataW.trod enc P w base spare held n f5.type ((cs.drop f5.offset).take (P.cellsOf f5.type)) = some y5 ∧ DataW.trod enc P w base spare held n f6.type ((cs.drop f6.offset).take (P.cellsOf f6.type)) = some y6 := by
  obtain ⟨xs, n, _, rfl, hl, hlen, hf⟩ := DataW.trod_struct ht h
  match xs, hlen with
  | [y0, y1, y2, y3, y4, y5, y6], _ => exact ⟨y0, y1, y2, y3, y4, y5, y6, n, by simpa using hf 0 f0 rfl, by simpa using hf 1 f1 rfl, by simpa using hf 2 f2 rfl, by simpa using hf 3 f3 rfl, by simpa using hf 4 f4 rfl, by simpa using hf 5 f5 rfl, by simpa using hf 6 f6 rfl⟩
set_option maxRecDepth 100000 in
theorem trod_leaseO {H : Type} {enc : TypeId × Value → H} {w : World} {fuel : Nat} {cs : List Value} {x : DataW H × List MemPlace} (hl : cs.length = 7) (h : DataW.trod enc Try.prog w 0 (fun _ => true) true fuel 35 cs = some x) : ∃ a : Le, cs = csLe a ∧ IntsAt w a.v a.want ∧ (-9223372036854775808 ≤ a.token ∧ a.token ≤ 9223372036854775807) ∧ ∀ t ∈ a.want, -9223372036854775808 ≤ t ∧ t ≤ 9223372036854775807 := by
  obtain ⟨c0, c1, c2, c3, c4, c5, c6, rfl⟩ := list7_le hl
  obtain ⟨y0, y1, y2, y3, y4, y5, y6, k, h0, h1, h2, h3, h4, h5, h6⟩ := trod_struct7 Try.underlying35 h
  simp only [cells_int_le, cells_ints_le, List.drop_zero, List.take_succ_cons, List.take_zero, List.drop_succ_cons] at h0 h1 h2 h3 h4 h5 h6
  obtain ⟨a, e0, _, wa⟩ := DataW.trod_int Try.underlying3 h0
  obtain ⟨b, e1, _, _⟩ := DataW.trod_int Try.underlying3 h1
  obtain ⟨c, e2, _, _⟩ := DataW.trod_int Try.underlying3 h2
  obtain ⟨d, e3, _, _⟩ := DataW.trod_int Try.underlying3 h3
  obtain ⟨e, e4, _, _⟩ := DataW.trod_int Try.underlying3 h4
  obtain ⟨f, e5, _, _⟩ := DataW.trod_int Try.underlying3 h5
  obtain ⟨s, len, cap, l, e6, hr, _, hw⟩ := open_rows_good csI (fun n => -9223372036854775808 ≤ n ∧ n ≤ 9223372036854775807) Try.underlying30 cells_int_le (by decide) (by
    intro n xs x _ hx
    obtain ⟨a, e0, _, wa⟩ := DataW.trod_int Try.underlying3 hx
    exact ⟨a, e0, bounds_i64 wa⟩) h6
  simp at e0 e1 e2 e3 e4 e5 e6
  subst e0 e1 e2 e3 e4 e5 e6
  obtain ⟨s', c', e3⟩ := RowsAt.form hr
  cases e3
  exact ⟨⟨a, b, c, d, e, f, s, cap, l⟩, rfl, RowsAt.ints hr, bounds_i64 wa, hw⟩
set_option maxRecDepth 100000 in
theorem open_leases {H : Type} {enc : TypeId × Value → H} {w : World} {base : Nat} {v : Value} {d : DataW H} {p : List MemPlace} (hok : Value.okWide Try.prog w .any base 22 v) (h : DataW.Trod enc Try.prog w 0 (fun _ => true) true 22 v d p) :
    ∃ l, LeasesAt w v l ∧ l.length ≤ 9223372036854775807 ∧ ∀ a ∈ l, In18 a.token ∧ ∀ t ∈ a.want, In18 t := by
  obtain ⟨l, h1, h2, h3⟩ := open_rows csLe (fun a => IntsAt w a.v a.want ∧ (-9223372036854775808 ≤ a.token ∧ a.token ≤ 9223372036854775807) ∧ ∀ t ∈ a.want, -9223372036854775808 ≤ t ∧ t ≤ 9223372036854775807) Try.underlying22 cells_leaseO (by decide) (fun _ _ _ hl h => trod_leaseO hl h) hok h
  exact ⟨l, ⟨h1, fun a ha => (h3 a ha).1⟩, h2, fun a ha => (h3 a ha).2⟩
end Go.Proofs.Ytjmgokjljmmmgaa
/- Stage 21: what the proof of WaitsTells leans on. -/
namespace Go.Proofs.Ytjmgokjljmmmgaa
end Go.Proofs.Ytjmgokjljmmmgaa
