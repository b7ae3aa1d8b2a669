/- Stage 25's law RosterDoes: the walk. (wip/gen/gen25V.py writes this text.) -/
import Derived.Test.YtlgemfgikdaelaaRsT
import Derived.Deep.RegionHeld3
import Derived.Deep.DeepCutAuto
import Derived.Deep.CutBlock
namespace Go.Proofs.Ytlgemfgikdaelaa
open Go.RowKit

theorem keep_c25 {w3 q w1 : World} (h : Below w3.heap.size w3 q) (hb : Below q.heap.size q w1) : Below w3.heap.size w3 w1 := h.trans (hb.mono h.size)
theorem DsW.start {F : Nat → Prop} {w w1 : World} {p : Nat} {room : Int} (h1 : RsAt F w1 p room []) (h2 : ∀ k, F k → w.heap.size ≤ k) (h3 : Below w.heap.size w w1) (t : TypeId) :
    DsW w (w1.alloc (.cells #[.int .i64 room, .slice none 0 0, .slice none 0 0] t)) p w1.heap.size room [] [] (.slice none 0 0) (.slice none 0 0) [] 0 := by
  have hal := (Below.refl w1.heap.size w1).alloc (Nat.le_refl _) (.cells #[.int .i64 room, .slice none 0 0, .slice none 0 0] t)
  have hX := Blk.new w1 [.int .i64 room, .slice none 0 0, .slice none 0 0] t
  exact ⟨F, h1.kept hal, h2, h3.trans (hal.mono h3.size), hX, fun e => by have := h1.lt _ e; omega, h3.size, RowsAt.nil _ _ _, fun h0 => absurd h0 (by simp [viewE]), IntsAt.nil _, fun h0 => absurd h0 (by simp), RsOk.nil, BusyR.nil, Nat.le_refl _, by simp⟩
theorem findE_yes {L : List En} {n : Int} (h : hasE L n = true) : findE L n = ((L.getD (befE L n) default).hd, true) := by unfold findE; rw [if_pos h]
theorem findE_no {L : List En} {n : Int} (h : hasE L n = false) : findE L n = (⟨0, 0, false⟩, false) := by unfold findE; rw [if_neg (by simp [h])]

set_option maxHeartbeats 64000000 in
set_option maxRecDepth 100000 in
theorem rosterDoes_any (n : Int) (vl : Value) (l : List Ra) (nd : Int) (vn : Value) (nt : List Int) (w : World) (hl : RowsAt w 4 csRa vl l) (hbits : ∀ a ∈ l, a.bits < 2 ^ 64) (hnd : 0 ≤ nd ∧ nd < 18446744073709551616) (hnt : IntsAt w vn nt) :
    Calls Try.prog 3 #[.int .i64 n, vl, .int .u64 nd, vn] w fun e w' => e = .returned (.bool true) ∧ Below w.heap.size w w' := by
  have GAL := Lib.hid fun w' => rAlive_any w'
  obtain ⟨need, rfl⟩ := Int.eq_ofNat_of_zero_le hnd.1
  have hn64 : need < 2 ^ 64 := by omega
  obtain ⟨la, lc, rfl⟩ := RowsAt.form hl
  obtain ⟨na, nc, rfl⟩ := hnt.form
  by_cases hbig : l.length ≤ 60 ∧ nt.length ≤ 20
  · have b1 : (l.length : Int) ≤ 60 := by omega
    have b2 : (nt.length : Int) ≤ 20 := by omega
    have GN := Lib.hid (rNew_any n w)
    have GC := Lib.hid fun w' => refClip25_any n w'
    have HL := Lib.hid hl
    have HBT := Lib.hid hbits
    have HNT := Lib.hid hnt
    have HN64 := Lib.hid hn64
    have HNL := Lib.hid (show nt.length ≤ 1000 by omega)
    have HL60 := Lib.hid (show l.length ≤ 60 by omega)
    generalize clipR n = room at *
    clear hl hbits hnd hnt hn64 hbig
    go_enter Try.func3, Try.ntmps3
    go_wp2_with (first
      | (go_at_call 6; (with_reducible refine GN.out.mono ?_); rintro e w1 ⟨p, F, rfl, q1, q2, q3⟩; have HD0 := Lib.hid (DsW.start q1 q2 q3 31); clear q1 q2 q3)
      | (go_at_call 7; (with_reducible refine (GC.out _).mono ?_); rintro e w2 ⟨rfl, rfl⟩))
    obtain ⟨q, hq⟩ : ∃ q, w1.heap.size = q := ⟨_, rfl⟩
    rw [hq] at HD0
    simp only [hq]
    go_loopg [40] l.length (fun kx iv ws => ∃ (k : Nat) (L : List En) (hv bv : Value) (B : List Int), k ≤ l.length ∧ l.length - k ≤ kx ∧ iv = .int .i64 k ∧ Hid (DsW w ws p q room L L hv bv B k))
    case atStart => exact ⟨0, [], _, _, [], Nat.zero_le _, Nat.le_refl _, rfl, HD0.out⟩
    case round =>
      clear HD0
      obtain ⟨k, L, hv, bv, B, hk, hkx, rfl, HD⟩ := hrel
      by_cases hlt : k < l.length
      · obtain ⟨g, o, cc, e, -, -, p0, p1, p2, p3⟩ := ra_at (RowsAt.below HL.out (Nat.le_refl _) HD.out.below) k hlt
        cases e
        have hx := HBT.out _ (List.getElem_mem hlt)
        generalize l[k] = x at *
        obtain ⟨kind, id, bi, on⟩ := x
        dsimp only at p0 p1 p2 p3 hx
        obtain ⟨ha, hc, e⟩ := RowsAt.form HD.out.rows
        obtain ⟨ba, bc, e2⟩ := HD.out.ints.form
        subst e e2
        have GD0 := HD.out.act ⟨kind, id, bi, on⟩ hx 33
        dsimp only [rav] at GD0
        have HXB := Lib.hid (Blk.new wr [.int .i64 kind, .int .i64 id, .int .u64 (bi : Int), .bool on] 33)
        have s0 := HXB.out.cell 0 rfl
        have s1 := HXB.out.cell 1 rfl
        have s2 := HXB.out.cell 2 rfl
        have s3 := HXB.out.cell 3 rfl
        have k0 : (0 : Int) ≤ (k : Int) := by omega
        have k1 : (k : Int) < (l.length : Int) := by omega
        have HK := Lib.hid (And.intro hlt hkx)
        have HK60 := Lib.hid (show k + 1 ≤ 60 by have := HL60.out; omega)
        clear hlt hkx hk
        obtain ⟨r, hr⟩ : ∃ r, actE room L ⟨kind, id, bi, on⟩ = r := ⟨_, rfl⟩
        rw [hr] at GD0
        obtain ⟨L', e', t'⟩ := r
        dsimp only at GD0
        have GD := Lib.hid GD0
        have HR := Lib.hid hr
        have HX := Lib.hid hx
        clear GD0 hr hx
        go_upto_block 2 with (go_at_call 8; (with_reducible refine GD.out.mono ?_); rintro e w4 ⟨rfl, r1, r2, r3⟩; have HD4 := Lib.hid r1; have HX4 := Lib.hid r2; have HQ4 := Lib.hid r3; have x0 := HX4.out.cell 0 rfl; clear r1 r2 r3)
        clear s0 s1 s2 s3 GD HXB
        go_cut [15, 16] (fun ev tv wx => ∃ (a1 : Option Addr) (i1 c1 : Nat) (a2 : Option Addr) (i2 c2 : Nat) (B' : List Int), ev = .int .i64 e' ∧ tv = .bool t' ∧ Hid (DsW w wx p q room L' L' (.slice a1 i1 c1) (.slice a2 i2 c2) B' (k + 1)) ∧ Hid (Blk wx wr.heap.size [.int .i64 kind, .int .i64 id, .int .u64 (bi : Int), .bool on]))
        case first =>
          have x1 := HX4.out.cell 1 rfl
          have x2 := HX4.out.cell 2 rfl
          have x3 := HX4.out.cell 3 rfl
          have d0 := HD4.out.box.cell 0 rfl
          have d1 := HD4.out.box.cell 1 rfl
          have d2 := HD4.out.box.cell 2 rfl
          by_cases e1 : kind = 1
          · subst e1
            have hact := HR.out
            rw [show actE room L ⟨1, id, bi, on⟩ = ((addE room L id bi).1, (addE room L id bi).2, false) from by unfold actE; simp] at hact
            simp only [Prod.mk.injEq] at hact
            obtain ⟨h1, h2, h3⟩ := hact
            have GX0 := fun w5 (h : DsW w w5 p q room (addE room L id bi).1 L (.slice ha (viewE L).length hc) (.slice ba B.length bc) B k) => h.add id bi HX.out
            rw [h1, h2] at GX0
            subst h3
            have GX := Lib.hid GX0
            clear GX0 h1 h2
            go_wp2_with (go_at_call 9; (with_reducible refine (GX.out _ HD4.out).mono ?_); rintro e w5 ⟨hv', bv', rfl, ⟨a1, i1, c1, rfl⟩, ⟨a2, i2, c2, rfl⟩, hb, B', r4⟩; have HD5 := Lib.hid r4; have HX5 := Lib.hid (HX4.out.kept hb); have HB5 := Lib.hid (HD4.out.box.kept hb); have y0 := HB5.out.cell 0 rfl; have y1 := HB5.out.cell 1 rfl; have y2 := HB5.out.cell 2 rfl; have z0 := HB5.out.free 0 rfl; have z1 := HB5.out.free 1 rfl; have z2 := HB5.out.free 2 rfl; clear hb r4)
            go_meet
            exact ⟨a1, i1, c1, a2, i2, c2, B', rfl, rfl, HD5.out.more (show k ≤ k + 1 by omega), ((HX5.out.away ⟨q, 0, none⟩ (.int .i64 room) (fun e => HQ4.out e.symm)).away ⟨q, 1, none⟩ (.slice a1 i1 c1) (fun e => HQ4.out e.symm)).away ⟨q, 2, none⟩ (.slice a2 i2 c2) (fun e => HQ4.out e.symm)⟩
          by_cases e2 : kind = 2
          · subst e2
            have hact := HR.out
            rw [show actE room L ⟨2, id, bi, on⟩ = ((setE L id on).1, (setE L id on).2, false) from by unfold actE; simp] at hact
            simp only [Prod.mk.injEq] at hact
            obtain ⟨h1, h2, h3⟩ := hact
            have GX0 := fun w5 (h : DsW w w5 p q room (setE L id on).1 L (.slice ha (viewE L).length hc) (.slice ba B.length bc) B k) => h.set id on
            rw [h1, h2] at GX0
            subst h3
            have GX := Lib.hid GX0
            clear GX0 h1 h2
            go_wp2_with (go_at_call 10; (with_reducible refine (GX.out _ HD4.out).mono ?_); rintro e w5 ⟨hv', bv', rfl, ⟨a1, i1, c1, rfl⟩, ⟨a2, i2, c2, rfl⟩, hb, B', r4⟩; have HD5 := Lib.hid r4; have HX5 := Lib.hid (HX4.out.kept hb); have HB5 := Lib.hid (HD4.out.box.kept hb); have y0 := HB5.out.cell 0 rfl; have y1 := HB5.out.cell 1 rfl; have y2 := HB5.out.cell 2 rfl; have z0 := HB5.out.free 0 rfl; have z1 := HB5.out.free 1 rfl; have z2 := HB5.out.free 2 rfl; clear hb r4)
            go_meet
            exact ⟨a1, i1, c1, a2, i2, c2, B', rfl, rfl, HD5.out.more (show k ≤ k + 1 by omega), ((HX5.out.away ⟨q, 0, none⟩ (.int .i64 room) (fun e => HQ4.out e.symm)).away ⟨q, 1, none⟩ (.slice a1 i1 c1) (fun e => HQ4.out e.symm)).away ⟨q, 2, none⟩ (.slice a2 i2 c2) (fun e => HQ4.out e.symm)⟩
          by_cases e3 : kind = 3
          · subst e3
            have hact := HR.out
            rw [show actE room L ⟨3, id, bi, on⟩ = ((takeE L id).1, (takeE L id).2, false) from by unfold actE; simp] at hact
            simp only [Prod.mk.injEq] at hact
            obtain ⟨h1, h2, h3⟩ := hact
            have GX0 := fun w5 (h : DsW w w5 p q room (takeE L id).1 L (.slice ha (viewE L).length hc) (.slice ba B.length bc) B k) => h.take id (by have := HK60.out; omega)
            rw [h1, h2] at GX0
            subst h3
            have GX := Lib.hid GX0
            clear GX0 h1 h2
            go_wp2_with (go_at_call 11; (with_reducible refine (GX.out _ HD4.out).mono ?_); rintro e w5 ⟨hv', bv', rfl, ⟨a1, i1, c1, rfl⟩, ⟨a2, i2, c2, rfl⟩, hb, B', r4⟩; have HD5 := Lib.hid r4; have HX5 := Lib.hid (HX4.out.kept hb); have HB5 := Lib.hid (HD4.out.box.kept hb); have y0 := HB5.out.cell 0 rfl; have y1 := HB5.out.cell 1 rfl; have y2 := HB5.out.cell 2 rfl; have z0 := HB5.out.free 0 rfl; have z1 := HB5.out.free 1 rfl; have z2 := HB5.out.free 2 rfl; clear hb r4)
            go_meet
            exact ⟨a1, i1, c1, a2, i2, c2, B', rfl, rfl, HD5.out.more (show k + 1 ≤ k + 1 by omega), ((HX5.out.away ⟨q, 0, none⟩ (.int .i64 room) (fun e => HQ4.out e.symm)).away ⟨q, 1, none⟩ (.slice a1 i1 c1) (fun e => HQ4.out e.symm)).away ⟨q, 2, none⟩ (.slice a2 i2 c2) (fun e => HQ4.out e.symm)⟩
          have g1 : (kind == 1) = false := beq_noI e1
          have g2 : (kind == 2) = false := beq_noI e2
          have g3 : (kind == 3) = false := beq_noI e3
          have hact := HR.out
          rw [show actE room L ⟨kind, id, bi, on⟩ = ((giveE L id).1, 0, (giveE L id).2) from by unfold actE; simp [e1, e2, e3]] at hact
          simp only [Prod.mk.injEq] at hact
          obtain ⟨h1, h2, h3⟩ := hact
          have GX0 := fun w5 (h : DsW w w5 p q room (giveE L id).1 L (.slice ha (viewE L).length hc) (.slice ba B.length bc) B k) => h.give id (by have := HK60.out; omega)
          rw [h1, h3] at GX0
          subst h2
          have GX := Lib.hid GX0
          clear GX0 h1 h3 e1 e2 e3
          go_wp2_with (go_at_call 12; (with_reducible refine (GX.out _ HD4.out).mono ?_); rintro e w5 ⟨hv', bv', rfl, ⟨a1, i1, c1, rfl⟩, ⟨a2, i2, c2, rfl⟩, hb, B', r4⟩; have HD5 := Lib.hid r4; have HX5 := Lib.hid (HX4.out.kept hb); have HB5 := Lib.hid (HD4.out.box.kept hb); have y0 := HB5.out.cell 0 rfl; have y1 := HB5.out.cell 1 rfl; have y2 := HB5.out.cell 2 rfl; have z0 := HB5.out.free 0 rfl; have z1 := HB5.out.free 1 rfl; have z2 := HB5.out.free 2 rfl; clear hb r4)
          go_meet
          exact ⟨a1, i1, c1, a2, i2, c2, B', rfl, rfl, HD5.out.more (show k ≤ k + 1 by omega), ((HX5.out.away ⟨q, 0, none⟩ (.int .i64 room) (fun e => HQ4.out e.symm)).away ⟨q, 1, none⟩ (.slice a1 i1 c1) (fun e => HQ4.out e.symm)).away ⟨q, 2, none⟩ (.slice a2 i2 c2) (fun e => HQ4.out e.symm)⟩
        case rest =>
          obtain ⟨a1, i1, c1, a2, i2, c2, B', rfl, rfl, HD6, HX6⟩ := hcut
          have x1 := HX6.out.cell 1 rfl
          clear HD4 HX4 HQ4 HD HX HR x0 p0 p1 p2 p3
          have d0 := HD6.out.box.cell 0 rfl
          have d1 := HD6.out.box.cell 1 rfl
          have d2 := HD6.out.box.cell 2 rfl
          have hfl : (freeE L').length ≤ 16 := by
            obtain ⟨F6, h6⟩ := HD6.out
            have := freeE_len L'
            have := h6.lm
            omega
          have hfo := fun y (hy : y ∈ freeE L') => freeE_on hy
          have hfb := fun y (hy : y ∈ freeE L') => (freeE_bits (show RsOk L' from by obtain ⟨F6, h6⟩ := HD6.out; exact h6.ok)) y hy
          have gp := (show Calls Try.prog 13 #[ptr25 p, .int .u64 (need : Int), .slice na nt.length nc] wc fun e w' => e = .returned (.tuple #[.int .i64 (pickH (freeE L') need nt).1, .bool (pickH (freeE L') need nt).2]) ∧ Below wc.heap.size wc w' from HD6.out.rpick need HN64.out _ nt HNT.out HNL.out)
          have gf := fun w' v (h : RowsAt w' 3 csHd v (freeE L')) (hI : IntsAt w' (.slice na nt.length nc) nt) => refFirst25_any v (freeE L') need _ nt w' h hfl HN64.out hI HNL.out hfo hfb
          have gu := fun w' (h : DsW w w' p q room L' L' (.slice a1 i1 c1) (.slice a2 i2 c2) B' (k + 1)) => h.free (by have := HK60.out; omega)
          have gr := fun w' (h : DsW w w' p q room L' L' (.slice a1 i1 c1) (.slice a2 i2 c2) B' (k + 1)) => h.rfree
          have hfs := fun va w' (h1 : RowsAt w' 3 csHd va (freeE L')) vb (h2 : RowsAt w' 3 csHd vb (freeE L')) => refSame25_any va vb (freeE L') w' h1 h2 (by omega)
          generalize pickH (freeE L') need nt = pr at gp gf
          obtain ⟨px, pt⟩ := pr
          dsimp only at gp gf
          generalize freeE L' = FL at *
          have GP := Lib.hid gp
          have GF := Lib.hid gf
          have GU := Lib.hid gu
          have GR := Lib.hid gr
          have GS := Lib.hid hfs
          clear hfl hfo hfb gp gf gu gr hfs
          go_upto_region 19 with (first
            | (go_at_call 13; (with_reducible refine GP.out.mono ?_); rintro e w7 ⟨rfl, hb⟩; have HD7 := Lib.hid (HD6.out.kept hb); have HX7 := Lib.hid (HX6.out.kept hb); have d0 := HD7.out.box.cell 0 rfl; have d1 := HD7.out.box.cell 1 rfl; have d2 := HD7.out.box.cell 2 rfl; clear hb)
            | (go_at_call 15; (with_reducible refine (GU.out _ HD7.out).mono ?_); rintro e w8 ⟨v8, rfl, r1, hb⟩; obtain ⟨fa, fc, e⟩ := RowsAt.form r1; subst e; have HD8 := Lib.hid (HD7.out.kept hb); have HX8 := Lib.hid (HX7.out.kept hb); have HR8 := Lib.hid r1; clear hb r1)
            | (go_at_call 14; (with_reducible refine (GF.out _ _ HR8.out (HNT.out.below HD8.out.below)).mono ?_); rintro e w9 ⟨rfl, rfl⟩))
          clear d0 d1 d2 HD6 HX6 HD7 HX7 HR8 GP GF
          have Kq0 := fun (w' : World) (h : Below w8.heap.size w8 w') => (HD8.out.box.kept h).cell 0 rfl
          have Kq1 := fun (w' : World) (h : Below w8.heap.size w8 w') => (HD8.out.box.kept h).cell 1 rfl
          have Kq2 := fun (w' : World) (h : Below w8.heap.size w8 w') => (HD8.out.box.kept h).cell 2 rfl
          have Kx1 := fun (w' : World) (h : Below w8.heap.size w8 w') => (HX8.out.kept h).cell 1 rfl
          have hS0 := (Below.refl w8.heap.size w8).drew
          have H1 := Lib.hid fun w' (hb : Below w8.heap.size w8 w') => (HD8.out.kept hb).rview
          have H2 := Lib.hid fun w' (hb : Below w8.heap.size w8 w') va (h : RowsAt w' 3 csHd va (viewE L')) => refSame25_any va (.slice a1 i1 c1) (viewE L') w' h (HD8.out.kept hb).rows (by obtain ⟨F8, h8⟩ := HD8.out; rw [viewE_len]; have := h8.lm; omega)
          have H3 := Lib.hid fun w' (hb : Below w8.heap.size w8 w') => GR.out w' (HD8.out.kept hb)
          have H4 := Lib.hid fun w' (hb : Below w8.heap.size w8 w') => GU.out w' (HD8.out.kept hb)
          have H6 := Lib.hid fun w' (hb : Below w8.heap.size w8 w') => (HD8.out.kept hb).rbusy id
          have H7 := Lib.hid fun w' (hb : Below w8.heap.size w8 w') => (HD8.out.kept hb).in_ (by have := HK60.out; omega) id
          generalize busyE L' id = bz at *
          clear GR GU
          go_region_held3 (fun w' => Below w8.heap.size w8 w') (assumption) ((first
            | (go_at_call 17; with_reducible refine (H1.out _ ‹Below w8.heap.size w8 _›).mono ?_; rintro e u1 ⟨v1, rfl, r1, hb1⟩; obtain ⟨ka, kc, e⟩ := RowsAt.form r1; subst e; have hS1 := keep_c25 ‹Below w8.heap.size w8 _› hb1; have HV1 := Lib.hid r1; clear hb1 r1)
            | (go_at_call 16; with_reducible refine (H2.out _ ‹Below w8.heap.size w8 _› _ HV1.out).mono ?_; rintro e u2 ⟨rfl, hb1⟩; have hS2 := keep_c25 ‹Below w8.heap.size w8 _› hb1; clear hb1 HV1)
            | (go_at_call 18; with_reducible refine (H3.out _ ‹Below w8.heap.size w8 _›).mono ?_; rintro e u3 ⟨v3, rfl, r1, hb1⟩; obtain ⟨ka3, kc3, e⟩ := RowsAt.form r1; subst e; have hS3 := keep_c25 ‹Below w8.heap.size w8 _› hb1; have HV3 := Lib.hid r1; clear hb1 r1)
            | (go_at_call 15; with_reducible refine (H4.out _ ‹Below w8.heap.size w8 _›).mono ?_; rintro e u4 ⟨v4, rfl, r1, hb1⟩; obtain ⟨ka4, kc4, e⟩ := RowsAt.form r1; subst e; have hS4 := keep_c25 ‹Below w8.heap.size w8 _› hb1; have HV4 := Lib.hid r1; have HV5 := Lib.hid (HV3.out.kept hb1); clear hb1 r1)
            | (go_at_call 16; with_reducible refine (GS.out _ _ HV5.out _ HV4.out).mono ?_; rintro e u5 ⟨rfl, hb1⟩; have hS5 := keep_c25 ‹Below w8.heap.size w8 _› hb1; clear hb1)
            | (go_at_call 19; with_reducible refine (H6.out _ ‹Below w8.heap.size w8 _›).mono ?_; rintro e u6 ⟨rfl, hb1⟩; have hS6 := keep_c25 ‹Below w8.heap.size w8 _› hb1; clear hb1)
            | (go_at_call 20; with_reducible refine (H7.out _ ‹Below w8.heap.size w8 _›).mono ?_; rintro e u7 ⟨rfl, rfl⟩)))
          all_goals (
            have HD9 := Lib.hid (HD8.out.kept hS6)
            have HX9 := Lib.hid (HX8.out.kept hS6)
            have x1 := HX9.out.cell 1 rfl
            have d1 := HD9.out.box.cell 1 rfl
            have GFR := HD9.out.rfind id
            clear hS0 hS1 hS2 hS3 hS4 hS5 hS6 Kq0 Kq1 Kq2 Kx1 H1 H2 H3 H4 H6 H7 HD8 HX8 HV3 HV4 HV5 GS
            cases hh : hasE L' id with
            | false =>
              rw [findE_no hh] at GFR
              dsimp only [hdv] at GFR
              have GFN := Lib.hid GFR
              have GFD := Lib.hid fun w' (h : DsW w w' p q room L' L' (.slice a1 i1 c1) (.slice a2 i2 c2) B' (k + 1)) => (show Calls Try.prog 22 #[.slice a1 i1 c1, .int .i64 id] w' fun e w'' => e = .returned (.int .i64 (-1)) ∧ w' = w'' from by have := h.find id; rwa [plcE_neg hh] at this)
              clear GFR hh
              go_upto_region 23 with (first
                | (go_at_call 21; (with_reducible refine GFN.out.mono ?_); rintro e w10 ⟨rfl, hb⟩; have HXA := Lib.hid (Blk.new w10 [.int .i64 0, .int .u64 0, .bool false] 52); have hal := (Below.refl w10.heap.size w10).alloc (Nat.le_refl _) (.cells #[.int .i64 0, .int .u64 0, .bool false] 52); have HDA := Lib.hid ((HD9.out.kept hb).kept hal); have x1 := ((HX9.out.kept hb).kept hal).cell 1 rfl; have d1 := HDA.out.box.cell 1 rfl; have h0 := HXA.out.cell 0 rfl; have h1 := HXA.out.cell 1 rfl; have h2 := HXA.out.cell 2 rfl; clear hb hal)
                | (go_at_call 22; refine (GFD.out _ HDA.out).mono ?_; rintro e w11 ⟨rfl, rfl⟩))
              refine wp_region_calm0 (by kernel_rfl) (by kernel_rfl) fun M => ?_
              have m0 := fun n : In M.w => n.cell (M.cell h0)
              have m1 := fun n : In M.w => n.cell (M.cell h1)
              have m2 := fun n : In M.w => n.cell (M.cell h2)
              have m3 := fun n : In M.w => n.cell (M.cell d1)
              repeat (go_big_quiet_step (fail))
              refine wpQuiet_nil ?_
              intro w12 hb12
              have HDZ := Lib.hid (HDA.out.kept hb12)
              clear m0 m1 m2 m3 M hb12 h0 h1 h2 d1 x1
              go_wp2
              go_roundg (l.length - (k + 1))
              case measure => have := HK.out; omega
              case rel => exact ⟨k + 1, L', _, _, B', by have := HK.out; omega, Nat.le_refl _, by go_num, HDZ.out⟩
            | true =>
              rw [findE_yes hh] at GFR
              have hokL : RsOk L' := by obtain ⟨F9, h9⟩ := HD9.out; exact h9.ok
              obtain ⟨hkL, hdL, -⟩ := hokL.at hh
              rw [hdL] at GFR
              have hkv : befE L' id < (viewE L').length := by rw [viewE_len]; exact hkL
              obtain ⟨g1, o1, cc1, e, -, -, v0, v1, v2⟩ := hd_at HD9.out.rows _ hkv
              simp only [Value.slice.injEq] at e
              obtain ⟨rfl, rfl, rfl⟩ := e
              rw [viewE_get] at v0 v1 v2
              have gfd := fun w' (h : DsW w w' p q room L' L' (.slice (some ⟨g1, o1, none⟩) (viewE L').length c1) (.slice a2 i2 c2) B' (k + 1)) => (show Calls Try.prog 22 #[.slice (some ⟨g1, o1, none⟩) (viewE L').length c1, .int .i64 id] w' fun e w'' => e = .returned (.int .i64 ((befE L' id : Nat) : Int)) ∧ w' = w'' from by have := h.find id; rwa [plcE_pos hh] at this)
              have j0 : (0 : Int) ≤ ((befE L' id : Nat) : Int) := by omega
              have j1 : ((befE L' id : Nat) : Int) < ((viewE L').length : Int) := by omega
              have j2 : ¬ ((befE L' id : Nat) : Int) < 0 := by omega
              have j3 : decide (((befE L' id : Nat) : Int) ≥ 0) = true := by simp
              generalize L'[befE L' id] = y at *
              obtain ⟨yi, yb, yo, yz⟩ := y
              dsimp only [hdv, En.hd] at GFR v0 v1 v2
              generalize befE L' id = kk at *
              have GFN := Lib.hid GFR
              have GFD := Lib.hid gfd
              have VV := Lib.hid fun w' (hb : Below _ _ w') => And.intro ((hb.cell (p := ⟨g1, o1 + kk * 3, none⟩) (World.block_lt_of_cell? _ _ v0)).trans v0) (And.intro ((hb.cell (p := ⟨g1, o1 + kk * 3 + 1, none⟩) (World.block_lt_of_cell? _ _ v1)).trans v1) ((hb.cell (p := ⟨g1, o1 + kk * 3 + 2, none⟩) (World.block_lt_of_cell? _ _ v2)).trans v2))
              clear GFR gfd hh hokL hkL hdL hkv
              go_upto_region 23 with (first
                | (go_at_call 21; (with_reducible refine GFN.out.mono ?_); rintro e w10 ⟨rfl, hb⟩; have HXA := Lib.hid (Blk.new w10 [.int .i64 yi, .int .u64 (yb : Int), .bool yo] 52); have hal := (Below.refl w10.heap.size w10).alloc (Nat.le_refl _) (.cells #[.int .i64 yi, .int .u64 (yb : Int), .bool yo] 52); have HDA := Lib.hid ((HD9.out.kept hb).kept hal); have hba := keep_c25 hb hal; have x1 := ((HX9.out.kept hb).kept hal).cell 1 rfl; have d1 := HDA.out.box.cell 1 rfl; have h0 := HXA.out.cell 0 rfl; have h1 := HXA.out.cell 1 rfl; have h2 := HXA.out.cell 2 rfl; have q0 := (VV.out _ hba).1; have q1 := (VV.out _ hba).2.1; have q2 := (VV.out _ hba).2.2; clear hb hal hba)
                | (go_at_call 22; refine (GFD.out _ HDA.out).mono ?_; rintro e w11 ⟨rfl, rfl⟩))
              refine wp_region_calm0 (by kernel_rfl) (by kernel_rfl) fun M => ?_
              have m0 := fun n : In M.w => n.cell (M.cell h0)
              have m1 := fun n : In M.w => n.cell (M.cell h1)
              have m2 := fun n : In M.w => n.cell (M.cell h2)
              have m3 := fun n : In M.w => n.cell (M.cell d1)
              have m4 := fun n : In M.w => n.cell (M.cell q0)
              have m5 := fun n : In M.w => n.cell (M.cell q1)
              have m6 := fun n : In M.w => n.cell (M.cell q2)
              repeat (go_big_quiet_step (fail))
              refine wpQuiet_nil ?_
              intro w12 hb12
              have HDZ := Lib.hid (HDA.out.kept hb12)
              clear m0 m1 m2 m3 m4 m5 m6 M hb12 h0 h1 h2 d1 x1 q0 q1 q2 v0 v1 v2
              go_wp2
              go_roundg (l.length - (k + 1))
              case measure => have := HK.out; omega
              case rel => exact ⟨k + 1, L', _, _, B', by have := HK.out; omega, Nat.le_refl _, by go_num, HDZ.out⟩)
      · have e : k = l.length := by omega
        subst e
        clear hlt hkx hk
        go_wp2_with (go_at_call 5; (with_reducible refine (GAL.out _).mono ?_); rintro e w3 ⟨rfl, hb⟩; have HZ := Lib.hid (HD.out.below.trans (hb.mono HD.out.below.size)); clear hb)
        go_ret
        exact ⟨rfl, HZ.out⟩
  · clear hl hnt hnd hbits hn64
    by_cases b1 : (l.length : Int) ≤ 60
    · have b2 : ¬ (nt.length : Int) ≤ 20 := by omega
      clear hbig
      go_enter Try.func3, Try.ntmps3
      go_wp2_with (go_at_call 5; (with_reducible refine (GAL.out _).mono ?_); rintro e w1 ⟨rfl, hb⟩; have HB := Lib.hid hb; clear hb)
      go_ret
      exact ⟨rfl, HB.out⟩
    · clear hbig
      go_enter Try.func3, Try.ntmps3
      go_wp2_with (go_at_call 5; (with_reducible refine (GAL.out _).mono ?_); rintro e w1 ⟨rfl, hb⟩; have HB := Lib.hid hb; clear hb)
      go_ret
      exact ⟨rfl, HB.out⟩
end Go.Proofs.Ytlgemfgikdaelaa
