/- Texts of this proof, joined: AisLoadC; TbJ. -/
import Derived.Test.YtbkoogffnchldaaGreatBun17
/- Stage 20: the document's Load. -/
namespace Go.Proofs.YtbkoogffnchldaaGreat
open Go.RowKit

/-- a lease's seat -/
def stL (x : Le) : Sr := ⟨x.token, x.got, x.a, x.c, x.want⟩
theorem stL_next (Xs : List Le) (k : Nat) (hk : k < Xs.length) : (Xs.take (k + 1)).map stL = (Xs.take k).map stL ++ [stL Xs[k]] := by
  rw [List.take_succ_eq_append_getElem hk, List.map_append, List.map_singleton]
theorem idsL_next (Ls : List Lr) (k : Nat) (hk : k < Ls.length) : idsL (Ls.take (k + 1)) = idsL (Ls.take k) ++ [Ls[k].id] := by
  unfold idsL
  rw [List.take_succ_eq_append_getElem hk, List.map_append, List.map_singleton]
theorem atX {w : World} {v : Value} {l : List Le} (h : RowsAt w 7 csLe v l) (k : Nat) (hk : k < l.length) :
    ∃ g o c, v = .slice (some ⟨g, o, none⟩) l.length c ∧ l.length ≤ c ∧ g < w.heap.size ∧ w.cell? ⟨g, o + k * 7, none⟩ = some (.int .i64 l[k].token) ∧ w.cell? ⟨g, o + k * 7 + 1, none⟩ = some (.int .i64 l[k].task) ∧ w.cell? ⟨g, o + k * 7 + 2, none⟩ = some (.int .i64 l[k].worker) ∧ w.cell? ⟨g, o + k * 7 + 3, none⟩ = some (.int .i64 l[k].unit) ∧ w.cell? ⟨g, o + k * 7 + 4, none⟩ = some (.int .i64 l[k].due) ∧ w.cell? ⟨g, o + k * 7 + 5, none⟩ = some (.int .i64 l[k].got) ∧ w.cell? ⟨g, o + k * 7 + 6, none⟩ = some l[k].v := by
  obtain ⟨g, o, c, e, hc, hg, hx⟩ := h.spot k hk
  exact ⟨g, o, c, e, hc, hg, hx 0 _ rfl, hx 1 _ rfl, hx 2 _ rfl, hx 3 _ rfl, hx 4 _ rfl, hx 5 _ rfl, hx 6 _ rfl⟩
theorem lesB_at {ids : List Int} {Xs : List Le} {k : Nat} (hk : k < Xs.length) (last : Int) : lesB ids last (Xs.drop k) = (decide (last < Xs[k].token) && (rightB Xs[k].want && (decide (0 ≤ Xs[k].got) && (decide (Xs[k].got ≤ (Xs[k].want.length : Int)) && (Xs[k].want.all (fun a => inL ids a) && lesB ids Xs[k].token (Xs.drop (k + 1))))))) := by
  rw [List.drop_eq_getElem_cons hk]
  rfl
theorem seatB_mk {Ls : List Lr} {Xs : List Le} (hn : (Xs.map Le.token).Nodup) {x : Le} (hx : x ∈ Xs) : seatB (mkT Ls Xs) x.token = seatV Ls x.token x.got.toNat x.want := by
  obtain ⟨h1, h2⟩ := mk_seat (Ls := Ls) hn hx
  unfold seatB seatV
  rw [h1, h2]
  rfl
theorem put20 {W w : World} {u1 u2 : Value} (hX : Blk w W.heap.size [u1, u2]) (hB : Below W.heap.size W w) (v1 v2 : Value) : Blk ((w.setCell ⟨W.heap.size, 0, none⟩ v1).setCell ⟨W.heap.size, 1, none⟩ v2) W.heap.size [v1, v2] ∧ Below W.heap.size W ((w.setCell ⟨W.heap.size, 0, none⟩ v1).setCell ⟨W.heap.size, 1, none⟩ v2) :=
  ⟨(hX.set 0 v1).set 1 v2, (hB.setCell (p := ⟨W.heap.size, 0, none⟩) (by simp) _).setCell (p := ⟨W.heap.size, 1, none⟩) (by simp) _⟩
set_option maxHeartbeats 16000000 in
set_option maxRecDepth 100000 in
theorem refLoad20_any (va vb : Value) (Ls : List Lr) (Xs : List Le) (W : World) (G : Nat → Prop) (hl : LocksAt W va Ls) (hx : LeasesAt W vb Xs) (hll : Ls.length ≤ 1000) (hxl : Xs.length ≤ 1000) (hlw : ∀ x ∈ Ls, x.wait.length ≤ 1000) (hxw : ∀ x ∈ Xs, x.want.length ≤ 1000)
    (g1 : 0 < Ls.length → ∀ k, va.ownBlock = some k → G k) (g2 : ∀ x ∈ Ls, 0 < x.wait.length → ∀ k, x.v.ownBlock = some k → G k) (g3 : ∀ x ∈ Xs, 0 < x.want.length → ∀ k, x.v.ownBlock = some k → G k) (g4 : ∀ k, G k → k < W.heap.size) :
    Calls Tryz.prog 7 #[va, vb] W fun e w' => ∃ v1 v2, e = .returned (.tuple #[tbv v1 v2, .int .i64 (if loadB Ls Xs = true then 0 else 1)]) ∧ (∃ x y z, v1 = .slice x y z) ∧ (∃ x y z, v2 = .slice x y z) ∧ (loadB Ls Xs = true → ∃ G', DocAt G' w' v1 v2 (mkT Ls Xs) ∧ ∀ k, G' k → G k ∨ W.heap.size ≤ k) ∧ Below W.heap.size W w' := by
  obtain ⟨er, her⟩ : ∃ er : Int, (if loadB Ls Xs = true then 0 else 1) = er := ⟨_, rfl⟩
  rw [her]
  obtain ⟨M, hM⟩ : ∃ M : Prop, (loadB Ls Xs = true) = M := ⟨_, rfl⟩
  obtain ⟨TN, hTN⟩ : ∃ TN, mkT Ls Xs = TN := ⟨_, rfl⟩
  rw [hM, hTN]
  have HNO := Lib.hid (show loadB Ls Xs = false → er = 1 ∧ ¬ M from fun h => by
    rw [h] at her hM
    exact ⟨her.symm, by rw [← hM]; simp⟩)
  have HYES := Lib.hid (show loadB Ls Xs = true → er = 0 from fun h => by
    rw [h] at her
    exact her.symm)
  have HTN := Lib.hid hTN
  have HL := Lib.hid hl
  have HX := Lib.hid hx
  have HLL := Lib.hid hll
  have HXL := Lib.hid hxl
  have HLW := Lib.hid hlw
  have HXW := Lib.hid hxw
  have HG := Lib.hid (And.intro g1 (And.intro g2 (And.intro g3 g4)))
  obtain ⟨al, cl, rfl⟩ := RowsAt.form hl.rows
  obtain ⟨ax, cx, rfl⟩ := RowsAt.form hx.rows
  have hal := (Below.refl W.heap.size W).alloc (Nat.le_refl _) (.cells #[.slice none 0 0, .slice none 0 0] 38)
  have hR := Blk.new W [.slice none 0 0, .slice none 0 0] 38
  clear her hM hTN hl hx hll hxl hlw hxw g1 g2 g3 g4
  go_enter Tryz.func7, Tryz.ntmps7
  go_wp2
  generalize hw1 : W.alloc (.cells #[.slice none 0 0, .slice none 0 0] 38) = w1 at *
  replace hR : Blk w1 W.heap.size [.slice none 0 0, .slice none 0 0] := hR
  have HAL := Lib.hid hal
  have HR := Lib.hid hR
  clear hal hR hw1
  go_loopg [6, 7] Ls.length (fun kx sv iv wr => ∃ k : Nat, k ≤ Ls.length ∧ Ls.length - k ≤ kx ∧ iv = .int .i64 k ∧ Hid (OwnI wr w1.heap.size sv (idsL (Ls.take k))) ∧ Hid (Below w1.heap.size w1 wr))
  case atStart => exact ⟨0, Nat.zero_le _, Nat.le_refl _, rfl, OwnR.nil _ _ _ _ _, Below.refl _ _⟩
  case round =>
    obtain ⟨k, hk, hkx, rfl, HO, HB⟩ := hrel
    obtain ⟨aT, cT, e⟩ := (OwnI.ints HO.out).form
    subst e
    by_cases hlt : k < Ls.length
    · have HLT := Lib.hid (And.intro hlt hkx)
      have k0 : (0 : Int) ≤ (k : Int) := by omega
      have k1 : (k : Int) < (Ls.length : Int) := by omega
      have k2 : (k : Int) ≤ 1000 := by have := HLL.out; omega
      obtain ⟨g, o, cc, e, _, _, p0, p1, p2⟩ := RowsAt.atL (RowsAt.kept HL.out.rows (HAL.out.trans (HB.out.mono HAL.out.size))) k hlt
      cases e
      have hnx := idsL_next Ls k hlt
      have hle : (idsL (Ls.take k)).length ≤ 1000 := by
        unfold idsL
        rw [List.length_map, List.length_take]
        have := HLL.out
        omega
      obtain ⟨id, hid⟩ : ∃ id, (Ls[k]'hlt).id = id := ⟨_, rfl⟩
      rw [hid] at p0 hnx
      have HNX := Lib.hid hnx
      have HLE := Lib.hid hle
      generalize idsL (Ls.take k) = D at *
      clear hk hkx hlt hnx hle hid p1 p2
      go_wp2_with (at_builtin; refine app1 HO.out HB.out.size (by have := HLE.out; omega) rfl _ _ rfl rfl rfl ?_; intro v6 w6 o6 b6; have HO6 := Lib.hid o6; have HB6 := Lib.hid (HB.out.trans b6); clear o6 b6 p0)
      go_roundg (Ls.length - (k + 1))
      case measure => have := HLT.out; omega
      case rel => exact ⟨k + 1, by have := HLT.out; omega, Nat.le_refl _, by go_num, by rw [HNX.out]; exact HO6.out, HB6.out⟩
    · have k1 : ¬ (k : Int) < (Ls.length : Int) := by omega
      have hke : k = Ls.length := by omega
      have ho := HO.out
      rw [hke, List.take_length] at ho
      have hin : (idsL (Ls.take k)).length = (idsL Ls).length := by rw [hke, List.take_length]
      rw [hin]
      obtain ⟨n, hn⟩ : ∃ n, (idsL Ls).length = n := ⟨_, rfl⟩
      rw [hn] at ho ⊢
      have hnl : n = Ls.length := by rw [← hn]; simp [idsL]
      have HN := Lib.hid hn
      have HNL := Lib.hid hnl
      have HO2 := Lib.hid ho
      have GM := Lib.hid (refMay20_any (.slice aT n cT) (idsL Ls) wr (OwnI.ints ho) (by have := HLL.out; omega))
      clear hk hkx hlt hke ho hin hn hnl HO
      generalize hw2 : wr = w2 at *
      clear hw2
      cases hm : mayB (idsL Ls) with
      | false =>
        have HNE := Lib.hid (HNO.out (by unfold loadB; rw [hm]; rfl))
        rw [hm] at GM
        clear hm
        go_upto_region 7 with (go_at_call 24; (with_reducible refine GM.out.mono ?_); rintro e w3 ⟨rfl, b3⟩; have hb3 := HB.out.trans (b3.mono HB.out.size); clear b3)
        have hRx := HR.out.kept hb3
        have c0 := hRx.cell 0 rfl
        have c1 := hRx.cell 1 rfl
        have z0 := hRx.free 0 rfl
        have z1 := hRx.free 1 rfl
        have hp := put20 hRx (HAL.out.trans (Below.mono hb3 HAL.out.size)) (.slice none 0 0) (.slice none 0 0)
        have r0 := hp.1.cell 0 rfl
        have r1 := hp.1.cell 1 rfl
        have HBx := Lib.hid hp.2
        clear hRx hp
        go_wp2
        refine bodyPost_ret (v := .tuple #[tbv (.slice none 0 0) (.slice none 0 0), .int .i64 1]) ?_ rfl ⟨_, _, congrArg (fun b => Ending.returned (.tuple #[tbv (.slice none 0 0) (.slice none 0 0), .int .i64 b])) HNE.out.1.symm, ⟨_, _, _, rfl⟩, ⟨_, _, _, rfl⟩, fun h => absurd h HNE.out.2, HBx.out⟩
        simp [results, Tryz.results7, go_sem, r0, r1]
      | true =>
        by_cases h64 : Xs.length ≤ 64
        · have n1 : ¬ (64 : Int) < (Xs.length : Int) := by omega
          obtain ⟨q, hq⟩ : ∃ q, lesB (idsL Ls) 0 Xs = q := ⟨_, rfl⟩
          have hnoq : q = false → er = 1 ∧ ¬ M := fun h => HNO.out (by unfold loadB; rw [hq, h, Bool.false_and, Bool.and_false])
          have HNOQ := Lib.hid hnoq
          have HQ := Lib.hid hq
          have HM := Lib.hid hm
          have H64 := Lib.hid h64
          rw [hm] at GM
          clear hm hq hnoq h64
          go_upto_region 8 with (go_at_call 24; (with_reducible refine GM.out.mono ?_); rintro e w3 ⟨rfl, b3⟩; have HB3 := Lib.hid (HB.out.trans (b3.mono HB.out.size)); have HO3 := Lib.hid (OwnR.kept HO2.out b3); clear b3)
          have hal4 := (Below.refl w3.heap.size w3).alloc (Nat.le_refl _) (.cells #[.slice al Ls.length cl, .slice none 0 0] 38)
          have hK := Blk.new w3 [.slice al Ls.length cl, .slice none 0 0] 38
          have hz4 : (w3.alloc (.cells #[.slice al Ls.length cl, .slice none 0 0] 38)).heap.size = w3.heap.size + 1 := by simp
          go_wp2
          generalize hw4 : w3.alloc (.cells #[.slice al Ls.length cl, .slice none 0 0] 38) = w4 at *
          replace hK : Blk w4 w3.heap.size [.slice al Ls.length cl, .slice none 0 0] := hK
          have HK := Lib.hid hK
          have HAL4 := Lib.hid hal4
          have HZ4 := Lib.hid (show w3.heap.size + 1 ≤ w4.heap.size by omega)
          have HIA := Lib.hid (OwnI.ints HO3.out)
          clear hw4 hK hal4 hz4
          go_loopg [9, 10] Xs.length (fun kx lv iv ws => ∃ (k : Nat) (last : Int) (sv : Value), k ≤ Xs.length ∧ Xs.length - k ≤ kx ∧ lv = .int .i64 last ∧ iv = .int .i64 k ∧ Hid (lesB (idsL Ls) last (Xs.drop k) = q) ∧ Hid (OwnR ws (w3.heap.size + 1) 68 3 csSt sv ((Xs.take k).map stL)) ∧ Hid (Blk ws w3.heap.size [.slice al Ls.length cl, sv]) ∧ Hid (Below w3.heap.size w3 ws) ∧ Hid (w3.heap.size + 1 ≤ ws.heap.size))
          case atStart => exact ⟨0, 0, .slice none 0 0, Nat.zero_le _, Nat.le_refl _, rfl, rfl, HQ.out, OwnR.nil _ _ _ _ _, HK.out, HAL4.out, HZ4.out⟩
          case round =>
            obtain ⟨k, last, sv, hk, hkx, rfl, rfl, HRK, HO5, HK5, HB5, HZ5⟩ := hrel
            obtain ⟨asv, csv, e⟩ := RowsAt.form (OwnR.rows csSt_len HO5.out)
            rw [List.length_map, List.length_take, Nat.min_eq_left hk] at e
            subst e
            have HB15 := Lib.hid (HB3.out.trans (HB5.out.mono HB3.out.size))
            by_cases hlt : k < Xs.length
            · have HLT := Lib.hid (And.intro hlt hkx)
              have k0 : (0 : Int) ≤ (k : Int) := by omega
              have k1 : (k : Int) < (Xs.length : Int) := by omega
              have k2 : (k : Int) ≤ 64 := by have := H64.out; omega
              have hw5 := HAL.out.trans (HB15.out.mono HAL.out.size)
              obtain ⟨g, o, cc, e, _, _, p0, p1, p2, p3, p4, p5, p6⟩ := atX (RowsAt.kept HX.out.rows hw5) k hlt
              cases e
              have hxi := (HX.out.each _ (List.getElem_mem hlt)).below hw5
              have hxw := HXW.out _ (List.getElem_mem hlt)
              have hrk := HRK.out
              rw [lesB_at hlt] at hrk
              have hnx := stL_next Xs k hlt
              obtain ⟨⟨tk, ta, wo, un, du, go, xa, xc, xw⟩, hx⟩ : ∃ x, Xs[k]'hlt = x := ⟨_, rfl⟩
              rw [hx] at p0 p1 p2 p3 p4 p5 p6 hxi hxw hrk hnx
              simp only at p0 p1 p2 p3 p4 p5 hxw hrk
              obtain ⟨xn, hxn⟩ : ∃ n, xw.length = n := ⟨_, rfl⟩
              change _ = some (Value.slice xa xw.length xc) at p6
              replace hxi : IntsAt wr (.slice xa xw.length xc) xw := hxi
              rw [hxn] at p6 hxi hrk hxw
              have HXN := Lib.hid hxn
              have HNX := Lib.hid hnx
              have HXLN := Lib.hid hxw
              have hbx := (Below.refl wr.heap.size wr).alloc (Nat.le_refl _) (.cells #[.int .i64 tk, .int .i64 ta, .int .i64 wo, .int .i64 un, .int .i64 du, .int .i64 go, .slice xa xn xc] 29)
              have hXB := Blk.new wr [.int .i64 tk, .int .i64 ta, .int .i64 wo, .int .i64 un, .int .i64 du, .int .i64 go, .slice xa xn xc] 29
              have GR := Lib.hid (refRight_any (.slice xa xn xc) xw (wr.alloc (.cells #[.int .i64 tk, .int .i64 ta, .int .i64 wo, .int .i64 un, .int .i64 du, .int .i64 go, .slice xa xn xc] 29)) (hxi.below hbx) (by omega))
              have HXI := Lib.hid (hxi.below hbx)
              go_upto_region 14 with fail
              clear p0 p1 p2 p3 p4 p5 p6
              generalize hw6 : wr.alloc (.cells #[.int .i64 tk, .int .i64 ta, .int .i64 wo, .int .i64 un, .int .i64 du, .int .i64 go, .slice xa xn xc] 29) = w6 at *
              replace hXB : Blk w6 wr.heap.size [.int .i64 tk, .int .i64 ta, .int .i64 wo, .int .i64 un, .int .i64 du, .int .i64 go, .slice xa xn xc] := hXB
              have HXB := Lib.hid hXB
              have HB6 := Lib.hid hbx
              have hb16 := HB15.out.trans (hbx.mono HB15.out.size)
              have HB16 := Lib.hid hb16
              have x0 := hXB.cell 0 rfl
              have x5 := hXB.cell 5 rfl
              have x6 := hXB.cell 6 rfl
              clear hk hkx hlt hw5 hxi hxw hx hxn hnx hbx hXB hw6 HRK hb16
              by_cases h1 : last < tk
              · have q1 : ¬ tk ≤ last := by omega
                rw [decide_eq_true h1, Bool.true_and] at hrk
                cases h2 : rightB xw with
                | false =>
                  rw [h2, Bool.false_and] at hrk
                  have HNE := Lib.hid (HNOQ.out hrk.symm)
                  rw [h2] at GR
                  clear hrk h1 h2
                  go_upto_region 15 with (go_at_call 25; (with_reducible refine GR.out.mono ?_); rintro e w7 ⟨rfl, b7⟩; have hb17 := HB16.out.trans (b7.mono HB16.out.size); clear b7 x0 x5 x6)
                  have hRx := HR.out.kept hb17
                  have c0 := hRx.cell 0 rfl
                  have c1 := hRx.cell 1 rfl
                  have z0 := hRx.free 0 rfl
                  have z1 := hRx.free 1 rfl
                  have hp := put20 hRx (HAL.out.trans (Below.mono hb17 HAL.out.size)) (.slice none 0 0) (.slice none 0 0)
                  have r0 := hp.1.cell 0 rfl
                  have r1 := hp.1.cell 1 rfl
                  have HBx := Lib.hid hp.2
                  clear hRx hp
                  go_wp2
                  refine bodyPost_ret (v := .tuple #[tbv (.slice none 0 0) (.slice none 0 0), .int .i64 1]) ?_ rfl ⟨_, _, congrArg (fun b => Ending.returned (.tuple #[tbv (.slice none 0 0) (.slice none 0 0), .int .i64 b])) HNE.out.1.symm, ⟨_, _, _, rfl⟩, ⟨_, _, _, rfl⟩, fun h => absurd h HNE.out.2, HBx.out⟩
                  simp [results, Tryz.results7, go_sem, r0, r1]
                | true =>
                  rw [h2, Bool.true_and] at hrk
                  rw [h2] at GR
                  by_cases h4 : 0 ≤ go
                  · have q4 : ¬ go < 0 := by omega
                    rw [decide_eq_true h4, Bool.true_and] at hrk
                    by_cases h5 : go ≤ (xn : Int)
                    · have q5 : ¬ (xn : Int) < go := by omega
                      rw [decide_eq_true h5, Bool.true_and] at hrk
                      have HRK := Lib.hid hrk
                      have H1 := Lib.hid h1
                      clear hrk h1 h2 h4 h5
                      have HO6 := Lib.hid (OwnR.kept HO5.out HB6.out)
                      have HK6 := Lib.hid (HK5.out.kept HB6.out)
                      have HB56 := Lib.hid (HB5.out.trans (HB6.out.mono HB5.out.size))
                      have HZ6 := Lib.hid (Nat.le_trans HZ5.out HB6.out.size)
                      generalize hlx : wr.heap.size = lx at *
                      have HLX := Lib.hid hlx
                      clear hlx
                      go_upto_region 16 with (go_at_call 25; (with_reducible refine GR.out.mono ?_); rintro e w7 ⟨rfl, b7⟩; have HB7 := Lib.hid b7; have hXB7 := HXB.out.kept b7; have y5 := hXB7.cell 5 rfl; have y6 := hXB7.cell 6 rfl; clear b7 x0 x5 x6)
                      have HX7 := Lib.hid hXB7
                      have HI7 := Lib.hid (HXI.out.below HB7.out)
                      have hb7 := Below.refl w7.heap.size w7
                      clear y5 y6 hXB7
                      go_wp2
                      go_loopg [12] xn (fun jx jv ws => ∃ j : Nat, j ≤ xn ∧ xn - j ≤ jx ∧ jv = .int .i64 j ∧ Hid ((xw.take j).all (fun a => inL (idsL Ls) a) = true) ∧ Below w7.heap.size w7 ws)
                      case atStart => exact ⟨0, Nat.zero_le _, Nat.le_refl _, rfl, rfl, hb7⟩
                      case round =>
                        clear hb7
                        obtain ⟨j, hj, hjx, rfl, HWI, hbj⟩ := hrel
                        have y6 := (HX7.out.kept hbj).cell 6 rfl
                        have y0 := (HX7.out.kept hbj).cell 0 rfl
                        have y5 := (HX7.out.kept hbj).cell 5 rfl
                        by_cases hjt : j < xn
                        · have HJT := Lib.hid (And.intro hjt hjx)
                          have j0 : (0 : Int) ≤ (j : Int) := by omega
                          have j1 : (j : Int) < (xn : Int) := by omega
                          have j2 : (j : Int) ≤ 1000 := by have := HXLN.out; omega
                          have hjl : j < xw.length := by rw [HXN.out]; omega
                          obtain ⟨g2, o2, c2, e2, _, _, m0⟩ := (HI7.out.below hbj).spot j hjl
                          rw [HXN.out] at e2
                          cases e2
                          have hbz := HB7.out.trans (hbj.mono HB7.out.size)
                          have hb5z := HB56.out.trans (hbz.mono HB56.out.size)
                          have HB1Z := Lib.hid (HB3.out.trans (hb5z.mono HB3.out.size))
                          have GI := Lib.hid (refIn_any (.slice aT n cT) (idsL Ls) (xw[j]'hjl) wr (HIA.out.below hb5z) (by have := HLL.out; have := HNL.out; have := HN.out; omega))
                          have hxm := List.getElem_mem hjl
                          have hsn : xw.take (j + 1) = xw.take j ++ [xw[j]'hjl] := List.take_succ_eq_append_getElem hjl
                          obtain ⟨y, hy⟩ : ∃ y, xw[j]'hjl = y := ⟨_, rfl⟩
                          rw [hy] at m0 GI hxm hsn
                          have HXM := Lib.hid hxm
                          have HSN := Lib.hid hsn
                          have HBJ := Lib.hid hbj
                          clear hj hjx hjt hjl hbz hb5z hbj hy hxm hsn y0 y5
                          cases hi : inL (idsL Ls) y with
                          | false =>
                            have HNE := Lib.hid (HNOQ.out (by
                              rw [← HRK.out, show (xw.all fun a => inL (idsL Ls) a) = false from List.all_eq_false.2 ⟨y, HXM.out, by rw [hi]; simp⟩]
                              rfl))
                            rw [hi] at GI
                            clear hi
                            go_upto_region 20 with (go_at_call 26; (with_reducible refine GI.out.mono ?_); rintro e w8 ⟨rfl, rfl⟩)
                            have hb17 := HB1Z.out
                            clear y6 m0
                            have hRx := HR.out.kept hb17
                            have c0 := hRx.cell 0 rfl
                            have c1 := hRx.cell 1 rfl
                            have z0 := hRx.free 0 rfl
                            have z1 := hRx.free 1 rfl
                            have hp := put20 hRx (HAL.out.trans (Below.mono hb17 HAL.out.size)) (.slice none 0 0) (.slice none 0 0)
                            have r0 := hp.1.cell 0 rfl
                            have r1 := hp.1.cell 1 rfl
                            have HBx := Lib.hid hp.2
                            clear hRx hp
                            go_wp2
                            refine bodyPost_ret (v := .tuple #[tbv (.slice none 0 0) (.slice none 0 0), .int .i64 1]) ?_ rfl ⟨_, _, congrArg (fun b => Ending.returned (.tuple #[tbv (.slice none 0 0) (.slice none 0 0), .int .i64 b])) HNE.out.1.symm, ⟨_, _, _, rfl⟩, ⟨_, _, _, rfl⟩, fun h => absurd h HNE.out.2, HBx.out⟩
                            simp [results, Tryz.results7, go_sem, r0, r1]
                          | true =>
                            have HWN := Lib.hid (show (xw.take (j + 1)).all (fun a => inL (idsL Ls) a) = true by
                              rw [HSN.out, List.all_append, HWI.out]
                              simp [hi])
                            rw [hi] at GI
                            clear hi
                            go_wp2_with (go_at_call 26; (with_reducible refine GI.out.mono ?_); rintro e w8 ⟨rfl, rfl⟩)
                            go_roundg (xn - (j + 1))
                            case measure => have := HJT.out; omega
                            case rel => exact ⟨j + 1, by have := HJT.out; omega, Nat.le_refl _, by go_num, HWN.out, HBJ.out⟩
                        · have j1 : ¬ (j : Int) < (xn : Int) := by omega
                          have hja : (xw.all fun a => inL (idsL Ls) a) = true := by
                            rw [← HWI.out, List.take_of_length_le (by rw [HXN.out]; omega)]
                          have hrk2 := HRK.out
                          rw [hja, Bool.true_and] at hrk2
                          have HRK2 := Lib.hid hrk2
                          have hbz := HB7.out.trans (hbj.mono HB7.out.size)
                          have HO8 := Lib.hid (OwnR.kept HO6.out hbz)
                          have hK8 := HK6.out.kept hbz
                          have HK8 := Lib.hid hK8
                          have k8 := hK8.cell 1 rfl
                          have hz8 : w3.heap.size + 1 ≤ wr.heap.size := Nat.le_trans HZ6.out hbz.size
                          have HZ8 := Lib.hid hz8
                          have HB8 := Lib.hid (HB56.out.trans (hbz.mono HB56.out.size))
                          clear hj hjx hjt hja hrk2 hbz hK8 hz8 hbj
                          generalize wr = w8 at *
                          generalize hD : (Xs.take k).map stL = D at *
                          have hDl : D.length = k := by
                            rw [← hD, List.length_map, List.length_take]
                            have := HLT.out
                            omega
                          have HDL := Lib.hid hDl
                          clear hD hDl
                          have hxn := HXN.out
                          clear HXN
                          subst hxn
                          go_wp2_with (at_builtin; refine appS ⟨tk, go, xa, xc, xw⟩ HO8.out HZ8.out (by have := HDL.out; omega) rfl _ _ rfl rfl rfl ?_; intro v9 w9 o9 b9 _ _; obtain ⟨a9, cc9, e9⟩ := RowsAt.form (OwnR.rows csSt_len o9); rw [List.length_append, List.length_singleton, HDL.out] at e9; subst e9; have hK9 := HK8.out.same (b9.block w3.heap.size (by omega)); have c9 := hK9.cell 1 rfl; have z9 := hK9.free 1 rfl; have HK9 := Lib.hid (hK9.set 1 (.slice a9 (k + 1) cc9)); have HO9 := Lib.hid (OwnR.away o9 ⟨w3.heap.size, 1, none⟩ (.slice a9 (k + 1) cc9) (fun e => by have := (World.ownsRow.lt o9 w3.heap.size e).1; omega)); have HB9 := Lib.hid ((HB8.out.trans (b9.mono (by omega))).setCell (p := ⟨w3.heap.size, 1, none⟩) (by simp) (.slice a9 (k + 1) cc9)); have HZ9 := Lib.hid (show w3.heap.size + 1 ≤ (w9.setCell ⟨w3.heap.size, 1, none⟩ (.slice a9 (k + 1) cc9)).heap.size by rw [size_setCell]; exact Nat.le_trans HZ8.out b9.size); clear o9 b9 hK9)
                          go_roundg (Xs.length - (k + 1))
                          case measure => have := HLT.out; omega
                          case rel => exact ⟨k + 1, tk, _, by have := HLT.out; omega, Nat.le_refl _, rfl, by go_num, HRK2.out, by rw [HNX.out]; exact HO9.out, HK9.out, HB9.out, HZ9.out⟩
                    · have q5 : (xn : Int) < go := by omega
                      rw [decide_eq_false h5, Bool.false_and] at hrk
                      have HNE := Lib.hid (HNOQ.out hrk.symm)
                      clear hrk h1 h2 h4 h5
                      go_upto_region 15 with (go_at_call 25; (with_reducible refine GR.out.mono ?_); rintro e w7 ⟨rfl, b7⟩; have hb17 := HB16.out.trans (b7.mono HB16.out.size); have y5 := (HXB.out.kept b7).cell 5 rfl; have y6 := (HXB.out.kept b7).cell 6 rfl; clear b7 x0 x5 x6)
                      have hRx := HR.out.kept hb17
                      have c0 := hRx.cell 0 rfl
                      have c1 := hRx.cell 1 rfl
                      have z0 := hRx.free 0 rfl
                      have z1 := hRx.free 1 rfl
                      have hp := put20 hRx (HAL.out.trans (Below.mono hb17 HAL.out.size)) (.slice none 0 0) (.slice none 0 0)
                      have r0 := hp.1.cell 0 rfl
                      have r1 := hp.1.cell 1 rfl
                      have HBx := Lib.hid hp.2
                      clear hRx hp
                      go_wp2
                      refine bodyPost_ret (v := .tuple #[tbv (.slice none 0 0) (.slice none 0 0), .int .i64 1]) ?_ rfl ⟨_, _, congrArg (fun b => Ending.returned (.tuple #[tbv (.slice none 0 0) (.slice none 0 0), .int .i64 b])) HNE.out.1.symm, ⟨_, _, _, rfl⟩, ⟨_, _, _, rfl⟩, fun h => absurd h HNE.out.2, HBx.out⟩
                      simp [results, Tryz.results7, go_sem, r0, r1]
                  · have q4 : go < 0 := by omega
                    rw [decide_eq_false h4, Bool.false_and] at hrk
                    have HNE := Lib.hid (HNOQ.out hrk.symm)
                    clear hrk h1 h2 h4
                    go_upto_region 15 with (go_at_call 25; (with_reducible refine GR.out.mono ?_); rintro e w7 ⟨rfl, b7⟩; have hb17 := HB16.out.trans (b7.mono HB16.out.size); have y5 := (HXB.out.kept b7).cell 5 rfl; have y6 := (HXB.out.kept b7).cell 6 rfl; clear b7 x0 x5 x6)
                    have hRx := HR.out.kept hb17
                    have c0 := hRx.cell 0 rfl
                    have c1 := hRx.cell 1 rfl
                    have z0 := hRx.free 0 rfl
                    have z1 := hRx.free 1 rfl
                    have hp := put20 hRx (HAL.out.trans (Below.mono hb17 HAL.out.size)) (.slice none 0 0) (.slice none 0 0)
                    have r0 := hp.1.cell 0 rfl
                    have r1 := hp.1.cell 1 rfl
                    have HBx := Lib.hid hp.2
                    clear hRx hp
                    go_wp2
                    refine bodyPost_ret (v := .tuple #[tbv (.slice none 0 0) (.slice none 0 0), .int .i64 1]) ?_ rfl ⟨_, _, congrArg (fun b => Ending.returned (.tuple #[tbv (.slice none 0 0) (.slice none 0 0), .int .i64 b])) HNE.out.1.symm, ⟨_, _, _, rfl⟩, ⟨_, _, _, rfl⟩, fun h => absurd h HNE.out.2, HBx.out⟩
                    simp [results, Tryz.results7, go_sem, r0, r1]
              · have q1 : tk ≤ last := by omega
                rw [decide_eq_false h1, Bool.false_and] at hrk
                have HNE := Lib.hid (HNOQ.out hrk.symm)
                clear hrk h1
                go_upto_region 15 with fail
                clear x0 x5 x6
                have hb17 := HB16.out
                have hRx := HR.out.kept hb17
                have c0 := hRx.cell 0 rfl
                have c1 := hRx.cell 1 rfl
                have z0 := hRx.free 0 rfl
                have z1 := hRx.free 1 rfl
                have hp := put20 hRx (HAL.out.trans (Below.mono hb17 HAL.out.size)) (.slice none 0 0) (.slice none 0 0)
                have r0 := hp.1.cell 0 rfl
                have r1 := hp.1.cell 1 rfl
                have HBx := Lib.hid hp.2
                clear hRx hp
                go_wp2
                refine bodyPost_ret (v := .tuple #[tbv (.slice none 0 0) (.slice none 0 0), .int .i64 1]) ?_ rfl ⟨_, _, congrArg (fun b => Ending.returned (.tuple #[tbv (.slice none 0 0) (.slice none 0 0), .int .i64 b])) HNE.out.1.symm, ⟨_, _, _, rfl⟩, ⟨_, _, _, rfl⟩, fun h => absurd h HNE.out.2, HBx.out⟩
                simp [results, Tryz.results7, go_sem, r0, r1]
            · have k1 : ¬ (k : Int) < (Xs.length : Int) := by omega
              have hke : k = Xs.length := by omega
              have hqt : q = true := by rw [← HRK.out, List.drop_eq_nil_of_le (by omega)]; rfl
              subst hqt
              have hso := HO5.out
              rw [hke, List.take_length] at hso
              rw [hke] at HK5
              have hn : (Xs.map Le.token).Nodup := ris_nodup (lesB_ris Xs 0 HQ.out).2
              have hea := lesB_each Xs 0 HQ.out
              have hw5 := HAL.out.trans (HB15.out.mono HAL.out.size)
              have hsa : SeatsAt wr (.slice asv Xs.length csv) (Xs.map stL) := ⟨OwnR.rows csSt_len hso, fun x hx => by
                obtain ⟨y, hy, rfl⟩ := List.mem_map.1 hx
                exact (HX.out.each y hy).below hw5⟩
              have hse : (Xs.map stL).map stp = (mkT Ls Xs).sts := by
                unfold Tb.sts
                show _ = (Xs.map Le.token).map _
                rw [List.map_map, List.map_map]
                refine List.map_congr_left fun x hx => ?_
                have h := mk_seat (Ls := Ls) hn hx
                have h2 := (hea x hx).2.1
                simp only [stp, stL, Function.comp_apply, h.1, h.2]
                rw [Int.toNat_of_nonneg h2]
              have hok : ∀ x ∈ Xs.map stL, SrOk x := fun x hx => by
                obtain ⟨y, hy, rfl⟩ := List.mem_map.1 hx
                exact ⟨(hea y hy).2.1, (hea y hy).2.2.1, HXW.out y hy⟩
              have hsb : 0 < Xs.length → ∀ j, (Value.slice asv Xs.length csv).ownBlock = some j → W.heap.size < j ∧ j < wr.heap.size := fun _ j hj => by
                have h := OwnR.lt hso j hj
                have h2 := HB3.out.size
                have h3 := HAL.out.size
                exact ⟨by omega, h.2⟩
              have HSA := Lib.hid hsa
              have HSE := Lib.hid hse
              have HOK := Lib.hid hok
              have HSB := Lib.hid hsb
              have HNT := Lib.hid hn
              have HEA := Lib.hid hea
              have HW5 := Lib.hid hw5
              have HNOS := Lib.hid (show ((Xs.map Le.token).all (fun t => seatB (mkT Ls Xs) t) = false ∨ (Ls.all fun l => lockB (mkT Ls Xs) l) = false) → er = 1 ∧ ¬ M from fun h => HNO.out (by
                unfold loadB
                rcases h with h | h <;> rw [h] <;> simp))
              have HIN2 := Lib.hid (show (idsL Ls).Nodup from ris_nodup (may_ris HM.out))
              generalize hbx : w3.heap.size = bx at *
              clear hbx hke hso hn hea hw5 hsa hse hok hsb hk hkx hlt HRK HO5 HB5 HZ5 HK HAL4 HZ4 HIA HO3
              generalize wr = w5 at *
              have HB5 := HB15
              clear HB15
              have hb5 := Below.refl w5.heap.size w5
              go_wp2
              go_loopg [13] Xs.length (fun jx iv ws => ∃ i : Nat, i ≤ Xs.length ∧ Xs.length - i ≤ jx ∧ iv = .int .i64 i ∧ Hid (((Xs.take i).map Le.token).all (fun t => seatB (mkT Ls Xs) t) = true) ∧ Below w5.heap.size w5 ws)
              case atStart => exact ⟨0, Nat.zero_le _, Nat.le_refl _, rfl, rfl, hb5⟩
              case round =>
                clear hb5
                obtain ⟨i, hi, hix, rfl, HSS, hbi⟩ := hrel
                have kb := HK5.out.kept hbi
                have b0 := kb.cell 0 rfl
                have b1 := kb.cell 1 rfl
                have HBI := Lib.hid hbi
                clear kb
                by_cases hit : i < Xs.length
                · have HIT := Lib.hid (And.intro hit hix)
                  have i0 : (0 : Int) ≤ (i : Int) := by omega
                  have i1 : (i : Int) < (Xs.length : Int) := by omega
                  have i2 : (i : Int) ≤ 64 := by have := H64.out; omega
                  obtain ⟨g2, o2, c2, e2, _, _, p0, p1, p2⟩ := RowsAt.atS (SeatsAt.below HSA.out hbi).rows i (by rw [List.length_map]; exact hit)
                  rw [List.length_map] at e2
                  cases e2
                  have hxm := List.getElem_mem hit
                  have hseat := seatB_mk (Ls := Ls) HNT.out hxm
                  obtain ⟨hrx, hg0, hg1, hgw⟩ := HEA.out _ hxm
                  clear hrx
                  have hxi := (HX.out.each _ hxm).below (HW5.out.trans (hbi.mono HW5.out.size))
                  have hxw := HXW.out _ hxm
                  have hsn : (Xs.take (i + 1)).map Le.token = (Xs.take i).map Le.token ++ [(Xs[i]'hit).token] := by
                    rw [List.take_succ_eq_append_getElem hit, List.map_append, List.map_singleton]
                  simp only [List.getElem_map] at p0 p1 p2
                  obtain ⟨⟨tk, ta, wo, un, du, go, xa, xc, xw⟩, hx⟩ : ∃ x, Xs[i]'hit = x := ⟨_, rfl⟩
                  rw [hx] at p0 p1 p2 hxm hseat hg0 hg1 hgw hxi hxw hsn
                  simp only [stL] at p0 p1 hseat hg0 hg1 hgw hxw hsn
                  change _ = some (Value.slice xa xw.length xc) at p2
                  obtain ⟨j, hj⟩ : ∃ j : Nat, go = (j : Int) := ⟨go.toNat, by omega⟩
                  subst hj
                  rw [Int.toNat_natCast] at hseat
                  have GS := Lib.hid fun (w' : World) (hb : Below wr.heap.size wr w') => refSeat20_any (.slice al Ls.length cl) (some ⟨g2, o2, none⟩) Xs.length csv Ls tk j xa xc xw w' ((LocksAt.below HL.out (HW5.out.trans (hbi.mono HW5.out.size))).below hb) HIN2.out HLL.out (fun x hx => Nat.le_trans (HLW.out x hx) (by omega)) (hxi.below hb) (by omega) hxw hgw
                  obtain ⟨rs, hrs⟩ : ∃ rs, seatV Ls tk j xw = rs := ⟨_, rfl⟩
                  rw [hrs] at GS hseat
                  obtain ⟨xn, hxn⟩ : ∃ n, xw.length = n := ⟨_, rfl⟩
                  rw [hxn] at p2 GS
                  have HSEAT := Lib.hid hseat
                  have HXM := Lib.hid hxm
                  have HSN := Lib.hid hsn
                  clear hi hix hit hx hxm hseat hg0 hg1 hgw hxi hxw hsn hrs hxn hbi
                  go_upto_region 26 with fail
                  refine wp_region_calm0 (by kernel_rfl) (by kernel_rfl) fun M => ?_
                  have f0 := fun n : In M.w => n.cell (M.cell b0)
                  have f1 := fun n : In M.w => n.cell (M.cell b1)
                  have f2 := fun n : In M.w => n.cell (M.cell p0)
                  have f3 := fun n : In M.w => n.cell (M.cell p1)
                  have f4 := fun n : In M.w => n.cell (M.cell p2)
                  have GS2 := fun n : In M.w => GS.out n.w (M.h.trans (n.h.mono M.h.size))
                  repeat (go_big_quiet_step ((go_at_call 27; with_reducible exact In.call (GS2 _))))
                  refine wpQuiet_nil ?_
                  clear f0 f1 f2 f3 f4 GS2 M
                  intro w6 hb6
                  have HB6 := Lib.hid (HBI.out.trans (hb6.mono HBI.out.size))
                  clear hb6 b0 b1 p0 p1 p2
                  cases rs with
                  | false =>
                    have HNE := Lib.hid (HNOS.out (.inl (List.all_eq_false.2 ⟨tk, List.mem_map_of_mem HXM.out, by rw [HSEAT.out]; simp⟩)))
                    go_upto_region 27 with fail
                    have hb17 := HB5.out.trans (HB6.out.mono HB5.out.size)
                    have hRx := HR.out.kept hb17
                    have c0 := hRx.cell 0 rfl
                    have c1 := hRx.cell 1 rfl
                    have z0 := hRx.free 0 rfl
                    have z1 := hRx.free 1 rfl
                    have hp := put20 hRx (HAL.out.trans (Below.mono hb17 HAL.out.size)) (.slice none 0 0) (.slice none 0 0)
                    have r0 := hp.1.cell 0 rfl
                    have r1 := hp.1.cell 1 rfl
                    have HBx := Lib.hid hp.2
                    clear hRx hp
                    go_wp2
                    refine bodyPost_ret (v := .tuple #[tbv (.slice none 0 0) (.slice none 0 0), .int .i64 1]) ?_ rfl ⟨_, _, congrArg (fun b => Ending.returned (.tuple #[tbv (.slice none 0 0) (.slice none 0 0), .int .i64 b])) HNE.out.1.symm, ⟨_, _, _, rfl⟩, ⟨_, _, _, rfl⟩, fun h => absurd h HNE.out.2, HBx.out⟩
                    simp [results, Tryz.results7, go_sem, r0, r1]
                  | true =>
                    have HSS2 := Lib.hid (show ((Xs.take (i + 1)).map Le.token).all (fun t => seatB (mkT Ls Xs) t) = true by
                      rw [HSN.out, List.all_append, HSS.out]
                      simp [HSEAT.out])
                    go_wp2
                    go_roundg (Xs.length - (i + 1))
                    case measure => have := HIT.out; omega
                    case rel => exact ⟨i + 1, by have := HIT.out; omega, Nat.le_refl _, by go_num, HSS2.out, HB6.out⟩
                · have i1 : ¬ (i : Int) < (Xs.length : Int) := by omega
                  have HSL := Lib.hid (show ((Xs.map Le.token).all (fun t => seatB (mkT Ls Xs) t)) = true by
                    rw [← HSS.out, List.take_of_length_le (by omega)])
                  clear hi hix hit HSS b0
                  generalize wr = w6 at *
                  go_wp2
                  clear b1
                  have hb6 := Below.refl w6.heap.size w6
                  go_loopg [14] Ls.length (fun jx iv ws => ∃ i : Nat, i ≤ Ls.length ∧ Ls.length - i ≤ jx ∧ iv = .int .i64 i ∧ Hid ((Ls.take i).all (fun l => lockB (mkT Ls Xs) l) = true) ∧ Below w6.heap.size w6 ws)
                  case atStart => exact ⟨0, Nat.zero_le _, Nat.le_refl _, rfl, rfl, hb6⟩
                  case round =>
                    clear hb6
                    obtain ⟨i, hi, hix, rfl, HSS, hbi2⟩ := hrel
                    have hbi := HBI.out.trans (hbi2.mono HBI.out.size)
                    have kb := HK5.out.kept hbi
                    have b0 := kb.cell 0 rfl
                    have b1 := kb.cell 1 rfl
                    have HBJ := Lib.hid hbi2
                    have HBK := Lib.hid hbi
                    clear kb
                    by_cases hit : i < Ls.length
                    · have HIT := Lib.hid (And.intro hit hix)
                      have i0 : (0 : Int) ≤ (i : Int) := by omega
                      have i1 : (i : Int) < (Ls.length : Int) := by omega
                      have i2 : (i : Int) ≤ 1000 := by have := HLL.out; omega
                      have hla := LocksAt.below HL.out (HW5.out.trans (hbi.mono HW5.out.size))
                      obtain ⟨g2, o2, c2, e2, _, _, p0, p1, p2⟩ := RowsAt.atL hla.rows i hit
                      cases e2
                      have hxm := List.getElem_mem hit
                      have hxi := hla.each _ hxm
                      have hxw := HLW.out _ hxm
                      have hsn : Ls.take (i + 1) = Ls.take i ++ [Ls[i]'hit] := List.take_succ_eq_append_getElem hit
                      have hlock : (holdB (mkT Ls Xs) (Ls[i]'hit).id (Ls[i]'hit).holder && waitB (mkT Ls Xs) (Ls[i]'hit).id [] (Ls[i]'hit).wait) = lockB (mkT Ls Xs) (Ls[i]'hit) := rfl
                      obtain ⟨⟨id, hh, xa, xc, xw⟩, hx⟩ : ∃ x, Ls[i]'hit = x := ⟨_, rfl⟩
                      rw [hx] at p0 p1 p2 hxm hxi hxw hsn hlock
                      simp only at p0 p1 hxw
                      change _ = some (Value.slice xa xw.length xc) at p2
                      have GH := Lib.hid fun (w' : World) (hb : Below wr.heap.size wr w') => refHeld20_any (some ⟨g2, o2, none⟩) Ls.length cl (.slice asv Xs.length csv) (Xs.map stL) (mkT Ls Xs) id hh (.slice xa xw.length xc) xw w' ((SeatsAt.below HSA.out hbi).below hb) HSE.out (by rw [List.length_map]; exact HXL.out) HOK.out (hxi.below hb) hxw
                      simp only at hlock
                      rw [hlock] at GH
                      obtain ⟨rs, hrs⟩ : ∃ rs, lockB (mkT Ls Xs) ⟨id, hh, xa, xc, xw⟩ = rs := ⟨_, rfl⟩
                      rw [hrs] at GH
                      obtain ⟨xn, hxn⟩ : ∃ n, xw.length = n := ⟨_, rfl⟩
                      rw [hxn] at p2 GH
                      have HLOCK := Lib.hid hrs
                      have HXM := Lib.hid hxm
                      have HSN := Lib.hid hsn
                      clear hi hix hit hx hxm hxi hxw hsn hrs hxn hbi hlock hla hbi2
                      go_upto_region 31 with fail
                      refine wp_region_calm0 (by kernel_rfl) (by kernel_rfl) fun M => ?_
                      have f0 := fun n : In M.w => n.cell (M.cell b0)
                      have f1 := fun n : In M.w => n.cell (M.cell b1)
                      have f2 := fun n : In M.w => n.cell (M.cell p0)
                      have f3 := fun n : In M.w => n.cell (M.cell p1)
                      have f4 := fun n : In M.w => n.cell (M.cell p2)
                      have GS2 := fun n : In M.w => GH.out n.w (M.h.trans (n.h.mono M.h.size))
                      repeat (go_big_quiet_step ((go_at_call 28; with_reducible exact In.call (GS2 _))))
                      refine wpQuiet_nil ?_
                      clear f0 f1 f2 f3 f4 GS2 M
                      intro w7 hb7
                      have HB7 := Lib.hid (HBJ.out.trans (hb7.mono HBJ.out.size))
                      clear hb7 b0 b1 p0 p1 p2
                      cases rs with
                      | false =>
                        have HNE := Lib.hid (HNOS.out (.inr (List.all_eq_false.2 ⟨_, HXM.out, by rw [HLOCK.out]; simp⟩)))
                        go_upto_region 32 with fail
                        have hb17 := HB5.out.trans ((HBI.out.trans (HB7.out.mono HBI.out.size)).mono HB5.out.size)
                        have hRx := HR.out.kept hb17
                        have c0 := hRx.cell 0 rfl
                        have c1 := hRx.cell 1 rfl
                        have z0 := hRx.free 0 rfl
                        have z1 := hRx.free 1 rfl
                        have hp := put20 hRx (HAL.out.trans (Below.mono hb17 HAL.out.size)) (.slice none 0 0) (.slice none 0 0)
                        have r0 := hp.1.cell 0 rfl
                        have r1 := hp.1.cell 1 rfl
                        have HBx := Lib.hid hp.2
                        clear hRx hp
                        go_wp2
                        refine bodyPost_ret (v := .tuple #[tbv (.slice none 0 0) (.slice none 0 0), .int .i64 1]) ?_ rfl ⟨_, _, congrArg (fun b => Ending.returned (.tuple #[tbv (.slice none 0 0) (.slice none 0 0), .int .i64 b])) HNE.out.1.symm, ⟨_, _, _, rfl⟩, ⟨_, _, _, rfl⟩, fun h => absurd h HNE.out.2, HBx.out⟩
                        simp [results, Tryz.results7, go_sem, r0, r1]
                      | true =>
                        have HSS2 := Lib.hid (show (Ls.take (i + 1)).all (fun l => lockB (mkT Ls Xs) l) = true by
                          rw [HSN.out, List.all_append, HSS.out]
                          simp [HLOCK.out])
                        go_wp2
                        go_roundg (Ls.length - (i + 1))
                        case measure => have := HIT.out; omega
                        case rel => exact ⟨i + 1, by have := HIT.out; omega, Nat.le_refl _, by go_num, HSS2.out, HB7.out⟩
                    · have i1 : ¬ (i : Int) < (Ls.length : Int) := by omega
                      have hlo : (Ls.all fun l => lockB (mkT Ls Xs) l) = true := by
                        rw [← HSS.out, List.take_of_length_le (by omega)]
                      have hld : loadB Ls Xs = true := by
                        unfold loadB
                        rw [HM.out, HQ.out, HSL.out, hlo, decide_eq_true H64.out]
                        rfl
                      have HE := Lib.hid (HYES.out hld)
                      have hb1 := HB5.out.trans (hbi.mono HB5.out.size)
                      have hRx := HR.out.kept hb1
                      have c0 := hRx.cell 0 rfl
                      have c1 := hRx.cell 1 rfl
                      have z0 := hRx.free 0 rfl
                      have z1 := hRx.free 1 rfl
                      have hp := put20 hRx (HAL.out.trans (hb1.mono HAL.out.size)) (.slice al Ls.length cl) (.slice asv Xs.length csv)
                      have r0 := hp.1.cell 0 rfl
                      have r1 := hp.1.cell 1 rfl
                      have HBx := Lib.hid hp.2
                      clear hi hix hit hlo hld hb1 hRx hp hbi2
                      go_wp2
                      refine bodyPost_ret (v := .tuple #[tbv (.slice al Ls.length cl) (.slice asv Xs.length csv), .int .i64 0]) ?_ rfl ⟨_, _, congrArg (fun b => Ending.returned (.tuple #[tbv (.slice al Ls.length cl) (.slice asv Xs.length csv), .int .i64 b])) HE.out.symm, ⟨_, _, _, rfl⟩, ⟨_, _, _, rfl⟩, fun _ => ?_, HBx.out⟩
                      · simp [results, Tryz.results7, go_sem, r0, r1]
                      · obtain ⟨g1, g2, g3, g4⟩ := HG.out
                        have hsz := HBx.out.size
                        have hs5 := HBK.out.size
                        have hrows := RowsAt.same (w' := (wr.setCell ⟨W.heap.size, 0, none⟩ (.slice al Ls.length cl)).setCell ⟨W.heap.size, 1, none⟩ (.slice asv Xs.length csv)) HSA.out.rows (by rw [size_setCell, size_setCell]; exact hs5) fun h0 j hj => by
                          obtain ⟨s1, s2⟩ := HSB.out (by rwa [List.length_map] at h0) j hj
                          rw [Below.heap_setCell _ _ _ _ (show j ≠ W.heap.size by omega), Below.heap_setCell _ _ _ _ (show j ≠ W.heap.size by omega)]
                          exact HBK.out.block j s2
                        refine ⟨fun k => G k ∨ (W.heap.size < k ∧ k < ((wr.setCell ⟨W.heap.size, 0, none⟩ (.slice al Ls.length cl)).setCell ⟨W.heap.size, 1, none⟩ (.slice asv Xs.length csv)).heap.size), ⟨Ls, Xs.map stL, ?_⟩, fun k hk => hk.imp (fun h => h) fun h => by omega⟩
                        refine ⟨LocksAt.below HL.out HBx.out, ⟨hrows, fun x hx => ?_⟩, by rw [← HTN.out]; exact mk_lks HIN2.out, by rw [← HTN.out]; exact HSE.out, fun h0 k hk => .inl (g1 h0 k hk), fun h0 k hk => ?_, fun x hx h0 k hk => .inl (g2 x hx h0 k hk), fun x hx h0 k hk => ?_, fun k hk => ?_⟩
                        · obtain ⟨y, hy, rfl⟩ := List.mem_map.1 hx
                          exact (HX.out.each y hy).below HBx.out
                        · obtain ⟨s1, s2⟩ := HSB.out (by rwa [List.length_map] at h0) k hk
                          refine .inr ⟨s1, ?_⟩
                          rw [size_setCell, size_setCell]
                          exact Nat.lt_of_lt_of_le s2 hs5
                        · obtain ⟨y, hy, rfl⟩ := List.mem_map.1 hx
                          exact .inl (g3 y hy h0 k hk)
                        · rcases hk with hk | hk
                          · exact Nat.lt_of_lt_of_le (g4 k hk) hsz
                          · exact hk.2
        · have n1 : (64 : Int) < (Xs.length : Int) := by omega
          have HNE := Lib.hid (HNO.out (by unfold loadB; rw [hm, decide_eq_false h64]; rfl))
          rw [hm] at GM
          clear hm h64
          go_upto_region 7 with (go_at_call 24; (with_reducible refine GM.out.mono ?_); rintro e w3 ⟨rfl, b3⟩; have hb3 := HB.out.trans (b3.mono HB.out.size); clear b3)
          have hRx := HR.out.kept hb3
          have c0 := hRx.cell 0 rfl
          have c1 := hRx.cell 1 rfl
          have z0 := hRx.free 0 rfl
          have z1 := hRx.free 1 rfl
          have hp := put20 hRx (HAL.out.trans (Below.mono hb3 HAL.out.size)) (.slice none 0 0) (.slice none 0 0)
          have r0 := hp.1.cell 0 rfl
          have r1 := hp.1.cell 1 rfl
          have HBx := Lib.hid hp.2
          clear hRx hp
          go_wp2
          refine bodyPost_ret (v := .tuple #[tbv (.slice none 0 0) (.slice none 0 0), .int .i64 1]) ?_ rfl ⟨_, _, congrArg (fun b => Ending.returned (.tuple #[tbv (.slice none 0 0) (.slice none 0 0), .int .i64 b])) HNE.out.1.symm, ⟨_, _, _, rfl⟩, ⟨_, _, _, rfl⟩, fun h => absurd h HNE.out.2, HBx.out⟩
          simp [results, Tryz.results7, go_sem, r0, r1]
end Go.Proofs.YtbkoogffnchldaaGreat
/- Stage 20's program: the small looks of Load (idsOf, holds, waitsFor). -/
namespace Go.Proofs.YtbkoogffnchldaaGreat
open Go.RowKit Go.Maps

theorem ints_cap {w : World} {a : Option Addr} {n c : Nat} {l : List Int} (h : IntsAt w (.slice a n c) l) : n = l.length ∧ l.length ≤ c := by
  obtain ⟨a', c', e, h2, _⟩ := IntsAt.rows h
  cases e
  exact ⟨rfl, h2⟩
set_option maxHeartbeats 4000000 in
set_option maxRecDepth 100000 in
theorem tHolds_any (a : Option Addr) (c : Nat) (l : List Int) (j : Nat) (id : Int) (w : World) (hi : IntsAt w (.slice a l.length c) l) (hj : j ≤ l.length) (hl : l.length ≤ 1000000) :
    Calls Tryz.prog 72 #[.agg #[.slice a l.length c, .int .i64 (j : Int)], .int .i64 id] w fun e w' => e = .returned (.bool (inL (l.take j) id)) ∧ Below w.heap.size w w' := by
  have hb := (Below.refl w.heap.size w).alloc (Nat.le_refl _) (.cells #[.slice a l.length c, .int .i64 (j : Int)] 75)
  have HB := Lib.hid hb
  have hcap := (ints_cap hi).2
  have HH := Lib.hid (iHas_any (.slice a j c) (l.take j) id (w.alloc (.cells #[.slice a l.length c, .int .i64 (j : Int)] 75)) ((RowsAt.ints (RowsAt.front (IntsAt.rows hi) j hj)).below hb) (by rw [List.length_take]; omega))
  obtain ⟨r, hr⟩ : ∃ r, inL (l.take j) id = r := ⟨_, rfl⟩
  rw [hr] at HH ⊢
  have j0 : (0 : Int) ≤ (j : Int) := by omega
  have j1 : j ≤ c := by omega
  have j2 : (j : Int) ≤ 1000000 := by omega
  generalize l.length = n at *
  clear hb hr hi hj hl hcap
  go_enter Tryz.func72, Tryz.ntmps72
  go_wp2_with (go_at_call 59; (with_reducible refine HH.out.mono ?_); rintro e w1 ⟨rfl, b1⟩; have HB1 := Lib.hid (HB.out.trans (b1.mono HB.out.size)); clear b1)
  go_ret
  exact ⟨rfl, HB1.out⟩
set_option maxHeartbeats 4000000 in
set_option maxRecDepth 100000 in
theorem tWaitsFor_any (x : Cl) (l : List Int) (j : Nat) (id : Int) (w : World) (hi : IntsAt w x.v l) (hn : x.n = l.length) (hh : x.held = (j : Int)) (hj : j ≤ l.length) (hl : l.length ≤ 1000000) :
    Calls Tryz.prog 54 #[clv x, .int .i64 id] w fun e w' => e = .returned (.bool (decide (l[j]? = some id))) ∧ Below w.heap.size w w' := by
  have hb := (Below.refl w.heap.size w).alloc (Nat.le_refl _) (.cells #[x.v, .int .i64 x.held] 75)
  have HB := Lib.hid hb
  have HW := tWaits_any x (w.alloc (.cells #[x.v, .int .i64 x.held] 75))
  have hX := Blk.new w [x.v, .int .i64 x.held] 75
  have HI := Lib.hid (hi.below hb)
  obtain ⟨g, n, c, d⟩ := x
  simp only at hn hh
  subst hn hh
  replace HW : Calls Tryz.prog 57 #[.agg #[.slice (g.map fun b => ⟨b, 0, none⟩) l.length c, .int .i64 (j : Int)]] _ _ := HW
  show Calls Tryz.prog _ #[.agg #[.slice (g.map fun b => ⟨b, 0, none⟩) l.length c, .int .i64 (j : Int)], .int .i64 id] w _
  dsimp only [Cl.v] at HW HB HI hX
  generalize g.map (fun b => (⟨b, 0, none⟩ : Addr)) = a at *
  generalize hw1 : w.alloc (.cells #[.slice a l.length c, .int .i64 (j : Int)] 75) = w1 at *
  have c0 := hX.cell 0 rfl
  have c1 := hX.cell 1 rfl
  by_cases e : j = l.length
  · have hr : decide (l[j]? = some id) = false := decide_eq_false (by rw [List.getElem?_eq_none (by omega)]; simp)
    rw [hr]
    have hq : (!decide ((j : Int) = (l.length : Int))) = false := by rw [decide_eq_true (by omega)]; rfl
    rw [hq] at HW
    have HW2 := Lib.hid HW
    clear hb hX hi hr hq HW e
    go_enter Tryz.func54, Tryz.ntmps54
    go_wp2_with (go_at_call 57; (with_reducible refine HW2.out.mono ?_); rintro e w2 ⟨rfl, b1⟩; have HB1 := Lib.hid (HB.out.trans (b1.mono HB.out.size)); clear b1)
    go_ret
    exact ⟨rfl, HB1.out⟩
  · have hjl : j < l.length := by omega
    have hq : (!decide ((j : Int) = (l.length : Int))) = true := by rw [decide_eq_false (by omega)]; rfl
    rw [hq] at HW
    have HW2 := Lib.hid HW
    rw [List.getElem?_eq_getElem hjl]
    obtain ⟨g2, o2, c2, e2, _, _, m0⟩ := HI.out.spot j hjl
    cases e2
    have M0 := Lib.hid m0
    have C0 := Lib.hid c0
    have C1 := Lib.hid c1
    have j0 : (0 : Int) ≤ (j : Int) := by omega
    have j1 : (j : Int) < (l.length : Int) := by omega
    have j2 : (j : Int) ≤ 1000000 := by omega
    obtain ⟨y, hy⟩ : ∃ y, l[j]'hjl = y := ⟨_, rfl⟩
    rw [hy] at M0 ⊢
    have hr : decide (some y = some id) = (y == id) := by
      by_cases e : y = id
      · subst e; simp
      · simp [e]
    rw [hr]
    clear hb hX hi hr hq HW e hjl m0 hy
    go_enter Tryz.func54, Tryz.ntmps54
    go_wp2_with (go_at_call 57; (with_reducible refine HW2.out.mono ?_); rintro e w2 ⟨rfl, b1⟩; have HB1 := Lib.hid (HB.out.trans (b1.mono HB.out.size)); have q0 := (b1.cell (World.block_lt_of_cell? _ _ M0.out)).trans M0.out; have q1 := (b1.cell (World.block_lt_of_cell? _ _ C0.out)).trans C0.out; have q2 := (b1.cell (World.block_lt_of_cell? _ _ C1.out)).trans C1.out; clear b1 c0 c1)
    go_ret
    exact ⟨rfl, HB1.out⟩
end Go.Proofs.YtbkoogffnchldaaGreat
