/- Texts of this proof, joined: WaRefD; WaRefE; WaRefF; GraphRefB. -/
import Derived.Test.YtjmgokjljmmmgaaBun8
/- Stage 21: the document's lock. -/
namespace Go.Proofs.Ytjmgokjljmmmgaa
open Go.RowKit

theorem leaseSpot {w : World} {v : Value} {Xs : List Le} (h : LeasesAt w v Xs) (hn : (Xs.map Le.token).Nodup) (Ls : List Lr) {t : Int} (ht : t ∈ Xs.map Le.token) :
    ∃ (y : Le) (q g o c : Nat), y ∈ Xs ∧ y.token = t ∧ plcL (Xs.map Le.token) t = (q : Int) ∧ q < Xs.length ∧ v = .slice (some ⟨g, o, none⟩) Xs.length c ∧ w.cell? ⟨g, o + q * 7 + 5, none⟩ = some (.int .i64 y.got) ∧ w.cell? ⟨g, o + q * 7 + 6, none⟩ = some (.slice y.a y.want.length y.c) ∧ IntsAt w (.slice y.a y.want.length y.c) y.want ∧ (mkT Ls Xs).got t = y.got.toNat ∧ (mkT Ls Xs).want t = y.want := by
  obtain ⟨p1, p2, p3⟩ := plc_at ht
  have hl : (Xs.map Le.token).idxOf t < Xs.length := by simpa using p2
  obtain ⟨g, o, c, e, _, _, _, _, _, _, _, q5, q6⟩ := leaseAt h.rows _ hl
  have hy : Xs[(Xs.map Le.token).idxOf t].token = t := by
    rw [List.getElem?_map, List.getElem?_eq_getElem hl] at p3
    exact Option.some.inj p3
  have hm := List.getElem_mem hl
  have h2 := mk_seat (Ls := Ls) hn hm
  rw [hy] at h2
  exact ⟨_, _, g, o, c, hm, hy, p1, hl, e, q5, q6, h.each _ hm, h2.1, h2.2⟩
def waitP (T : Tb) (id : Int) (L : List Int) (t : Int) : Bool := inL T.toks t && (decide (cntL L t = 1) && decide (T.nx t = some id))
theorem nodup_cnt (L : List Int) : L.Nodup ↔ ∀ t ∈ L, cntL L t = 1 := by
  have h : ∀ t, cntL L t = L.count t := fun t => by
    unfold cntL
    rw [← List.countP_eq_length_filter]
    rfl
  constructor
  · intro hn t ht
    rw [h t]
    have h1 := List.nodup_iff_count.1 hn t
    have h2 := List.count_pos_iff.2 ht
    omega
  · intro hc
    rw [List.nodup_iff_count]
    intro a
    by_cases ha : a ∈ L
    · rw [← h a, hc a ha]
      exact Nat.le_refl _
    · rw [List.count_eq_zero_of_not_mem ha]
      omega
theorem waitP_all (T : Tb) (id : Int) (L : List Int) : (L.all fun t => waitP T id L t) = waitB T id [] L := by
  rw [Bool.eq_iff_iff, waitB_iff, List.all_eq_true]
  unfold waitP
  simp only [Bool.and_eq_true, decide_eq_true_eq, inL_iff20]
  constructor
  · intro h
    exact ⟨fun t ht => ⟨(h t ht).1, by simp, (h t ht).2.2⟩, (nodup_cnt L).2 fun t ht => (h t ht).2.1⟩
  · rintro ⟨h1, h2⟩ t ht
    exact ⟨(h1 t ht).1, (nodup_cnt L).1 h2 t ht, (h1 t ht).2.2⟩
theorem nx_mk {T : Tb} {t : Int} {j : Nat} {l : List Int} (h1 : T.got t = j) (h2 : T.want t = l) : T.nx t = l[j]? := by
  unfold Tb.nx
  rw [h1, h2]
set_option maxHeartbeats 16000000 in
set_option maxRecDepth 100000 in
theorem refLockW_any (x : Lr) (vx : Value) (Ls : List Lr) (Xs : List Le) (W : World) (ha : LeasesAt W vx Xs) (hi : IntsAt W (.slice x.a x.wait.length x.c) x.wait) (hn : (Xs.map Le.token).Nodup) (hl : Xs.length ≤ 1000) (hw : x.wait.length ≤ 1000) (hok : ∀ y ∈ Xs, 0 ≤ y.got ∧ y.got ≤ (y.want.length : Int) ∧ y.want.length ≤ 1000) :
    Calls Try.prog 23 #[lkv x.id x.holder (.slice x.a x.wait.length x.c), vx] W fun e w' => e = .returned (.bool (lockB (mkT Ls Xs) x)) ∧ Below W.heap.size W w' := by
  obtain ⟨r, hr⟩ : ∃ r, lockB (mkT Ls Xs) x = r := ⟨_, rfl⟩
  rw [hr]
  have hrr : r = (holdB (mkT Ls Xs) x.id x.holder && waitB (mkT Ls Xs) x.id [] x.wait) := by rw [← hr]; rfl
  have hb := (Below.refl W.heap.size W).alloc (Nat.le_refl _) (.cells #[.int .i64 x.id, .int .i64 x.holder, .slice x.a x.wait.length x.c] 37)
  have hX := Blk.new W [.int .i64 x.id, .int .i64 x.holder, .slice x.a x.wait.length x.c] 37
  have HA := Lib.hid (show LeasesAt _ vx Xs from ⟨RowsAt.kept ha.rows hb, fun y hy => (ha.each y hy).below hb⟩)
  have HI := Lib.hid (hi.below hb)
  obtain ⟨id, hh, xa, xc, L⟩ := x
  simp only at hw hrr hb hX HI
  dsimp only at HA ⊢
  obtain ⟨n, hnn⟩ : ∃ n, L.length = n := ⟨_, rfl⟩
  rw [hnn] at hw hb hX HA HI ⊢
  have HN := Lib.hid hnn
  have HL := Lib.hid hl
  have HND := Lib.hid hn
  have HOK := Lib.hid hok
  have HW := Lib.hid hw
  have HB := Lib.hid hb
  clear hr ha hi hl hn hok hw hnn
  generalize hw1 : W.alloc (.cells #[.int .i64 id, .int .i64 hh, .slice xa n xc] 37) = w1 at *
  replace hX : Blk w1 W.heap.size [.int .i64 id, .int .i64 hh, .slice xa n xc] := hX
  have HX := Lib.hid hX
  have x0 := hX.cell 0 rfl
  have x1 := hX.cell 1 rfl
  have x2 := hX.cell 2 rfl
  clear hX hb
  have HTK : Hid ((mkT Ls Xs).toks = Xs.map Le.token) := rfl
  generalize hTT : mkT Ls Xs = T at *
  have HSP := Lib.hid fun (w' : World) (h : Below w1.heap.size w1 w') (t : Int) (ht : t ∈ Xs.map Le.token) => leaseSpot (w := w') ⟨RowsAt.kept HA.out.rows h, fun y hy => (HA.out.each y hy).below h⟩ HND.out Ls ht
  rw [hTT] at HSP
  have HOF := Lib.hid fun (w' : World) (h : Below w1.heap.size w1 w') (t : Int) => refOf21_any vx Xs t w' (RowsAt.kept HA.out.rows h) (by have := HL.out; omega)
  clear hTT
  go_enter Try.func23, Try.ntmps23
  obtain ⟨q, hq⟩ : ∃ q, holdB T id hh = q := ⟨_, rfl⟩
  rw [hq] at hrr
  have HQ := Lib.hid hq
  clear hq
  have hb1 := Below.refl w1.heap.size w1
  go_upto_if 10 with fail
  go_cut [] (fun wx => Hid (q = true) ∧ Below w1.heap.size w1 wx)
  case first =>
    by_cases hz : hh = 0
    · have hqt : q = true := by rw [← HQ.out, hz]; rfl
      subst hz hqt
      go_wp2
      go_meet
      exact ⟨Lib.hid trivial, hb1⟩
    · have hz2 : (hh == 0) = false := beq_noI hz
      have hq2 : q = (inL T.toks hh && inL ((T.want hh).take (T.got hh)) id) := by
        rw [← HQ.out]
        unfold holdB
        rw [hz2, Bool.false_or]
      have GO := Lib.hid (HOF.out w1 hb1 hh)
      by_cases hm : hh ∈ Xs.map Le.token
      · obtain ⟨y, qq, g, o, c, hy, _, e3, e4, e5, p5, p6, p7, e8, e9⟩ := HSP.out w1 hb1 hh hm
        subst e5
        rw [e3] at GO
        have hin : inL T.toks hh = true := by rw [HTK.out]; exact decide_eq_true hm
        rw [hin, Bool.true_and, e8, e9] at hq2
        obtain ⟨o1, o2, o3⟩ := HOK.out y hy
        obtain ⟨tk, ta, wo, un, du, go, ya, yc, yw⟩ := y
        simp only at p5 p6 p7 hq2 o1 o2 o3
        obtain ⟨j, rfl⟩ : ∃ j : Nat, go = (j : Int) := ⟨go.toNat, by omega⟩
        rw [Int.toNat_natCast] at hq2
        have hcap := IntsAt.rows p7
        obtain ⟨ya', yc', ey, hyc, _⟩ := hcap
        cases ey
        have GI := Lib.hid fun (w' : World) (h : Below w1.heap.size w1 w') => refIn_any (.slice ya j yc) (yw.take j) id w' ((RowsAt.ints (RowsAt.front (IntsAt.rows p7) j (by omega))).below h) (by rw [List.length_take]; omega)
        rw [← hq2] at GI
        have j0 : (0 : Int) ≤ (j : Int) := by omega
        have j1 : j ≤ yc := by omega
        have j2 : (j : Int) ≤ 1000 := by omega
        have q0 : (0 : Int) ≤ (qq : Int) := by omega
        have q1 : (qq : Int) < (Xs.length : Int) := by omega
        have q2 : (qq : Int) ≤ 1000 := by have := HL.out; omega
        have q3 : decide ((qq : Int) < 0) = false := decide_eq_false (by omega)
        obtain ⟨yn, hyn⟩ : ∃ n, yw.length = n := ⟨_, rfl⟩
        rw [hyn] at p6 o2
        clear hin e3 e4 e8 e9 hy p7 hm hq2 hyc o3 hyn
        go_upto_region 3 with (go_at_call 42; (with_reducible refine GO.out.mono ?_); rintro e w4 ⟨rfl, rfl⟩)
        refine wp_region_calm0 (by kernel_rfl) (by kernel_rfl) fun M => ?_
        have f0 := fun n : In M.w => n.cell (M.cell x0)
        have f5 := fun n : In M.w => n.cell (M.cell p5)
        have f6 := fun n : In M.w => n.cell (M.cell p6)
        have GI2 := fun n : In M.w => GI.out n.w (M.h.trans (n.h.mono M.h.size))
        repeat (go_big_quiet_step ((go_at_call 31; with_reducible exact In.call_same (GI2 _))))
        refine wpQuiet_nil ?_
        clear f0 f5 f6 GI2 M x0 x1 x2 p5 p6
        intro w5 hb5
        have HB5 := Lib.hid hb5
        clear hb5 hb1
        cases q with
        | false =>
          have HF := Lib.hid (show false = r by rw [hrr]; rfl)
          go_wp2
          go_ret
          exact ⟨ret_b HF.out, HB.out.trans (HB5.out.mono HB.out.size)⟩
        | true =>
          go_wp2
          go_meet
          exact ⟨Lib.hid trivial, HB5.out⟩
      · rw [plc_none hm] at GO
        have hin : inL T.toks hh = false := by rw [HTK.out]; exact decide_eq_false hm
        rw [hin, Bool.false_and] at hq2
        subst hq2
        have HF := Lib.hid (show false = r by rw [hrr]; rfl)
        clear hin hm
        go_upto_region 3 with (go_at_call 42; (with_reducible refine GO.out.mono ?_); rintro e w4 ⟨rfl, rfl⟩)
        refine wp_region_calm0 (by kernel_rfl) (by kernel_rfl) fun M => ?_
        have f0 := fun n : In M.w => n.cell (M.cell x0)
        repeat (go_big_quiet_step (fail))
        refine wpQuiet_nil ?_
        clear f0 M x0 x1 x2
        intro w5 hb5
        have HB5 := Lib.hid hb5
        clear hb5 hb1
        go_wp2
        go_ret
        exact ⟨ret_b HF.out, HB.out.trans (HB5.out.mono HB.out.size)⟩
  case rest =>
    obtain ⟨hqt, hbc⟩ := hcut
    have hqt := hqt.out
    subst hqt
    rw [Bool.true_and, ← waitP_all] at hrr
    have HRR := Lib.hid hrr
    clear hrr x0 x1 x2 hb1
    have hbc2 := hbc
    go_wp2
    go_loopg [6] n (fun kx iv ws => ∃ i : Nat, i ≤ n ∧ n - i ≤ kx ∧ iv = .int .i64 i ∧ Hid ((L.take i).all (fun t => waitP T id L t) = true) ∧ Below w1.heap.size w1 ws)
    case atStart => exact ⟨0, Nat.zero_le _, Nat.le_refl _, rfl, rfl, hbc2⟩
    case round =>
      clear hbc hbc2
      obtain ⟨i, hi, hix, rfl, HAL, hbr⟩ := hrel
      have x0 := (HX.out.kept hbr).cell 0 rfl
      have x2 := (HX.out.kept hbr).cell 2 rfl
      by_cases hit : i < n
      · have HIT := Lib.hid (And.intro hit hix)
        have i0 : (0 : Int) ≤ (i : Int) := by omega
        have i1 : (i : Int) < (n : Int) := by omega
        have i2 : (i : Int) ≤ 1000 := by have := HW.out; omega
        have hil : i < L.length := by rw [HN.out]; omega
        have hiw := HI.out.below hbr
        obtain ⟨g2, o2, c2, e2, _, _, m0⟩ := hiw.spot i hil
        rw [HN.out] at e2
        cases e2
        have htm := List.getElem_mem hil
        have hsn : L.take (i + 1) = L.take i ++ [L[i]'hil] := List.take_succ_eq_append_getElem hil
        obtain ⟨t, ht⟩ : ∃ t, L[i]'hil = t := ⟨_, rfl⟩
        rw [ht] at m0 htm hsn
        obtain ⟨b, hb⟩ : ∃ b, waitP T id L t = b := ⟨_, rfl⟩
        have HBAD := Lib.hid (show b = false → false = r from fun h => by
          rw [HRR.out]
          exact (List.all_eq_false.2 ⟨t, htm, by rw [hb, h]; simp⟩).symm)
        have HGOOD := Lib.hid (show b = true → (L.take (i + 1)).all (fun t => waitP T id L t) = true from fun h => by
          rw [hsn, List.all_append, HAL.out]
          simp [hb, h])
        have GO := Lib.hid (HOF.out wr hbr t)
        have HBR := Lib.hid hbr
        have GT := Lib.hid fun (w' : World) (h : Below wr.heap.size wr w') => refTimes21_any (.slice (some ⟨g2, o2, none⟩) n xc) L t w' (hiw.below h) (by rw [HN.out]; have := HW.out; omega)
        have hcl := cnt_le L t
        unfold waitP at hb
        by_cases hm : t ∈ Xs.map Le.token
        · obtain ⟨y, qq, g, o, c, hy, _, e3, e4, e5, p5, p6, p7, e8, e9⟩ := HSP.out wr hbr t hm
          subst e5
          rw [e3] at GO
          have hin : inL T.toks t = true := by rw [HTK.out]; exact decide_eq_true hm
          rw [hin, Bool.true_and, nx_mk e8 e9] at hb
          obtain ⟨o1, o2', o3⟩ := HOK.out y hy
          obtain ⟨tk, ta, wo, un, du, go, ya, yc, yw⟩ := y
          simp only at p5 p6 p7 hb o1 o2' o3
          obtain ⟨j, rfl⟩ : ∃ j : Nat, go = (j : Int) := ⟨go.toNat, by omega⟩
          rw [Int.toNat_natCast] at hb
          have q0 : (0 : Int) ≤ (qq : Int) := by omega
          have q1 : (qq : Int) < (Xs.length : Int) := by omega
          have q2 : (qq : Int) ≤ 1000 := by have := HL.out; omega
          have q3 : decide ((qq : Int) < 0) = false := decide_eq_false (by omega)
          have j0 : (0 : Int) ≤ (j : Int) := by omega
          have j2 : (j : Int) ≤ 1000 := by omega
          obtain ⟨yn, hyn⟩ : ∃ n, yw.length = n := ⟨_, rfl⟩
          rw [hyn] at p6 o2'
          obtain ⟨cc, hcc⟩ : ∃ cc, cntL L t = cc := ⟨_, rfl⟩
          rw [hcc] at GT hb hcl
          by_cases hc1 : cc = 1
          · subst hc1
            simp only [decide_true, Bool.true_and] at hb
            by_cases hjn : j < yn
            · have hjl : j < yw.length := by rw [hyn]; exact hjn
              obtain ⟨g5, o5, c5, e5', _, _, m5⟩ := p7.spot j hjl
              rw [hyn] at e5'
              cases e5'
              rw [List.getElem?_eq_getElem hjl] at hb
              obtain ⟨z, hz⟩ : ∃ z, yw[j]'hjl = z := ⟨_, rfl⟩
              rw [hz] at m5 hb
              have j1 : ¬ (yn : Int) ≤ (j : Int) := by omega
              have j3 : (j : Int) < (yn : Int) := by omega
              have d1 : decide (yn ≤ j) = false := decide_eq_false (by omega)
              by_cases hzi : z = id
              · have HG2 := Lib.hid (HGOOD.out (by rw [← hb, hzi]; simp))
                rw [hzi] at m5
                clear hin e3 e4 e8 e9 hy p7 hm hb o3 hyn hjl hjn hz hzi hcc hcl hi hix hit hil hiw htm hsn ht hbr
                go_upto_region 9 with (go_at_call 42; (with_reducible refine GO.out.mono ?_); rintro e w4 ⟨rfl, rfl⟩)
                refine wp_region_calm0 (by kernel_rfl) (by kernel_rfl) fun M => ?_
                have f0 := fun n : In M.w => n.cell (M.cell x0)
                have f2 := fun n : In M.w => n.cell (M.cell x2)
                have f3 := fun n : In M.w => n.cell (M.cell m0)
                have f4 := fun n : In M.w => n.cell (M.cell m5)
                have f5 := fun n : In M.w => n.cell (M.cell p5)
                have f6 := fun n : In M.w => n.cell (M.cell p6)
                have GT2 := fun n : In M.w => GT.out n.w (M.h.trans (n.h.mono M.h.size))
                repeat (go_big_quiet_step ((go_at_call 43; with_reducible exact In.call_same (GT2 _))))
                refine wpQuiet_nil ?_
                clear f0 f2 f3 f4 f5 f6 GT2 M x0 x2 p5 p6 m0 m5
                intro w5 hb5
                have HB5 := Lib.hid (HBR.out.trans (hb5.mono HBR.out.size))
                clear hb5
                go_wp2
                go_roundg (n - (i + 1))
                case measure => have := HIT.out; omega
                case rel => exact ⟨i + 1, by have := HIT.out; omega, Nat.le_refl _, by go_num, HG2.out, HB5.out⟩
              · have HF := Lib.hid (HBAD.out (by rw [← hb]; simp [hzi]))
                have hz2 : (z == id) = false := beq_noI hzi
                clear hin e3 e4 e8 e9 hy p7 hm hb o3 hyn hjl hjn hz hcc hcl hi hix hit hil hiw htm hsn ht hbr
                go_upto_region 9 with (go_at_call 42; (with_reducible refine GO.out.mono ?_); rintro e w4 ⟨rfl, rfl⟩)
                refine wp_region_calm0 (by kernel_rfl) (by kernel_rfl) fun M => ?_
                have f0 := fun n : In M.w => n.cell (M.cell x0)
                have f2 := fun n : In M.w => n.cell (M.cell x2)
                have f3 := fun n : In M.w => n.cell (M.cell m0)
                have f4 := fun n : In M.w => n.cell (M.cell m5)
                have f5 := fun n : In M.w => n.cell (M.cell p5)
                have f6 := fun n : In M.w => n.cell (M.cell p6)
                have GT2 := fun n : In M.w => GT.out n.w (M.h.trans (n.h.mono M.h.size))
                repeat (go_big_quiet_step ((go_at_call 43; with_reducible exact In.call_same (GT2 _))))
                refine wpQuiet_nil ?_
                clear f0 f2 f3 f4 f5 f6 GT2 M x0 x2 p5 p6 m0 m5
                intro w5 hb5
                have HB5 := Lib.hid (HBR.out.trans (hb5.mono HBR.out.size))
                clear hb5
                go_wp2
                go_ret
                exact ⟨ret_b HF.out, HB.out.trans (HB5.out.mono HB.out.size)⟩
            · have HF := Lib.hid (HBAD.out (by rw [← hb, List.getElem?_eq_none (by omega)]; simp))
              have j1 : (yn : Int) ≤ (j : Int) := by omega
              clear hin e3 e4 e8 e9 hy p7 hm hb o3 hyn hjn hcc hcl hi hix hit hil hiw htm hsn ht hbr
              go_upto_region 9 with (go_at_call 42; (with_reducible refine GO.out.mono ?_); rintro e w4 ⟨rfl, rfl⟩)
              refine wp_region_calm0 (by kernel_rfl) (by kernel_rfl) fun M => ?_
              have f0 := fun n : In M.w => n.cell (M.cell x0)
              have f2 := fun n : In M.w => n.cell (M.cell x2)
              have f3 := fun n : In M.w => n.cell (M.cell m0)
              have f5 := fun n : In M.w => n.cell (M.cell p5)
              have f6 := fun n : In M.w => n.cell (M.cell p6)
              have GT2 := fun n : In M.w => GT.out n.w (M.h.trans (n.h.mono M.h.size))
              repeat (go_big_quiet_step ((go_at_call 43; with_reducible exact In.call_same (GT2 _))))
              refine wpQuiet_nil ?_
              clear f0 f2 f3 f5 f6 GT2 M x0 x2 p5 p6 m0
              intro w5 hb5
              have HB5 := Lib.hid (HBR.out.trans (hb5.mono HBR.out.size))
              clear hb5
              go_wp2
              go_ret
              exact ⟨ret_b HF.out, HB.out.trans (HB5.out.mono HB.out.size)⟩
          · have HF := Lib.hid (HBAD.out (by rw [← hb, decide_eq_false hc1]; simp))
            have hc2 : ((cc : Int) == 1) = false := beq_noI (by omega)
            have hc4 : (cc == 1) = false := by simpa using hc1
            have hc5 : (cc != 1) = true := by simpa using hc1
            have hc6 : ((cc : Int) != 1) = true := by simp; omega
            have hc3 : (cc : Int) ≤ 1000 := by rw [HN.out] at hcl; have := HW.out; omega
            clear hin e3 e4 e8 e9 hy p7 hm hb o3 hyn hcc hcl hi hix hit hil hiw htm hsn ht hbr hc1
            go_upto_region 9 with (go_at_call 42; (with_reducible refine GO.out.mono ?_); rintro e w4 ⟨rfl, rfl⟩)
            refine wp_region_calm0 (by kernel_rfl) (by kernel_rfl) fun M => ?_
            have f0 := fun n : In M.w => n.cell (M.cell x0)
            have f2 := fun n : In M.w => n.cell (M.cell x2)
            have f3 := fun n : In M.w => n.cell (M.cell m0)
            have GT2 := fun n : In M.w => GT.out n.w (M.h.trans (n.h.mono M.h.size))
            repeat (go_big_quiet_step ((go_at_call 43; with_reducible exact In.call_same (GT2 _))))
            refine wpQuiet_nil ?_
            clear f0 f2 f3 GT2 M x0 x2 p5 p6 m0
            intro w5 hb5
            have HB5 := Lib.hid (HBR.out.trans (hb5.mono HBR.out.size))
            clear hb5
            go_wp2
            go_ret
            exact ⟨ret_b HF.out, HB.out.trans (HB5.out.mono HB.out.size)⟩
        · rw [plc_none hm] at GO
          have hin : inL T.toks t = false := by rw [HTK.out]; exact decide_eq_false hm
          rw [hin, Bool.false_and] at hb
          have HF := Lib.hid (HBAD.out hb.symm)
          clear hin hm hb hcl hi hix hit hil hiw htm hsn ht hbr
          go_upto_region 9 with (go_at_call 42; (with_reducible refine GO.out.mono ?_); rintro e w4 ⟨rfl, rfl⟩)
          refine wp_region_calm0 (by kernel_rfl) (by kernel_rfl) fun M => ?_
          have f0 := fun n : In M.w => n.cell (M.cell x0)
          have f2 := fun n : In M.w => n.cell (M.cell x2)
          have f3 := fun n : In M.w => n.cell (M.cell m0)
          repeat (go_big_quiet_step (fail))
          refine wpQuiet_nil ?_
          clear f0 f2 f3 M x0 x2 m0
          intro w5 hb5
          have HB5 := Lib.hid (HBR.out.trans (hb5.mono HBR.out.size))
          clear hb5
          go_wp2
          go_ret
          exact ⟨ret_b HF.out, HB.out.trans (HB5.out.mono HB.out.size)⟩
      · have i1 : ¬ (i : Int) < (n : Int) := by omega
        have HF := Lib.hid (show true = r by
          rw [HRR.out, ← HAL.out, List.take_of_length_le (by rw [HN.out]; omega)])
        have HB5 := Lib.hid hbr
        clear hi hix hit hbr
        go_wp2
        go_ret
        exact ⟨ret_b HF.out, HB.out.trans (HB5.out.mono HB.out.size)⟩
end Go.Proofs.Ytjmgokjljmmmgaa
/- Stage 21: the document's Right. -/
namespace Go.Proofs.Ytjmgokjljmmmgaa
open Go.RowKit

theorem seatB_mk2 {Ls : List Lr} {Xs : List Le} (hn : (Xs.map Le.token).Nodup) {x : Le} (hx : x ∈ Xs) : seatB (mkT Ls Xs) x.token = seatV Ls x.token x.got.toNat x.want := by
  obtain ⟨h1, h2⟩ := mk_seat (Ls := Ls) hn hx
  unfold seatB seatV
  rw [h1, h2]
  rfl
/-- leases as the document goes through them -/
def lesD (Ls : List Lr) : Int → List Le → Bool
  | _, [] => true
  | last, x :: r => decide (last < x.token) && (leaseB Ls x && lesD Ls x.token r)
theorem lesD_drop {Ls : List Lr} {Xs : List Le} {k : Nat} (hk : k < Xs.length) (last : Int) : lesD Ls last (Xs.drop k) = (decide (last < Xs[k].token) && (leaseB Ls Xs[k] && lesD Ls Xs[k].token (Xs.drop (k + 1)))) := by
  rw [List.drop_eq_getElem_cons hk]
  rfl
theorem lesD_iff (Ls : List Lr) : ∀ (Xs : List Le) (last : Int), lesD Ls last Xs = true ↔ lesW last Xs = true ∧ ∀ x ∈ Xs, seatV Ls x.token x.got.toNat x.want = true
  | [], _ => by simp [lesD, lesW]
  | x :: r, last => by
    show (decide (last < x.token) && (leaseB Ls x && lesD Ls x.token r)) = true ↔ _
    rw [lesW_cons, Bool.and_eq_true, Bool.and_eq_true, lesD_iff Ls r x.token]
    unfold leaseB
    simp only [Bool.and_eq_true, decide_eq_true_eq, List.mem_cons, forall_eq_or_imp]
    constructor
    · rintro ⟨h1, ⟨h2, h3, h4, h5⟩, h6, h7⟩
      exact ⟨⟨h1, h2, h3, h4, h6⟩, h5, h7⟩
    · rintro ⟨⟨h1, h2, h3, h4, h6⟩, h5, h7⟩
      exact ⟨h1, ⟨h2, h3, h4, h5⟩, h6, h7⟩
theorem lesD_eq (Ls : List Lr) (Xs : List Le) : lesD Ls 0 Xs = (lesW 0 Xs && seatsW Xs Ls) := by
  rw [Bool.eq_iff_iff, lesD_iff, Bool.and_eq_true]
  unfold seatsW
  rw [List.all_eq_true]
  constructor
  · rintro ⟨h1, h2⟩
    have hn := ris_nodup (lesW_ris Xs 0 h1).2
    refine ⟨h1, fun t ht => ?_⟩
    obtain ⟨x, hx, rfl⟩ := List.mem_map.1 ht
    rw [seatB_mk2 hn hx]
    exact h2 x hx
  · rintro ⟨h1, h2⟩
    have hn := ris_nodup (lesW_ris Xs 0 h1).2
    refine ⟨h1, fun x hx => ?_⟩
    rw [← seatB_mk2 hn hx]
    exact h2 _ (List.mem_map_of_mem hx)
theorem rightW_eq (Xs : List Le) (Ls : List Lr) : rightW Xs Ls = (rightB (idsL Ls) && (lesD Ls 0 Xs && locksW Xs Ls)) := by
  unfold rightW
  rw [lesD_eq, Bool.and_assoc]
set_option maxHeartbeats 16000000 in
set_option maxRecDepth 100000 in
theorem refRightW_any (vx vl : Value) (Xs : List Le) (Ls : List Lr) (W : World) (hx : LeasesAt W vx Xs) (hl : LocksAt W vl Ls) (hxl : Xs.length ≤ 1000) (hll : Ls.length ≤ 1000) (hxw : ∀ x ∈ Xs, x.want.length ≤ 1000) (hlw : ∀ x ∈ Ls, x.wait.length ≤ 1000) :
    Calls Try.prog 7 #[vx, vl] W fun e w' => e = .returned (.bool (rightW Xs Ls)) ∧ Below W.heap.size W w' := by
  obtain ⟨r, hr⟩ : ∃ r, rightW Xs Ls = r := ⟨_, rfl⟩
  rw [hr]
  have hrr : r = (rightB (idsL Ls) && (lesD Ls 0 Xs && locksW Xs Ls)) := by rw [← hr, rightW_eq]
  have HRR := Lib.hid hrr
  have HX := Lib.hid hx
  have HL := Lib.hid hl
  have HXL := Lib.hid hxl
  have HLL := Lib.hid hll
  have HXW := Lib.hid hxw
  have HLW := Lib.hid hlw
  obtain ⟨ax, cx, rfl⟩ := RowsAt.form hx.rows
  obtain ⟨al, cl, rfl⟩ := RowsAt.form hl.rows
  have hidl : (idsL Ls).length = Ls.length := by simp [idsL]
  have HIDL := Lib.hid hidl
  have hb0 := Below.refl W.heap.size W
  clear hr hrr hx hl hxl hll hxw hlw hidl
  go_enter Try.func7, Try.ntmps7
  go_wp2
  go_loopg [5] (Ls.length + 1) (fun kx iv wr => ∃ k : Nat, iv = .int .i64 ((k : Int) + 1) ∧ Ls.length + 1 - k ≤ kx ∧ k + 1 ≤ max 1 Ls.length ∧ Hid (∀ i (h : i + 1 < (idsL Ls).length), i < k → (idsL Ls)[i] < (idsL Ls)[i + 1]) ∧ Below W.heap.size W wr)
  case atStart => exact ⟨0, rfl, by omega, by omega, (fun i _ h => absurd h (by omega)), hb0⟩
  case round =>
    clear hb0
    obtain ⟨k, rfl, hkx, hk, hup, hB⟩ := hrel
    have HB := Lib.hid hB
    by_cases hlt : k + 1 < Ls.length
    · have hla := LocksAt.below HL.out hB
      obtain ⟨g, o, c, e, z1, z2, p1, z3, z4⟩ := RowsAt.atL hla.rows (k + 1) hlt
      cases e
      obtain ⟨_, _, _, e, z5, z6, p0, z7, z8⟩ := RowsAt.atL hla.rows k (by omega)
      cases e
      clear z1 z2 z3 z4 z5 z6 z7 z8
      have hl1 : k + 1 < (idsL Ls).length := by rw [HIDL.out]; exact hlt
      have HLT := Lib.hid (And.intro hlt hkx)
      have K0 : (0 : Int) ≤ (k : Int) := by omega
      have K1 : (k : Int) + 1 < (Ls.length : Int) := by omega
      have K2 : (k : Int) ≤ 1000 := by have := HLL.out; omega
      have K3 : (k : Int) < (Ls.length : Int) := by omega
      have hno := fun h => ris_no (l := idsL Ls) k hl1 h
      have hik : (idsL Ls)[k]'(by omega) = (Ls[k]'(by omega)).id := by simp [idsL]
      have hik1 : (idsL Ls)[k + 1]'hl1 = (Ls[k + 1]'hlt).id := by simp [idsL]
      rw [hik, hik1] at hno
      obtain ⟨x, hx⟩ : ∃ x, (Ls[k]'(by omega)).id = x := ⟨_, rfl⟩
      obtain ⟨y, hy⟩ : ∃ y, (Ls[k + 1]'hlt).id = y := ⟨_, rfl⟩
      rw [hx] at p0 hno hik
      rw [hy] at p1 hno hik1
      have HST := Lib.hid (show x < y → ∀ i (h : i + 1 < (idsL Ls).length), i < k + 1 → (idsL Ls)[i] < (idsL Ls)[i + 1] from fun hxy i h hi => by
        by_cases e : i = k
        · subst e
          rw [hik, hik1]
          exact hxy
        · exact hup.out i h (by omega))
      have HNO := Lib.hid hno
      clear hup hB hno hx hy hk hkx hla hik hik1
      by_cases hle : y ≤ x
      · have HF := Lib.hid (show false = r by rw [HRR.out, show rightB (idsL Ls) = false from decide_eq_false (HNO.out hle)]; rfl)
        have G := Lib.hid (show decide (y ≤ x) = true by simp; omega)
        clear hle
        go_upto_region 4 with fail
        have g1 := G.out
        refine wp_region_calm0 (by kernel_rfl) (by kernel_rfl) fun M => ?_
        have e0 := fun n : In M.w => n.cell (M.cell p0)
        have e1 := fun n : In M.w => n.cell (M.cell p1)
        repeat (go_big_quiet_step (fail))
        refine wpQuiet_nil ?_
        clear e0 e1 M p0 p1
        intro w2 hb2
        have HB2 := Lib.hid (HB.out.trans (hb2.mono HB.out.size))
        clear hb2
        go_wp2
        go_ret
        exact ⟨ret_b HF.out, HB2.out⟩
      · have G := Lib.hid (show decide (y ≤ x) = false by simp; omega)
        have HUP2 := Lib.hid (HST.out (by omega))
        clear hle
        go_upto_region 4 with fail
        have g1 := G.out
        refine wp_region_calm0 (by kernel_rfl) (by kernel_rfl) fun M => ?_
        have e0 := fun n : In M.w => n.cell (M.cell p0)
        have e1 := fun n : In M.w => n.cell (M.cell p1)
        repeat (go_big_quiet_step (fail))
        refine wpQuiet_nil ?_
        clear e0 e1 M p0 p1
        intro w2 hb2
        have HB2 := Lib.hid (HB.out.trans (hb2.mono HB.out.size))
        clear hb2
        go_wp2
        go_roundg (Ls.length + 1 - (k + 1))
        case measure => have := HLT.out; omega
        case rel => exact ⟨k + 1, by go_num, Nat.le_refl _, by have := HLT.out; omega, HUP2.out, HB2.out⟩
    · have hris : risL (idsL Ls) := ris_adj fun i h => hup.out i h (by rw [HIDL.out] at h; omega)
      have HID := Lib.hid (show rightB (idsL Ls) = true from decide_eq_true hris)
      have K1 : ¬ (k : Int) + 1 < (Ls.length : Int) := by omega
      obtain ⟨q, hq⟩ : ∃ q, lesD Ls 0 Xs = q := ⟨_, rfl⟩
      have HQ := Lib.hid hq
      have HRQ := Lib.hid (show r = (q && locksW Xs Ls) by rw [HRR.out, HID.out, hq, Bool.true_and])
      clear hup hris hB hk hkx hlt hq
      generalize wr = w1 at *
      go_wp2
      go_loopg [6, 7] Xs.length (fun kx lv iv ws => ∃ (k : Nat) (last : Int), k ≤ Xs.length ∧ Xs.length - k ≤ kx ∧ lv = .int .i64 last ∧ iv = .int .i64 k ∧ Hid (0 ≤ last) ∧ Hid (lesD Ls last (Xs.drop k) = q) ∧ Hid (Below W.heap.size W ws))
      case atStart => exact ⟨0, 0, Nat.zero_le _, Nat.le_refl _, rfl, rfl, (by show (0 : Int) ≤ 0; omega), HQ.out, HB.out⟩
      case round =>
        obtain ⟨k, last, hk, hkx, rfl, rfl, HLA, HDK, HB2⟩ := hrel
        by_cases hlt : k < Xs.length
        · have HLT := Lib.hid (And.intro hlt hkx)
          have k0 : (0 : Int) ≤ (k : Int) := by omega
          have k1 : (k : Int) < (Xs.length : Int) := by omega
          have k2 : (k : Int) ≤ 1000 := by have := HXL.out; omega
          obtain ⟨g, o, cc, e, _, _, p0, p1, p2, p3, p4, p5, p6⟩ := leaseAt (RowsAt.kept HX.out.rows HB2.out) k hlt
          cases e
          have hxi := (HX.out.each _ (List.getElem_mem hlt)).below HB2.out
          have hxw := HXW.out _ (List.getElem_mem hlt)
          have hdk := HDK.out
          rw [lesD_drop hlt] at hdk
          obtain ⟨x, hx⟩ : ∃ x, Xs[k]'hlt = x := ⟨_, rfl⟩
          rw [hx] at p0 p1 p2 p3 p4 p5 p6 hxi hxw hdk
          by_cases h1 : last < x.token
          · have q1 : ¬ x.token ≤ last := by omega
            have hp : 0 < x.token := by have := HLA.out; omega
            rw [decide_eq_true h1, Bool.true_and] at hdk
            have GL := Lib.hid (refLease21_any x (.slice al Ls.length cl) Ls wr (LocksAt.below HL.out HB2.out) hxi (by have := HLL.out; omega) hxw (fun k hk => HLW.out k hk) hp)
            obtain ⟨b, hb⟩ : ∃ b, leaseB Ls x = b := ⟨_, rfl⟩
            rw [hb] at hdk GL
            obtain ⟨tk, ta, wo, un, du, go, xa, xc, xw⟩ := x
            simp only at p0 p1 p2 p3 p4 p5 q1 hp hdk
            change _ = some (Value.slice xa xw.length xc) at p6
            dsimp only [lev] at GL
            generalize xw.length = xn at *
            have HDK2 := Lib.hid hdk
            have HP := Lib.hid hp
            clear hk hkx hlt hxi hxw hx h1 hb hdk hp HDK
            cases b with
            | false =>
              have HF := Lib.hid (show false = r by rw [HRQ.out, ← HDK2.out]; rfl)
              go_wp2_with (go_at_call 22; (with_reducible refine GL.out.mono ?_); rintro e w3 ⟨rfl, b3⟩; have HB3 := Lib.hid (HB2.out.trans (b3.mono HB2.out.size)); clear b3)
              go_ret
              exact ⟨ret_b HF.out, HB3.out⟩
            | true =>
              go_wp2_with (go_at_call 22; (with_reducible refine GL.out.mono ?_); rintro e w3 ⟨rfl, b3⟩; have HB3 := Lib.hid (HB2.out.trans (b3.mono HB2.out.size)); clear p1 p2 p3 p4 p5 p6; replace p0 := (b3.cell (World.block_lt_of_cell? _ _ p0)).trans p0; clear b3)
              go_roundg (Xs.length - (k + 1))
              case measure => have := HLT.out; omega
              case rel => exact ⟨k + 1, tk, by have := HLT.out; omega, Nat.le_refl _, rfl, by go_num, (by have := HP.out; show (0 : Int) ≤ tk; omega), HDK2.out, HB3.out⟩
          · have q1 : x.token ≤ last := by omega
            rw [decide_eq_false h1, Bool.false_and] at hdk
            have HF := Lib.hid (show false = r by rw [HRQ.out, ← hdk]; rfl)
            generalize x.token = tk at *
            clear hk hkx hlt hxi hxw hx h1 hdk p1 p2 p3 p4 p5 p6
            go_wp2
            go_ret
            exact ⟨ret_b HF.out, HB2.out⟩
        · have k1 : ¬ (k : Int) < (Xs.length : Int) := by omega
          have hqt : q = true := by rw [← HDK.out, List.drop_eq_nil_of_le (by omega)]; rfl
          subst hqt
          have hlw := ((lesD_iff Ls Xs 0).1 HQ.out).1
          have HNT := Lib.hid (ris_nodup (lesW_ris Xs 0 hlw).2)
          have HOK := Lib.hid (show ∀ y ∈ Xs, 0 ≤ y.got ∧ y.got ≤ (y.want.length : Int) ∧ y.want.length ≤ 1000 from fun y hy => by
            have h := lesW_each Xs 0 hlw y hy
            exact ⟨h.2.1, h.2.2, HXW.out y hy⟩)
          have HRL := Lib.hid (show r = Ls.all fun l => lockB (mkT Ls Xs) l by rw [HRQ.out, Bool.true_and]; rfl)
          clear hk hkx hlt hlw HLA HDK
          generalize wr = w2 at *
          go_wp2
          go_loopg [8] Ls.length (fun kx iv ws => ∃ i : Nat, i ≤ Ls.length ∧ Ls.length - i ≤ kx ∧ iv = .int .i64 i ∧ Hid ((Ls.take i).all (fun l => lockB (mkT Ls Xs) l) = true) ∧ Hid (Below W.heap.size W ws))
          case atStart => exact ⟨0, Nat.zero_le _, Nat.le_refl _, rfl, rfl, HB2.out⟩
          case round =>
            obtain ⟨i, hi, hix, rfl, HAL, HB3⟩ := hrel
            by_cases hit : i < Ls.length
            · have HIT := Lib.hid (And.intro hit hix)
              have i0 : (0 : Int) ≤ (i : Int) := by omega
              have i1 : (i : Int) < (Ls.length : Int) := by omega
              have i2 : (i : Int) ≤ 1000 := by have := HLL.out; omega
              have hla := LocksAt.below HL.out HB3.out
              obtain ⟨g, o, cc, e, _, _, p0, p1, p2⟩ := RowsAt.atL hla.rows i hit
              cases e
              have hxi := hla.each _ (List.getElem_mem hit)
              have hxw := HLW.out _ (List.getElem_mem hit)
              have hxm := List.getElem_mem hit
              have hsn : Ls.take (i + 1) = Ls.take i ++ [Ls[i]'hit] := List.take_succ_eq_append_getElem hit
              obtain ⟨x, hx⟩ : ∃ x, Ls[i]'hit = x := ⟨_, rfl⟩
              rw [hx] at p0 p1 p2 hxi hxw hxm hsn
              have GL := Lib.hid (refLockW_any x (.slice ax Xs.length cx) Ls Xs wr ⟨RowsAt.kept HX.out.rows HB3.out, fun y hy => (HX.out.each y hy).below HB3.out⟩ hxi HNT.out (by have := HXL.out; omega) hxw HOK.out)
              obtain ⟨b, hb⟩ : ∃ b, lockB (mkT Ls Xs) x = b := ⟨_, rfl⟩
              have HBAD := Lib.hid (show b = false → false = r from fun h => by
                rw [HRL.out]
                exact (List.all_eq_false.2 ⟨x, hxm, by rw [hb, h]; simp⟩).symm)
              have HGOOD := Lib.hid (show b = true → (Ls.take (i + 1)).all (fun l => lockB (mkT Ls Xs) l) = true from fun h => by
                rw [hsn, List.all_append, HAL.out]
                simp [hb, h])
              rw [hb] at GL
              obtain ⟨id, hh, xa, xc, xw⟩ := x
              simp only at p0 p1
              change _ = some (Value.slice xa xw.length xc) at p2
              dsimp only at GL
              generalize xw.length = xn at *
              clear hi hix hit hla hxi hxw hxm hsn hx hb
              cases b with
              | false =>
                have HF := Lib.hid (HBAD.out rfl)
                go_wp2_with (go_at_call 23; (with_reducible refine GL.out.mono ?_); rintro e w3 ⟨rfl, b3⟩; have HB4 := Lib.hid (HB3.out.trans (b3.mono HB3.out.size)); clear b3)
                go_ret
                exact ⟨ret_b HF.out, HB4.out⟩
              | true =>
                have HGD := Lib.hid (HGOOD.out rfl)
                go_wp2_with (go_at_call 23; (with_reducible refine GL.out.mono ?_); rintro e w3 ⟨rfl, b3⟩; have HB4 := Lib.hid (HB3.out.trans (b3.mono HB3.out.size)); clear b3)
                go_roundg (Ls.length - (i + 1))
                case measure => have := HIT.out; omega
                case rel => exact ⟨i + 1, by have := HIT.out; omega, Nat.le_refl _, by go_num, HGD.out, HB4.out⟩
            · have i1 : ¬ (i : Int) < (Ls.length : Int) := by omega
              have HF := Lib.hid (show true = r by
                rw [HRL.out, ← HAL.out, List.take_of_length_le (by omega)])
              clear hi hix hit
              go_wp2
              go_ret
              exact ⟨ret_b HF.out, HB3.out⟩
end Go.Proofs.Ytjmgokjljmmmgaa
/- Stage 21: the document's Arcs. -/
namespace Go.Proofs.Ytjmgokjljmmmgaa
open Go.RowKit

/-- a block of things, as a list -/
theorem rowsOf {α : Type} {cs : α → List Value} {K : Nat} (hK : ∀ x, (cs x).length = K) {w : World} {b : Nat} {e : TypeId} (l : List α) (hh : w.heap[b]? = some (.cells (flats cs l).toArray e)) : RowsAt w K cs (.slice (some ⟨b, 0, none⟩) l.length l.length) l := by
  have hb : b < w.heap.size := by
    rcases Nat.lt_or_ge b w.heap.size with h | h
    · exact h
    · rw [Array.getElem?_eq_none h] at hh
      cases hh
  refine ⟨_, l.length, rfl, Nat.le_refl _, fun _ => ⟨b, 0, rfl, hb, fun j x hj i u hu => ?_⟩⟩
  have h := flats_at hK l j x hj i u hu
  unfold World.cell?
  simp only [hh, Nat.zero_add]
  simpa using h
theorem csArc_one (x : Arc16) : ∀ u ∈ csArc x, u.oneCell' = true := by
  intro u hu
  simp [csArc] at hu
  rcases hu with rfl | rfl <;> rfl
theorem info_arc : (Try.prog.info? 39).map (fun i => (i.zero, i.size, i.bytes)) = some (some (.agg #[.int .i64 0, .int .i64 0]), 2, 16) := by kernel_rfl
theorem awX_none {Ls : List Lr} {x : Le} (h : nxX x = none) : awX Ls x = none := by
  unfold awX
  rw [h]
  rfl
theorem awX_some {Ls : List Lr} {x : Le} {id : Int} (h : nxX x = some id) : awX Ls x = lkF Ls id := by
  unfold awX
  rw [h]
  rfl
/-- for which lock a lease waits: nobody's, or the one at a place -/
theorem wt_cases (Ls : List Lr) (x : Le) : (wtI Ls x = -1 ∧ awX Ls x = none) ∨ ∃ id, id ∈ idsL Ls ∧ wtI Ls x = plcL (idsL Ls) id ∧ awX Ls x = lkF Ls id := by
  cases h : nxX x with
  | none => exact .inl ⟨by unfold wtI; rw [h], awX_none h⟩
  | some id =>
    by_cases hi : id ∈ idsL Ls
    · exact .inr ⟨id, hi, by unfold wtI; rw [h], awX_some h⟩
    · exact .inl ⟨by unfold wtI; rw [h]; exact plc_none hi, (awX_some h).trans (lkF_none hi)⟩
set_option maxHeartbeats 16000000 in
set_option maxRecDepth 100000 in
theorem refArcsW_any (vx vl : Value) (Xs : List Le) (Ls : List Lr) (W : World) (hx : LeasesAt W vx Xs) (hl : LocksAt W vl Ls) (hxl : Xs.length ≤ 1000) (hll : Ls.length ≤ 1000) (hxw : ∀ x ∈ Xs, x.want.length ≤ 1000) :
    Calls Try.prog 12 #[vx, vl] W fun e w' => ∃ v, e = .returned v ∧ OwnR w' W.heap.size 39 2 csArc v (arcsW Xs Ls) ∧ Below W.heap.size W w' := by
  have HX := Lib.hid hx
  have HL := Lib.hid hl
  have HXL := Lib.hid hxl
  have HLL := Lib.hid hll
  have HXW := Lib.hid hxw
  obtain ⟨ax, cx, rfl⟩ := RowsAt.form hx.rows
  obtain ⟨al, cl, rfl⟩ := RowsAt.form hl.rows
  have hb0 := Below.refl W.heap.size W
  clear hx hl hxl hll hxw
  go_enter Try.func12, Try.ntmps12
  go_wp2
  go_loopg [5, 6] Xs.length (fun kx sv iv ws => ∃ k : Nat, k ≤ Xs.length ∧ Xs.length - k ≤ kx ∧ iv = .int .i64 k ∧ Hid (OwnR ws W.heap.size 39 2 csArc sv (arcsW (Xs.take k) Ls)) ∧ Hid (Below W.heap.size W ws))
  case atStart => exact ⟨0, Nat.zero_le _, Nat.le_refl _, rfl, OwnR.nil _ _ _ _ _, hb0⟩
  case round =>
    clear hb0
    obtain ⟨k, hk, hkx, rfl, HO, HB⟩ := hrel
    obtain ⟨aT, cT, e⟩ := RowsAt.form (OwnR.rows csArc_len HO.out)
    subst e
    by_cases hlt : k < Xs.length
    · have HLT := Lib.hid (And.intro hlt hkx)
      have k0 : (0 : Int) ≤ (k : Int) := by omega
      have k1 : (k : Int) < (Xs.length : Int) := by omega
      have k2 : (k : Int) ≤ 1000 := by have := HXL.out; omega
      obtain ⟨g, o, cc, e, _, _, p0, p1, p2, p3, p4, p5, p6⟩ := leaseAt (RowsAt.kept HX.out.rows HB.out) k hlt
      cases e
      have hxi := (HX.out.each _ (List.getElem_mem hlt)).below HB.out
      have hxw := HXW.out _ (List.getElem_mem hlt)
      have hnx := arcs_next Xs Ls k hlt
      have hla := LocksAt.below HL.out HB.out
      have hal : (arcsW (Xs.take k) Ls).length ≤ 1000 := by
        have := arcs_len (Xs.take k) Ls
        rw [List.length_take] at this
        have := HXL.out
        omega
      obtain ⟨x, hx⟩ : ∃ x, Xs[k]'hlt = x := ⟨_, rfl⟩
      rw [hx] at p0 p1 p2 p3 p4 p5 p6 hxi hxw hnx
      have GW := Lib.hid (refWaits21_any x (.slice al Ls.length cl) Ls wr hla.rows hxi HLL.out hxw)
      have hwc := wt_cases Ls x
      obtain ⟨wt, hwt⟩ : ∃ wt, wtI Ls x = wt := ⟨_, rfl⟩
      rw [hwt] at GW hwc
      unfold arcX at hnx
      obtain ⟨aw, haw⟩ : ∃ aw, awX Ls x = aw := ⟨_, rfl⟩
      rw [haw] at hnx hwc
      obtain ⟨tk, ta, wo, un, du, go, xa, xc, xw⟩ := x
      simp only at p0 p1 p2 p3 p4 p5 hnx
      change _ = some (Value.slice xa xw.length xc) at p6
      dsimp only [lev] at GW
      generalize xw.length = xn at *
      have HAL := Lib.hid hal
      generalize arcsW (Xs.take k) Ls = D at *
      rcases hwc with ⟨rfl, rfl⟩ | ⟨id, hid, e1, e2⟩
      · have HNX := Lib.hid (hnx.trans (List.append_nil D))
        clear hk hkx hlt hxi hxw hx hnx hla hal hwt haw
        go_wp2_with (go_at_call 27; (with_reducible refine GW.out.mono ?_); rintro e w3 ⟨rfl, b3⟩; have HO3 := Lib.hid (OwnR.kept HO.out b3); have HB3 := Lib.hid (HB.out.trans (b3.mono HB.out.size)); clear b3)
        go_roundg (Xs.length - (k + 1))
        case measure => have := HLT.out; omega
        case rel => exact ⟨k + 1, by have := HLT.out; omega, Nat.le_refl _, by go_num, by rw [HNX.out]; exact HO3.out, HB3.out⟩
      · obtain ⟨kk, q, g2, o2, c2, e3, _, e5, e6, e7, q0, q1, q2, _⟩ := lockSpot hla hid
        cases e7
        rw [e2, e3] at hnx
        rw [e5] at e1
        subst e1
        have j0 : (0 : Int) ≤ (q : Int) := by omega
        have j1 : (q : Int) < (Ls.length : Int) := by omega
        have j2 : (q : Int) ≤ 1000 := by have := HLL.out; omega
        obtain ⟨id', hh, ka, kc, kw⟩ := kk
        simp only [Option.bind_some] at q1 hnx
        by_cases hz : hh = 0
        · rw [if_pos hz] at hnx
          have HNX := Lib.hid (hnx.trans (List.append_nil D))
          subst hz
          clear hk hkx hlt hxi hxw hx hnx hla hal hwt haw hid e2 e3 e5 e6 q0 q2
          go_wp2_with (go_at_call 27; (with_reducible refine GW.out.mono ?_); rintro e w3 ⟨rfl, b3⟩; have HO3 := Lib.hid (OwnR.kept HO.out b3); have HB3 := Lib.hid (HB.out.trans (b3.mono HB.out.size)); replace q1 := (b3.cell (World.block_lt_of_cell? _ _ q1)).trans q1; clear b3)
          go_roundg (Xs.length - (k + 1))
          case measure => have := HLT.out; omega
          case rel => exact ⟨k + 1, by have := HLT.out; omega, Nat.le_refl _, by go_num, by rw [HNX.out]; exact HO3.out, HB3.out⟩
        · rw [if_neg hz] at hnx
          have HNX := Lib.hid hnx
          have hz2 : (hh == 0) = false := beq_noI hz
          have hz3 : (hh != 0) = true := by simp [hz]
          clear hk hkx hlt hxi hxw hx hnx hla hal hwt haw hid e2 e3 e5 e6 q0 q2
          go_upto_region 7 with (go_at_call 27; (with_reducible refine GW.out.mono ?_); rintro e w3 ⟨rfl, b3⟩; have HO3 := Lib.hid (OwnR.kept HO.out b3); have HB3 := Lib.hid (HB.out.trans (b3.mono HB.out.size)); replace q1 := (b3.cell (World.block_lt_of_cell? _ _ q1)).trans q1; replace p0 := (b3.cell (World.block_lt_of_cell? _ _ p0)).trans p0; clear b3)
          clear p1 p2 p3 p4 p5 p6
          obtain ⟨i0, hi, hz0, hz1, hz4⟩ := info_parts info_arc
          refine wp_region_calmN 12 13 [(.cells #[.int .i64 tk, .int .i64 hh] 39, fun b => .slice (some ⟨b, 0, none⟩) 1 1)] (by kernel_rfl) (by simp) (by simp) (by kernel_rfl) fun M => ?_
          simp only [List.take_succ_cons, List.take_zero, List.drop_succ_cons, List.drop_zero, List.length_cons, List.length_nil]
          have m0 := fun n : In M.w => n.cell (M.cell p0)
          have m1 := fun n : In M.w => n.cell (M.cell q1)
          repeat (go_big_quiet_step (fail))
          refine wpQuiet_nil ?_
          clear m0 m1 M p0 q1
          refine ⟨rfl, fun n => by simp [go_sem], fun bp hbp _ w4 hw => ?_⟩
          have hb4 := hw.below
          have HH := Lib.hid (rowsOf csArc_len [(⟨tk, hh⟩ : Arc16)] (hw.own bp _ (Gh.set_self _ _ _)))
          have HO4 := Lib.hid (OwnR.kept HO3.out hb4)
          have HB4 := Lib.hid (HB3.out.trans (hb4.mono HB3.out.size))
          clear hw hb4
          go_wp2_with (at_builtin; refine wpList_append_rows csArc_len (by decide) csArc_one rfl _ _ 27 rfl W.heap.size 39 i0 (.agg #[.int .i64 0, .int .i64 0]) 16 Try.underlying27 hi hz0 hz1 hz4 rfl _ _ rfl HO4.out _ [⟨tk, hh⟩] rfl HH.out (by have := HAL.out; unfold maxLen; simp; omega) (by have := HAL.out; simp; omega) HB4.out.size ?_; intro v5 w5 k1' k2'; have HO5 := Lib.hid k1'; have HB5 := Lib.hid (OwnR.below HO4.out HB4.out HB4.out.size k2'); clear k1' k2')
          go_roundg (Xs.length - (k + 1))
          case measure => have := HLT.out; omega
          case rel => exact ⟨k + 1, by have := HLT.out; omega, Nat.le_refl _, by go_num, by rw [HNX.out]; exact HO5.out, HB5.out⟩
    · have k1 : ¬ (k : Int) < (Xs.length : Int) := by omega
      have ho := HO.out
      rw [show Xs.take k = Xs from List.take_of_length_le (by omega)] at ho
      have hl : (arcsW (Xs.take k) Ls).length = (arcsW Xs Ls).length := by rw [List.take_of_length_le (by omega)]
      rw [hl]
      have HO2 := Lib.hid ho
      clear hk hkx hlt ho HO hl
      go_wp2
      go_ret
      exact ⟨_, rfl, HO2.out, HB.out⟩
end Go.Proofs.Ytjmgokjljmmmgaa
/- Stage 16: the document's Order, Left. -/
namespace Go.Proofs.Ytjmgokjljmmmgaa
open Go.RowKit

def slen : Value → Nat
  | .slice _ n _ => n
  | _ => 0

set_option maxHeartbeats 8000000 in
set_option maxRecDepth 100000 in
theorem refOrder_any (va vb : Value) (l : List Int) (arcs : List Arc16) (W : World) (ha : IntsAt W va l) (hb : ArcsAt W vb arcs) (hl : l.length ≤ 1000) (hl2 : arcs.length ≤ 1000) :
    Calls Try.prog 48 #[va, vb] W fun e w' => ∃ v, e = .returned (.tuple #[v, .bool (decide ((ordL l arcs).length = (setL l).length))]) ∧ OwnI w' W.heap.size v (ordL l arcs) ∧ Below W.heap.size W w' := by
  have GS := Lib.hid (refSet_any va l W ha (by omega))
  have HA := Lib.hid hb
  obtain ⟨a0, c0, rfl⟩ := IntsAt.form ha
  obtain ⟨b0, d0, rfl⟩ := RowsAt.form hb
  have hnl := setL_le l
  have hord : ordL l arcs = ordG (setL l) arcs (setL l).length [] := rfl
  obtain ⟨R, hR⟩ : ∃ R, ordL l arcs = R := ⟨_, rfl⟩
  rw [hR] at hord ⊢
  clear hR
  generalize setL l = N at *
  obtain ⟨t, ht⟩ : ∃ t, decide (R.length = N.length) = t := ⟨_, rfl⟩
  rw [ht]
  have HTD := Lib.hid ht
  clear ht
  have HORD := Lib.hid hord
  have HL2 := Lib.hid hl2
  have HNL := Lib.hid (show N.length ≤ 1000 by omega)
  clear ha hb hord hnl
  go_enter Try.func48, Try.ntmps48
  go_wp2_with (go_at_call 47; (with_reducible refine GS.out.mono ?_); rintro e w1 ⟨vn, rfl, hn, hbn⟩; obtain ⟨an, cn, e⟩ := RowsAt.form (OwnR.rows csI_len hn); subst e; have HN := Lib.hid (OwnI.ints hn); have HB1 := Lib.hid hbn; have HAR := Lib.hid (RowsAt.kept HA.out hbn); clear hn hbn)
  go_loopw [7, 8] (fun tv iv wr => ∃ (i : Nat) (T : List Int), i ≤ N.length ∧ iv = .int .i64 i ∧ OwnI wr w1.heap.size tv T ∧ Below w1.heap.size w1 wr ∧ ToldI N T ∧ ordG N arcs (N.length - T.length) T = R ∧ ∀ j (_ : j < i) (h2 : j < N.length), nextB N arcs T N[j] = false) (fun tv iv _ => (N.length - slen tv) * (N.length + 1) + (N.length - (intOf iv).toNat))
  case atStart => exact ⟨0, [], by omega, rfl, OwnR.nil _ _ _ _ _, Below.refl _ _, ToldI.nil _, HORD.out.symm, fun j h => absurd h (by omega)⟩
  case round =>
    obtain ⟨i, T, hi, rfl, ho, hB, hti, hor, hpre⟩ := hrel
    have HO := Lib.hid ho
    have HB := Lib.hid hB
    have HTI := Lib.hid hti
    have HOR := Lib.hid hor
    have HPRE := Lib.hid hpre
    have htl := hti.len
    obtain ⟨aT, cT, e⟩ := RowsAt.form (OwnR.rows csI_len ho)
    subst e
    by_cases hlt : i < N.length
    · obtain ⟨g, o, cc, e, hlc, hg, p0⟩ := (IntsAt.below HN.out hB).spot i hlt
      cases e
      have HLT := Lib.hid hlt
      have K0 : (0 : Int) ≤ (i : Int) := by omega
      have K1 : (i : Int) < (N.length : Int) := by omega
      have K2 : (i : Int) ≤ 1000 := by have := HNL.out; omega
      have GI := refIn_any (.slice aT T.length cT) T (N[i]'hlt) wr (OwnI.ints ho) (by have := HNL.out; omega)
      have GF := refFree_any (.slice (some ⟨g, o, none⟩) N.length cn) (.slice b0 arcs.length d0) (.slice aT T.length cT) N arcs T (N[i]'hlt) wr (IntsAt.below HN.out hB) (RowsAt.kept HAR.out hB) (OwnI.ints ho) (by have := HNL.out; omega) (by have := HL2.out; omega) (by have := HNL.out; omega)
      have hnb : nextB N arcs T (N[i]'hlt) = (!inL T (N[i]'hlt) && freeG N arcs T (N[i]'hlt)) := rfl
      have hmem : N[i]'hlt ∈ N := List.getElem_mem hlt
      have hpn : nextB N arcs T (N[i]'hlt) = false → ∀ j (_ : j < i + 1) (h2 : j < N.length), nextB N arcs T N[j] = false := fun h j hj h2 => by
        by_cases e : j = i
        · subst e; exact h
        · exact hpre j (by omega) h2
      have hst := fun (hb : nextB N arcs T (N[i]'hlt) = true) f => ordG_step (arcs := arcs) (told := T) i hlt rfl (fun j hj => hpre j hj (by omega)) hb f
      generalize N[i]'hlt = x at *
      have HPN := Lib.hid hpn
      have HST := Lib.hid hst
      have HMEM := Lib.hid hmem
      clear hpn hst hmem hpre hor hti ho hB htl
      cases hin : inL T x with
      | true =>
        rw [hin] at GI hnb
        have GI2 := Lib.hid GI
        have HX := Lib.hid (HPN.out hnb)
        clear GI GF hnb hin HPN HST
        go_wp2_with (go_at_call 31; (with_reducible refine GI2.out.mono ?_); rintro e w2 ⟨rfl, rfl⟩)
        go_roundw
        case rel => exact ⟨i + 1, T, by have := HLT.out; omega, by go_num, HO.out, HB.out, HTI.out, HOR.out, HX.out⟩
        case measure => have := HLT.out; simp [intOf, slen]; omega
      | false =>
        rw [hin] at GI hnb
        cases hfr : freeG N arcs T x with
        | false =>
          rw [hfr] at GF hnb
          have GI2 := Lib.hid GI
          have GF2 := Lib.hid GF
          have HX := Lib.hid (HPN.out hnb)
          clear GI GF hnb hin hfr HPN HST
          go_wp2_with (first
            | (go_at_call 31; (with_reducible refine GI2.out.mono ?_); rintro e w2 ⟨rfl, rfl⟩)
            | (go_at_call 60; (with_reducible refine GF2.out.mono ?_); rintro e w2 ⟨rfl, rfl⟩))
          go_roundw
          case rel => exact ⟨i + 1, T, by have := HLT.out; omega, by go_num, HO.out, HB.out, HTI.out, HOR.out, HX.out⟩
          case measure => have := HLT.out; simp [intOf, slen]; omega
        | true =>
          rw [hfr] at GF hnb
          have GI2 := Lib.hid GI
          have GF2 := Lib.hid GF
          have hlt2 := HTI.out.lt HMEM.out hnb
          have HLT2 := Lib.hid hlt2
          have HX := Lib.hid (HST.out hnb (N.length - T.length - 1))
          have HTN := Lib.hid (HTI.out.next HMEM.out hnb)
          clear GI GF hnb hin hfr HPN HST hlt2
          go_wp2_with (first
            | (go_at_call 31; (with_reducible refine GI2.out.mono ?_); rintro e w2 ⟨rfl, rfl⟩)
            | (go_at_call 60; (with_reducible refine GF2.out.mono ?_); rintro e w2 ⟨rfl, rfl⟩)
            | (at_builtin; refine app1 HO.out HB.out.size (by have := HLT2.out; have := HNL.out; omega) rfl _ _ rfl rfl rfl ?_; intro v6 w6 o6 b6; have HO6 := Lib.hid o6; have HB6 := Lib.hid (HB.out.trans b6); obtain ⟨a6, c6, e6⟩ := RowsAt.form (OwnR.rows csI_len o6); rw [List.length_append, List.length_singleton] at e6; subst e6; clear o6 b6 p0))
          go_roundw
          case rel => exact ⟨0, T ++ [x], by omega, rfl, HO6.out, HB6.out, HTN.out, by rw [List.length_append, List.length_singleton, ← HOR.out]; have h := HX.out; rw [show N.length - T.length - 1 + 1 = N.length - T.length by have := HLT2.out; omega] at h; rw [h]; congr 1, fun j h => absurd h (by omega)⟩
          case measure =>
            have h1 := HLT2.out
            simp [intOf, slen]
            obtain ⟨q, hq⟩ : ∃ q, N.length - T.length = q + 1 := ⟨N.length - T.length - 1, by omega⟩
            have hq2 : N.length - (T.length + 1) = q := by omega
            rw [hq, hq2, Nat.add_mul]
            omega
    · have hke : i = N.length := by omega
      have hend : T = R := by
        rw [← hor]
        exact (ordG_end (fun n hn => by
          obtain ⟨j, hj, rfl⟩ := List.getElem_of_mem hn
          exact hpre j (by omega) hj) _).symm
      subst hend hke
      have hdd : (((T.length : Int) == (N.length : Int))) = decide (T.length = N.length) := by
        by_cases h : T.length = N.length
        · rw [h]; simp
        · rw [decide_eq_false h]; exact beq_noI (by omega)
      rw [HTD.out] at hdd
      clear hor hpre hti hlt ho hB
      go_wp2
      exact bodyPost_ret (v := .tuple #[.slice aT T.length cT, .bool t]) (by simp [results, Try.results48, go_sem]) rfl ⟨_, rfl, HO.out.base13 HB1.out.size, HB1.out.trans (HB.out.mono HB1.out.size)⟩

set_option maxHeartbeats 8000000 in
set_option maxRecDepth 100000 in
theorem refLeft_any (va vb : Value) (l : List Int) (arcs : List Arc16) (W : World) (ha : IntsAt W va l) (hb : ArcsAt W vb arcs) (hl : l.length ≤ 1000) (hl2 : arcs.length ≤ 1000) :
    Calls Try.prog 25 #[va, vb] W fun e w' => ∃ v, e = .returned v ∧ OwnI w' W.heap.size v (leftL l arcs) ∧ Below W.heap.size W w' := by
  have GS := Lib.hid (refSet_any va l W ha (by omega))
  have GO := Lib.hid fun w1 (h : Below W.heap.size W w1) => refOrder_any va vb l arcs w1 (IntsAt.below ha h) (RowsAt.kept hb h) hl hl2
  obtain ⟨a0, c0, rfl⟩ := IntsAt.form ha
  obtain ⟨b0, d0, rfl⟩ := RowsAt.form hb
  have hnl := setL_le l
  have hol : (ordL l arcs).length ≤ (setL l).length := (ordL_inv l arcs).1.ti.len
  have hlf : leftL l arcs = (setL l).filter fun n => !inL (ordL l arcs) n := rfl
  obtain ⟨R, hR⟩ : ∃ R, leftL l arcs = R := ⟨_, rfl⟩
  rw [hR] at hlf ⊢
  clear hR
  generalize decide ((ordL l arcs).length = (setL l).length) = t at *
  generalize ordL l arcs = O at *
  generalize setL l = N at *
  have HLF := Lib.hid hlf
  have HNL := Lib.hid (show N.length ≤ 1000 by omega)
  have HOL := Lib.hid (show O.length ≤ 1000 by omega)
  clear ha hb hlf hnl hol
  go_enter Try.func25, Try.ntmps25
  go_wp2_with (first
    | (go_at_call 47; (with_reducible refine GS.out.mono ?_); rintro e w1 ⟨vn, rfl, hn, hbn⟩; obtain ⟨an, cn, e⟩ := RowsAt.form (OwnR.rows csI_len hn); subst e; have HN := Lib.hid (OwnI.ints hn); have HB1 := Lib.hid hbn; clear hn hbn)
    | (go_at_call 48; (with_reducible refine (GO.out _ HB1.out).mono ?_); rintro e w2 ⟨vo, rfl, ho, hbo⟩; obtain ⟨ao, co, e⟩ := RowsAt.form (OwnR.rows csI_len ho); subst e; have HO := Lib.hid (OwnI.ints ho); have HN2 := Lib.hid (IntsAt.below HN.out hbo); have HB2 := Lib.hid (HB1.out.trans (hbo.mono HB1.out.size)); clear ho hbo HN HB1))
  go_loopw [8, 9] (fun tv iv wr => ∃ i : Nat, i ≤ N.length ∧ iv = .int .i64 i ∧ OwnI wr w2.heap.size tv ((N.take i).filter fun n => !inL O n) ∧ Below w2.heap.size w2 wr) (fun _ iv _ => N.length - (intOf iv).toNat)
  case atStart => exact ⟨0, by omega, rfl, OwnR.nil _ _ _ _ _, Below.refl _ _⟩
  case round =>
    obtain ⟨i, hi, rfl, ho, hB⟩ := hrel
    have HO3 := Lib.hid ho
    have HB3 := Lib.hid hB
    by_cases hlt : i < N.length
    · obtain ⟨g, o, cc, e, hlc, hg, p0⟩ := (IntsAt.below HN2.out hB).spot i hlt
      cases e
      have HLT := Lib.hid hlt
      have K0 : (0 : Int) ≤ (i : Int) := by omega
      have K1 : (i : Int) < (N.length : Int) := by omega
      have K2 : (i : Int) ≤ 1000 := by have := HNL.out; omega
      have GI := refIn_any (.slice ao O.length co) O (N[i]'hlt) wr (IntsAt.below HO.out hB) (by have := HOL.out; omega)
      have hnx : (N.take (i + 1)).filter (fun n => !inL O n) = (N.take i).filter (fun n => !inL O n) ++ (if inL O (N[i]'hlt) then [] else [N[i]'hlt]) := by
        rw [List.take_succ_eq_append_getElem hlt, List.filter_append]
        congr 1
        cases h : inL O (N[i]'hlt) <;> simp [h]
      have hfl : ((N.take i).filter fun n => !inL O n).length ≤ 1000 := Nat.le_trans (List.length_filter_le _ _) (by rw [List.length_take]; have := HNL.out; omega)
      generalize N[i]'hlt = x at *
      have HFL := Lib.hid hfl
      clear ho hB hfl
      cases hin : inL O x with
      | true =>
        rw [hin] at GI hnx
        rw [if_pos rfl, List.append_nil] at hnx
        have GI2 := Lib.hid GI
        have HNX := Lib.hid hnx
        clear GI hnx hin
        go_wp2_with (go_at_call 31; (with_reducible refine GI2.out.mono ?_); rintro e w3 ⟨rfl, rfl⟩)
        go_roundw
        case rel => exact ⟨i + 1, by have := HLT.out; omega, by go_num, by rw [HNX.out]; exact HO3.out, HB3.out⟩
        case measure => have := HLT.out; simp [intOf] <;> omega
      | false =>
        rw [hin] at GI hnx
        rw [if_neg (by simp)] at hnx
        have GI2 := Lib.hid GI
        have HNX := Lib.hid hnx
        clear GI hnx hin
        generalize (N.take i).filter (fun n => !inL O n) = T at *
        obtain ⟨aT, cT, e⟩ := RowsAt.form (OwnR.rows csI_len HO3.out)
        subst e
        go_wp2_with (first
          | (go_at_call 31; (with_reducible refine GI2.out.mono ?_); rintro e w3 ⟨rfl, rfl⟩)
          | (at_builtin; refine app1 HO3.out HB3.out.size (by have := HFL.out; omega) rfl _ _ rfl rfl rfl ?_; intro v6 w6 o6 b6; have HO6 := Lib.hid o6; have HB6 := Lib.hid (HB3.out.trans b6); clear o6 b6 p0))
        go_roundw
        case rel => exact ⟨i + 1, by have := HLT.out; omega, by go_num, by rw [HNX.out]; exact HO6.out, HB6.out⟩
        case measure => have := HLT.out; simp [intOf] <;> omega
    · have hke : i = N.length := by omega
      subst hke
      rw [List.take_length, ← HLF.out] at HO3
      clear ho hB hlt
      go_wp2
      go_ret
      exact ⟨_, rfl, HO3.out.base13 HB2.out.size, HB2.out.trans (HB3.out.mono HB2.out.size)⟩
end Go.Proofs.Ytjmgokjljmmmgaa
