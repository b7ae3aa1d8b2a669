/- Texts of this proof, joined: WpD; MapN; MapI; WpE. -/
import Derived.Test.YtjmgokjljmmmgaaBun12
import Derived.Deep.DeepCutAuto
/- Stage 21's program: locksFit. -/
namespace Go.Proofs.Ytjmgokjljmmmgaa
open Go.RowKit Go.Maps

set_option maxHeartbeats 16000000 in
set_option maxRecDepth 100000 in
theorem pLocksFit_any (vx vl : Value) (Xs : List Le) (Ls : List Lr) (W : World) (hx : LeasesAt W vx Xs) (hl : LocksAt W vl Ls) (hle : lesW 0 Xs = true) (hids : rightB (idsL Ls) = true) (hxl : Xs.length ≤ 1000) (hll : Ls.length ≤ 1000) (hxw : ∀ x ∈ Xs, x.want.length ≤ 1000) (hlw : ∀ x ∈ Ls, x.wait.length ≤ 1000) (hx64 : ∀ x ∈ Xs, I64 x.token) (hl64 : ∀ x ∈ Ls, I64 x.holder ∧ ∀ t ∈ x.wait, I64 t) :
    Calls Try.prog 20 #[vl, vx] W fun e w' => e = .returned (.bool (locksW Xs Ls)) ∧ Below W.heap.size W w' := by
  obtain ⟨r, hr⟩ : ∃ r, locksW Xs Ls = r := ⟨_, rfl⟩
  rw [hr]
  have hrr : r = Ls.all fun l => lockB (mkT Ls Xs) l := hr.symm
  have HRR := Lib.hid hrr
  have HX := Lib.hid hx
  have HL := Lib.hid hl
  have HLE := Lib.hid hle
  have HXL := Lib.hid hxl
  have HLL := Lib.hid hll
  have HXW := Lib.hid hxw
  have HLW := Lib.hid hlw
  have HX64 := Lib.hid hx64
  have HL64 := Lib.hid hl64
  have HNT := Lib.hid (ris_nodup (lesW_ris Xs 0 hle).2)
  have HNI := Lib.hid (show (idsL Ls).Nodup from ris_nodup (of_decide_eq_true hids))
  have HHO := Lib.hid fun t id w' hb => pHoldsOf_any Ls hx hle hxw t id w' hb
  have HWF := Lib.hid fun t id w' hb => pWaitsOf_any Ls hx hle hxw t id w' hb
  obtain ⟨T, hT⟩ : ∃ T, mkT Ls Xs = T := ⟨_, rfl⟩
  rw [hT] at HRR
  simp only [hT] at HHO HWF
  obtain ⟨ax, cx, rfl⟩ := RowsAt.form hx.rows
  obtain ⟨al, cl, rfl⟩ := RowsAt.form hl.rows
  have hmk : (Instr.makeMap 61 none).run Try.prog W = .ok (.map (some W.heap.size)) (W.alloc (.map #[] 0)) := by kernel_rfl
  have hm0 := MapX.new W
  have hb0 := (Below.refl W.heap.size W).alloc (Nat.le_refl _) (.map #[] 0)
  clear hr hrr hx hl hle hids hxl hll hxw hlw hx64 hl64 hT
  go_enter Try.func20, Try.ntmps20
  go_wp2
  clear hmk
  generalize W.alloc (.map #[] 0) = w1 at *
  go_loopg [16] Xs.length (fun kx iv ws => ∃ (k m : Nat), k ≤ Xs.length ∧ Xs.length - k ≤ kx ∧ iv = .int .i64 k ∧ Hid (m ≤ k) ∧ Hid (MapX ws W.heap.size m (ofG (Xs.take k))) ∧ Hid (Below W.heap.size W ws))
  case atStart => exact ⟨0, 0, Nat.zero_le _, Nat.le_refl _, rfl, Nat.le_refl _, hm0, hb0⟩
  case round =>
    clear hm0 hb0
    obtain ⟨k, m, hk, hkx, rfl, HM, HMX, HB⟩ := hrel
    by_cases hlt : k < Xs.length
    · have HLT := Lib.hid (And.intro hlt hkx)
      have k0 : (0 : Int) ≤ (k : Int) := by omega
      have k1 : (k : Int) < (Xs.length : Int) := by omega
      have k2 : (k : Int) ≤ 1000 := by have := HXL.out; omega
      obtain ⟨g, o, cc, e, z0, z1, p0, p1, p2, p3, p4, p5, p6⟩ := leaseAt (RowsAt.kept HX.out.rows HB.out) k hlt
      cases e
      clear z0 z1
      have hsn : Xs.take (k + 1) = Xs.take k ++ [Xs[k]] := List.take_succ_eq_append_getElem hlt
      have h64 := HX64.out _ (List.getElem_mem hlt)
      have hno : (Xs[k]'hlt).token ∉ (Xs.take k).map Le.token := by
        have := not_take HNT.out k (by simpa using hlt)
        simpa [List.map_take] using this
      obtain ⟨x, hx⟩ : ∃ x, Xs[k]'hlt = x := ⟨_, rfl⟩
      rw [hx] at p0 p1 p2 p3 p4 p5 p6 hsn h64 hno
      have hnx := ofG_next hno
      rw [← hsn] at hnx
      have hbx := (Below.refl wr.heap.size wr).alloc (Nat.le_refl _) (.cells #[.int .i64 x.token, .int .i64 x.task, .int .i64 x.worker, .int .i64 x.unit, .int .i64 x.due, .int .i64 x.got, .slice x.a x.want.length x.c] 35)
      have hX := Blk.new wr [.int .i64 x.token, .int .i64 x.task, .int .i64 x.worker, .int .i64 x.unit, .int .i64 x.due, .int .i64 x.got, .slice x.a x.want.length x.c] 35
      obtain ⟨w3, hrun, hm3, hg3⟩ := MapX.put (HMX.out.kept hbx) (by have := HM.out; omega) h64 (leh x)
      rw [hnx] at hm3
      obtain ⟨tk, ta, wo, un, du, go, xa, xc, xw⟩ := x
      change (Instr.mapUpdate 61 (.map (some W.heap.size)) (.int .i64 tk) (.agg #[.int .i64 tk, .int .i64 ta, .int .i64 wo, .int .i64 un, .int .i64 du, .int .i64 go, .slice xa xw.length xc])).run Try.prog _ = _ at hrun
      simp only at p0 p1 p2 p3 p4 p5 hX hbx hrun
      change _ = some (Value.slice xa xw.length xc) at p6
      have HM3 := Lib.hid hm3
      have HB3 := Lib.hid ((HB.out.trans (hbx.mono HB.out.size)).grown hg3 (Nat.le_trans HB.out.size hbx.size) (fun k hk => by rw [← Option.some.inj hk]; exact Nat.le_refl _))
      clear hk hkx hlt hsn h64 hno hx hnx hm3 hg3 hbx HMX
      go_upto_region 5 with fail
      generalize wr.alloc (.cells #[.int .i64 tk, .int .i64 ta, .int .i64 wo, .int .i64 un, .int .i64 du, .int .i64 go, .slice xa xw.length xc] 35) = w2 at *
      generalize wr.heap.size = bx at *
      generalize xw.length = xn at *
      have x0 := Blk.cell (vs := [.int .i64 tk, .int .i64 ta, .int .i64 wo, .int .i64 un, .int .i64 du, .int .i64 go, .slice xa xn xc]) hX 0 rfl
      have x1 := Blk.cell (vs := [.int .i64 tk, .int .i64 ta, .int .i64 wo, .int .i64 un, .int .i64 du, .int .i64 go, .slice xa xn xc]) hX 1 rfl
      have x2 := Blk.cell (vs := [.int .i64 tk, .int .i64 ta, .int .i64 wo, .int .i64 un, .int .i64 du, .int .i64 go, .slice xa xn xc]) hX 2 rfl
      have x3 := Blk.cell (vs := [.int .i64 tk, .int .i64 ta, .int .i64 wo, .int .i64 un, .int .i64 du, .int .i64 go, .slice xa xn xc]) hX 3 rfl
      have x4 := Blk.cell (vs := [.int .i64 tk, .int .i64 ta, .int .i64 wo, .int .i64 un, .int .i64 du, .int .i64 go, .slice xa xn xc]) hX 4 rfl
      have x5 := Blk.cell (vs := [.int .i64 tk, .int .i64 ta, .int .i64 wo, .int .i64 un, .int .i64 du, .int .i64 go, .slice xa xn xc]) hX 5 rfl
      have x6 := Blk.cell (vs := [.int .i64 tk, .int .i64 ta, .int .i64 wo, .int .i64 un, .int .i64 du, .int .i64 go, .slice xa xn xc]) hX 6 rfl
      clear hX p0 p1 p2 p3 p4 p5 p6
      go_wp2
      clear hrun x0 x1 x2 x3 x4 x5 x6
      go_roundg (Xs.length - (k + 1))
      case measure => have := HLT.out; omega
      case rel => exact ⟨k + 1, _, by have := HLT.out; omega, Nat.le_refl _, by go_num, (show (if ((ofG (Xs.take k)) tk).isSome = true then m else m + 1) ≤ k + 1 by have := HM.out; split <;> omega), HM3.out, HB3.out⟩
    · have k1 : ¬ (k : Int) < (Xs.length : Int) := by omega
      have hmx := HMX.out
      rw [show Xs.take k = Xs from List.take_of_length_le (by omega)] at hmx
      have HMO := Lib.hid hmx
      have hmk : (Instr.makeMap 62 none).run Try.prog wr = .ok (.map (some wr.heap.size)) (wr.alloc (.map #[] 0)) := by kernel_rfl
      have hal := (Below.refl wr.heap.size wr).alloc (Nat.le_refl _) (.map #[] 0)
      have hb2 := MapB.new wr
      have hne : wr.heap.size ≠ W.heap.size := by have := hmx.lt; omega
      have HMO2 := Lib.hid (hmx.kept hal)
      have HB2 := Lib.hid (HB.out.trans (hal.mono HB.out.size))
      have HBL := Lib.hid HB.out.size
      clear hk hkx hlt hmx HMX hal HMO
      go_wp2
      clear hmk
      generalize wr.alloc (.map #[] 0) = w2 at *
      generalize wr.heap.size = mb at *
      have HNE := Lib.hid hne
      have HS0 := Lib.hid hb2
      clear hne hb2
      go_loopg [28] Ls.length (fun kx iv ws => ∃ (k q : Nat), k ≤ Ls.length ∧ Ls.length - k ≤ kx ∧ iv = .int .i64 k ∧ Hid (q ≤ 1000 * k) ∧ Hid ((Ls.take k).all (fun l => lockB T l) = true) ∧ Hid (MapX ws W.heap.size m (ofG Xs)) ∧ Hid (MapB ws mb q (seenG (waitsOf (Ls.take k)))) ∧ Hid (Below W.heap.size W ws))
      case atStart => exact ⟨0, 0, Nat.zero_le _, Nat.le_refl _, rfl, Nat.le_refl _, rfl, HMO2.out, HS0.out, HB2.out⟩
      case round =>
        clear HMO2 HS0 HB2
        obtain ⟨k, q, hk, hkx, rfl, HQ, HAL, HMO, HMS, HB⟩ := hrel
        by_cases hlt : k < Ls.length
        · have HLT := Lib.hid (And.intro hlt hkx)
          have k0 : (0 : Int) ≤ (k : Int) := by omega
          have k1 : (k : Int) < (Ls.length : Int) := by omega
          have k2 : (k : Int) ≤ 1000 := by have := HLL.out; omega
          have hla := LocksAt.below HL.out HB.out
          obtain ⟨g, o, cc, e, z0, z1, p0, p1, p2⟩ := RowsAt.atL hla.rows k hlt
          cases e
          clear z0 z1
          have hm := List.getElem_mem hlt
          have hl64 := HL64.out _ hm
          have hlw := HLW.out _ hm
          have hxi := HL.out.each _ hm
          have hwn := waitsOf_next Ls k hlt
          have hsb := fun j t => seen_bad (T := T) hlt HNI.out HAL.out (j := j) (t := t)
          have hbad : lockB T (Ls[k]'hlt) = false → false = r := fun h => by
            rw [HRR.out]
            exact (List.all_eq_false.2 ⟨_, hm, by rw [h]; simp⟩).symm
          have hgood : lockB T (Ls[k]'hlt) = true → (Ls.take (k + 1)).all (fun l => lockB T l) = true := fun h => by
            rw [List.take_succ_eq_append_getElem hlt, List.all_append, HAL.out]
            simp [h]
          obtain ⟨⟨id, hh, xa, xc, L⟩, hx⟩ : ∃ x, Ls[k]'hlt = x := ⟨_, rfl⟩
          rw [hx] at p0 p1 p2 hl64 hlw hxi hbad hgood
          simp only [hx] at hsb hwn
          simp only at p0 p1 hl64 hlw hwn
          change _ = some (Value.slice xa L.length xc) at p2
          replace hxi : IntsAt W (.slice xa L.length xc) L := hxi
          obtain ⟨n, hn⟩ : ∃ n, L.length = n := ⟨_, rfl⟩
          rw [hn] at p2 hxi hlw
          have HN := Lib.hid hn
          have HWN := Lib.hid hwn
          have HSB := Lib.hid hsb
          have HBAD := Lib.hid hbad
          have HGOOD := Lib.hid hgood
          have HXI := Lib.hid hxi
          have HLWN := Lib.hid hlw
          have HT64 := Lib.hid hl64.2
          have hbx := (Below.refl wr.heap.size wr).alloc (Nat.le_refl _) (.cells #[.int .i64 id, .int .i64 hh, .slice xa n xc] 37)
          have hX := Blk.new wr [.int .i64 id, .int .i64 hh, .slice xa n xc] 37
          have HMO2 := Lib.hid (HMO.out.kept hbx)
          have HMS2 := Lib.hid (HMS.out.kept hbx)
          have HB2 := Lib.hid (HB.out.trans (hbx.mono HB.out.size))
          have hlk := fun (w' : World) (hb : Below (wr.alloc (.cells #[.int .i64 id, .int .i64 hh, .slice xa n xc] 37)).heap.size (wr.alloc (.cells #[.int .i64 id, .int .i64 hh, .slice xa n xc] 37)) w') => MapX.look1 (HMO2.out.kept hb) hl64.1
          clear hk hkx hlt hla hm hl64 hlw hxi hx hn hwn hsb hbad hgood hbx HMO HMS
          go_upto_region 11 with fail
          generalize wr.alloc (.cells #[.int .i64 id, .int .i64 hh, .slice xa n xc] 37) = w3 at *
          generalize wr.heap.size = bx at *
          replace hX : Blk w3 bx [.int .i64 id, .int .i64 hh, .slice xa n xc] := hX
          have HXB := Lib.hid hX
          have x0 := hX.cell 0 rfl
          have x1 := hX.cell 1 rfl
          clear hX p0 p1 p2
          obtain ⟨b, hb⟩ : ∃ b, holdB T id hh = b := ⟨_, rfl⟩
          have HHB := Lib.hid hb
          have hb3 := Below.refl w3.heap.size w3
          go_cut [44] (fun c wx => c = .bool (!b) ∧ Below w3.heap.size w3 wx)
          case first =>
            by_cases hz : hh = 0
            · have hbt : b = true := by rw [← hb, hz]; rfl
              subst hbt
              subst hz
              go_wp2
              go_meet
              exact ⟨rfl, hb3⟩
            · have hz2 : (hh == 0) = false := beq_noI hz
              have hz3 : (hh != 0) = true := by simp [hz]
              have hb2 : (inL T.toks hh && inL ((T.want hh).take (T.got hh)) id) = b := by
                rw [← hb]
                unfold holdB
                rw [hz2, Bool.false_or]
              have GH := Lib.hid (HHO.out hh id w3 HB2.out)
              rw [hb2] at GH
              have hlk3 := hlk w3 hb3
              obtain ⟨y, hy⟩ : ∃ y, (ofG Xs hh).getD xh0 = y := ⟨_, rfl⟩
              rw [hy] at GH hlk3
              obtain ⟨y1, y2, y3, y4, y5, y6, ⟨ya, yn, yc⟩⟩ := y
              replace GH : Hid (Calls Try.prog 38 #[.agg #[.int .i64 y1, .int .i64 y2, .int .i64 y3, .int .i64 y4, .int .i64 y5, .int .i64 y6, .slice ya yn yc], .int .i64 id] w3 fun e w'' => e = .returned (.bool b) ∧ Below w3.heap.size w3 w'') := GH
              replace hlk3 : (Instr.lookup 61 (.map (some W.heap.size)) (.int .i64 hh) false).run Try.prog w3 = .ok (.agg #[.int .i64 y1, .int .i64 y2, .int .i64 y3, .int .i64 y4, .int .i64 y5, .int .i64 y6, .slice ya yn yc]) w3 := hlk3
              clear hb hb2 hy hlk
              go_wp2_with (go_at_call 38; (with_reducible refine GH.out.mono ?_); rintro e w4 ⟨rfl, b4⟩; have HB4 := Lib.hid b4; clear b4)
              go_meet
              exact ⟨by simp, HB4.out⟩
          case rest =>
            obtain ⟨rfl, hbc⟩ := hcut
            have HXC := Lib.hid (HXB.out.kept hbc)
            have HMO3 := Lib.hid (HMO2.out.kept hbc)
            have HMS3 := Lib.hid (HMS2.out.kept hbc)
            have HB3 := Lib.hid (HB2.out.trans (hbc.mono HB2.out.size))
            have y2 := HXC.out.cell 2 rfl
            clear hb hb3 hbc x0 x1 hlk HMO2 HMS2
            cases b with
            | false =>
              have HF := Lib.hid (HBAD.out (by unfold lockB; simp only; rw [HHB.out, Bool.false_and]))
              clear y2
              go_wp2
              go_ret
              exact ⟨ret_b HF.out, HB3.out⟩
            | true =>
              go_wp2
              clear y2
              go_loopg [48] n (fun jx jv ws => ∃ (j p : Nat), j ≤ n ∧ n - j ≤ jx ∧ jv = .int .i64 j ∧ Hid (p ≤ 1000 * k + j) ∧ Hid (waitB T id [] (L.take j) = true) ∧ Hid (MapX ws W.heap.size m (ofG Xs)) ∧ Hid (MapB ws mb p (seenG (waitsOf (Ls.take k) ++ L.take j))) ∧ Hid (Blk ws bx [.int .i64 id, .int .i64 hh, .slice xa n xc]) ∧ Hid (Below W.heap.size W ws))
              case atStart => exact ⟨0, q, Nat.zero_le _, Nat.le_refl _, rfl, HQ.out, rfl, HMO3.out, (by rw [List.take_zero, List.append_nil]; exact HMS3.out), HXC.out, HB3.out⟩
              case round =>
                clear HMO3 HMS3 HB3 HXC
                obtain ⟨j, p, hj, hjx, rfl, HP, HWB, HMO, HMS, HXC, HB⟩ := hrel
                by_cases hjt : j < n
                · have HJT := Lib.hid (And.intro hjt hjx)
                  have j0 : (0 : Int) ≤ (j : Int) := by omega
                  have j1 : (j : Int) < (n : Int) := by omega
                  have j2 : (j : Int) ≤ 1000 := by have := HLWN.out; omega
                  have hjl : j < L.length := by rw [HN.out]; exact hjt
                  obtain ⟨g2, o2, c2, e2, z0, z1, m0⟩ := (HXI.out.below HB.out).spot j hjl
                  rw [HN.out] at e2
                  cases e2
                  clear z0 z1
                  have x0 := HXC.out.cell 0 rfl
                  have h64 := HT64.out _ (List.getElem_mem hjl)
                  have hsn := List.take_succ_eq_append_getElem hjl
                  have hws : waitB T id [] (L.take (j + 1)) = (inL T.toks (L[j]'hjl) && (!inL (L.take j) (L[j]'hjl) && decide (T.nx (L[j]'hjl) = some id))) := by
                    rw [hsn, waitB_snoc, HWB.out, Bool.true_and]
                    rfl
                  have hwbad : waitB T id [] (L.take (j + 1)) = false → false = r := fun h => HBAD.out (by
                    unfold lockB
                    simp only
                    rw [show waitB T id [] L = false by rw [← List.take_append_drop (j + 1) L]; exact waitB_more _ _ _ h, Bool.and_false])
                  obtain ⟨t, ht⟩ : ∃ t, L[j]'hjl = t := ⟨_, rfl⟩
                  rw [ht] at m0 h64 hsn hws
                  have hlb := MapB.look1 HMS.out h64
                  rw [seenG_at] at hlb
                  have HWS := Lib.hid hws
                  have HWBAD := Lib.hid hwbad
                  have HSN := Lib.hid hsn
                  have H64 := Lib.hid h64
                  by_cases hin : t ∈ waitsOf (Ls.take k) ++ L.take j
                  · rw [decide_eq_true hin] at hlb
                    have HF := Lib.hid (HWBAD.out (by rw [HWS.out]; exact HSB.out j t hin))
                    clear hj hjx hjt hjl h64 hsn hws hwbad ht hin
                    go_wp2
                    go_ret
                    exact ⟨ret_b HF.out, HB.out⟩
                  · rw [decide_eq_false hin] at hlb
                    have hno : inL (L.take j) t = false := decide_eq_false fun h => hin (List.mem_append_right _ h)
                    have GW := Lib.hid (HWF.out t id wr HB.out)
                    obtain ⟨b, hb⟩ : ∃ b, (inL T.toks t && decide (T.nx t = some id)) = b := ⟨_, rfl⟩
                    rw [hb] at GW
                    rw [hno, Bool.not_false, Bool.true_and, hb] at hws
                    have HWB2 := Lib.hid hws
                    have hlx := MapX.look1 HMO.out h64
                    obtain ⟨y, hy⟩ : ∃ y, (ofG Xs t).getD xh0 = y := ⟨_, rfl⟩
                    rw [hy] at GW hlx
                    obtain ⟨y1, y2, y3, y4, y5, y6, ⟨ya, yn, yc⟩⟩ := y
                    replace GW : Hid (Calls Try.prog 39 #[.agg #[.int .i64 y1, .int .i64 y2, .int .i64 y3, .int .i64 y4, .int .i64 y5, .int .i64 y6, .slice ya yn yc], .int .i64 id] wr fun e w'' => e = .returned (.bool b) ∧ Below wr.heap.size wr w'') := GW
                    replace hlx : (Instr.lookup 61 (.map (some W.heap.size)) (.int .i64 t) false).run Try.prog wr = .ok (.agg #[.int .i64 y1, .int .i64 y2, .int .i64 y3, .int .i64 y4, .int .i64 y5, .int .i64 y6, .slice ya yn yc]) wr := hlx
                    clear hj hjx hjt hjl h64 hsn hws hwbad ht hin hno hb hy
                    cases b with
                    | false =>
                      have HF := Lib.hid (HWBAD.out HWB2.out)
                      go_wp2_with (go_at_call 39; (with_reducible refine GW.out.mono ?_); rintro e w4 ⟨rfl, b4⟩; have HB4 := Lib.hid (HB.out.trans (b4.mono HB.out.size)); clear b4)
                      go_ret
                      exact ⟨ret_b HF.out, HB4.out⟩
                    | true =>
                      go_upto_region 18 with (go_at_call 39; (with_reducible refine GW.out.mono ?_); rintro e w4 ⟨rfl, b4⟩; have HB4 := Lib.hid b4; clear b4)
                      obtain ⟨w5, hrun, hm5, hg5⟩ := MapB.put (HMS.out.kept HB4.out) (by have := HP.out; have := HLT.out; have := HLL.out; have := HLWN.out; have := HJT.out; omega) H64.out true
                      rw [seenG_next, List.append_assoc, ← HSN.out] at hm5
                      have HM5 := Lib.hid hm5
                      have HMO5 := Lib.hid (MapG.grown (HMO.out.kept HB4.out) hg5 (fun e => HNE.out (Option.some.inj e).symm))
                      have hxc4 := HXC.out.kept HB4.out
                      have HX5 := Lib.hid (Blk.grown hxc4 hg5 (fun e => MapG.ne_cell (HMS.out.kept HB4.out) (hxc4.cell 0 rfl) (Option.some.inj e).symm))
                      have HB5 := Lib.hid ((HB.out.trans (HB4.out.mono HB.out.size)).grown hg5 (Nat.le_trans HB.out.size HB4.out.size) (fun k hk => by rw [← Option.some.inj hk]; exact HBL.out))
                      clear hm5 hg5 hxc4 m0 x0 hlb hlx
                      go_wp2
                      clear hrun
                      go_roundg (n - (j + 1))
                      case measure => have := HJT.out; omega
                      case rel => exact ⟨j + 1, _, by have := HJT.out; omega, Nat.le_refl _, by go_num, (show (if (seenG (waitsOf (Ls.take k) ++ L.take j) t).isSome = true then p else p + 1) ≤ 1000 * k + (j + 1) by have := HP.out; split <;> omega), HWB2.out, HMO5.out, HM5.out, HX5.out, HB5.out⟩
                · have j1 : ¬ (j : Int) < (n : Int) := by omega
                  have hje : L.take j = L := List.take_of_length_le (by rw [HN.out]; omega)
                  have hwb := HWB.out
                  have hms := HMS.out
                  rw [hje] at hwb hms
                  rw [← HWN.out] at hms
                  have HMS2 := Lib.hid hms
                  have HJN := Lib.hid hj
                  have HG2 := Lib.hid (HGOOD.out (by unfold lockB; simp only; rw [HHB.out, hwb]; rfl))
                  clear hj hjx hjt hje hwb hms HMS HWB
                  go_wp2
                  go_roundg (Ls.length - (k + 1))
                  case measure => have := HLT.out; omega
                  case rel => exact ⟨k + 1, p, by have := HLT.out; omega, Nat.le_refl _, by go_num, (show p ≤ 1000 * (k + 1) by have := HP.out; have := HLWN.out; have := HJN.out; omega), HG2.out, HMO.out, HMS2.out, HB.out⟩
        · have k1 : ¬ (k : Int) < (Ls.length : Int) := by omega
          have HF := Lib.hid (show true = r by
            rw [HRR.out, ← HAL.out, List.take_of_length_le (by omega)])
          clear hk hkx hlt
          go_wp2
          go_ret
          exact ⟨ret_b HF.out, HB.out⟩
end Go.Proofs.Ytjmgokjljmmmgaa
/- Maps from ints to places (map[int]int): XMapG's laws in plain numbers. -/
namespace Go.Proofs.Ytjmgokjljmmmgaa
open Go.RowKit

noncomputable def EI : Elt Try.prog 3 := eltI Try.prog 3 Try.underlying3 fun w => by kernel_rfl
/-- places as ints -/
def gi (g : Int → Option Nat) : Int → Option Int := fun k => (g k).map fun n => (n : Int)
def upd (g : Int → Option Nat) (id : Int) (v : Option Nat) : Int → Option Nat := fun k => if k = id then v else g k
theorem gi_upd (g : Int → Option Nat) (id : Int) (j : Nat) : gi (upd g id (some j)) = updG (gi g) id (some (j : Int)) := by
  funext k
  unfold gi upd updG
  split <;> rfl
theorem gi_del (g : Int → Option Nat) (id : Int) : gi (upd g id none) = updG (gi g) id none := by
  funext k
  unfold gi upd updG
  split <;> rfl
/-- block b is a map of m entries: at each id the place that g tells -/
def MapN (w : World) (b m : Nat) (g : Int → Option Nat) : Prop := MapG EI 3 w b m (gi g)
theorem nat64 {n : Nat} (h : n ≤ 1000000) : I64 (n : Int) := by unfold I64; omega
section
variable {w w' : World} {b m : Nat} {g : Int → Option Nat}
theorem MapN.lt (h : MapN w b m g) : b < w.heap.size := MapG.lt h
theorem MapN.same (h : MapN w b m g) (he : w'.heap[b]? = w.heap[b]?) : MapN w' b m g := MapG.same h he
theorem MapN.kept (h : MapN w b m g) (hb : Below w.heap.size w w') : MapN w' b m g := MapG.kept h hb
theorem MapN.away (h : MapN w b m g) (a : Addr) (u : Value) (hne : b ≠ a.block) : MapN (w.setCell a u) b m g := MapG.away h a u hne
theorem MapN.grown {row : Option Nat} (h : MapN w b m g) (hg : w.grownBy w' row) (hne : some b ≠ row) : MapN w' b m g := MapG.grown h hg hne
theorem MapN.drew (h : MapN w b m g) : MapN w.drew b m g := MapG.same h rfl
theorem MapN.new (w : World) : MapN (w.alloc (.map #[] 0)) w.heap.size 0 (fun _ => none) := MapG.new w
theorem MapN.ne_cell {a : Addr} {u : Value} (h : MapN w b m g) (hk : w.cell? a = some u) : b ≠ a.block := MapG.ne_cell h hk
variable {ops : Array Oper} {rest : List Oper} {o : Oper} {a : Act} {Q : Exit → Act → World → Prop}
theorem gi_isSome (id : Int) : Option.isSome (α := EI.α) (gi g id) = (g id).isSome := by
  unfold gi
  cases g id <;> rfl
theorem gi_getD (id : Int) : EI.val (Option.getD (α := EI.α) (gi g id) EI.z) = .int .i64 (((g id).getD 0 : Nat) : Int) := by
  unfold gi
  cases g id <;> rfl
theorem wpList_lookN (hg : o.guard = none) (mo x : Operand) (hop : o.op = Op.lookup 52 mo x true)
    (hm : a.eval mo = .map (some b)) (h : MapN w b m g) (id : Int) (hi : I64 id) (hx : a.eval x = .int .i64 id)
    (hK : wpList Try.prog ops Q rest (a.put o.dst (.tuple #[.int .i64 (((g id).getD 0 : Nat) : Int), .bool (g id).isSome])) w) : wpList Try.prog ops Q (o :: rest) a w := by
  refine wpList_lookG2 (E := EI) hg mo x 52 hop Try.underlying3 Try.underlying52 hm h id hi hx ?_
  rw [gi_isSome, gi_getD]
  exact hK
theorem wpList_putN (hg : o.guard = none) (hd : o.dst = none) (mo x vo : Operand) (hop : o.op = Op.mapUpdate 52 mo x vo)
    (hm : a.eval mo = .map (some b)) (h : MapN w b m g) (hn : m ≤ 1000000) (id : Int) (hi : I64 id) (hx : a.eval x = .int .i64 id) (j : Nat) (hj : j ≤ 1000000) (hv : a.eval vo = .int .i64 (j : Int))
    (hK : ∀ w', MapN w' b (if (g id).isSome then m else m + 1) (upd g id (some j)) → w.grownBy w' (some b) → wpList Try.prog ops Q rest a w') : wpList Try.prog ops Q (o :: rest) a w := by
  refine wpList_putG (E := EI) hg mo x vo 52 hop Try.underlying3 Try.underlying52 hm h (by unfold maxLen; omega) id hi hx (show EI.α from (j : Int)) (nat64 hj) hv fun w' h1 h2 => by
    rw [hd]
    refine hK w' ?_ h2
    rw [gi_isSome] at h1
    unfold MapN
    rw [gi_upd]
    exact h1
theorem wpList_delN (hg : o.guard = none) (hd : o.dst = none) (mo x : Operand) (hop : o.op = Op.call { callee := Callee.builtin Builtin.delete, args := #[mo, x], argTypes := #[52, 3] })
    (hm : a.eval mo = .map (some b)) (h : MapN w b m g) (id : Int) (hi : I64 id) (hx : a.eval x = .int .i64 id)
    (hK : ∀ w', MapN w' b (if (g id).isSome then m - 1 else m) (upd g id none) → w.grownBy w' (some b) → wpList Try.prog ops Q rest a w') : wpList Try.prog ops Q (o :: rest) a w := by
  refine wpList_delG (E := EI) hg mo x 52 hop Try.underlying3 Try.underlying52 hm h id hi hx fun w' h1 h2 => by
    rw [hd]
    refine hK w' ?_ h2
    rw [gi_isSome] at h1
    unfold MapN
    rw [gi_del]
    exact h1
theorem wpList_lenN (hg : o.guard = none) (mo : Operand) (hop : o.op = Op.call { callee := Callee.builtin Builtin.len, args := #[mo], argTypes := #[52] })
    (hm : a.eval mo = .map (some b)) (h : MapN w b m g) (hK : wpList Try.prog ops Q rest (a.put o.dst (.int .i64 m)) w) : wpList Try.prog ops Q (o :: rest) a w :=
  wpList_lenG (E := EI) hg mo 52 hop Try.underlying52 hm h hK
theorem MapN.look (h : MapN w b m g) {id : Int} (hi : I64 id) : (Instr.lookup 52 (.map (some b)) (.int .i64 id) true).run Try.prog w = .ok (.tuple #[.int .i64 (((g id).getD 0 : Nat) : Int), .bool (g id).isSome]) w := by
  have := MapG.look h Try.underlying3 Try.underlying52 hi
  rwa [gi_isSome, gi_getD] at this
theorem MapN.look1 (h : MapN w b m g) {id : Int} (hi : I64 id) : (Instr.lookup 52 (.map (some b)) (.int .i64 id) false).run Try.prog w = .ok (.int .i64 (((g id).getD 0 : Nat) : Int)) w := by
  have := MapG.look1 h Try.underlying3 Try.underlying52 hi
  rwa [gi_getD] at this
end
end Go.Proofs.Ytjmgokjljmmmgaa
/- Maps from ints to ints, to bools, to lists of numbers (their headers alone): XMapG's laws in plain words. FOR ALL LATER STAGES. -/
namespace Go.Proofs.Ytjmgokjljmmmgaa
open Go.RowKit Go.Maps

/-- what a store does, as an equation of its run -/
theorem MapG.store {P : Program} {kt e : TypeId} {E : Elt P e} {w : World} {b m : Nat} {g : Int → Option E.α} (h : MapG E kt w b m g) (hk : P.underlying kt = some (.int .i64)) {t : TypeId} (ht : P.underlying t = some (.map kt e)) (hn : m < maxLen) {id : Int} (hi : I64 id) (y : E.α) (hy : E.ok y) :
    ∃ w', (Instr.mapUpdate t (.map (some b)) (.int .i64 id) (E.val y)).run P w = .ok () w' ∧ MapG E kt w' b (if (g id).isSome then m else m + 1) (updG g id (some y)) ∧ w.grownBy w' (some b) := by
  obtain ⟨D, h1, h2, h3⟩ := h
  obtain ⟨w', hrun, h4, h5⟩ := h1.store (int_keyed hk) ht hn (keyOf_int_mk hk hi.wf) (E.out y hy)
  have htidy := h1.tidy (int_keyed hk)
  have hsz := Maps.size_put (k := Lit.int .i64 id) htidy (E.enc y)
  have hh : Maps.has D (.int .i64 id) = (g id).isSome := by
    have := h3 id hi
    cases hgi : g id with
    | none => rw [hgi] at this; exact this
    | some y => rw [hgi] at this; exact this.1
  rw [hh, h2] at hsz
  refine ⟨w', hrun, ⟨D.put (.int .i64 id) (E.enc y), ?_, hsz, fun k hkk => ?_⟩, h5.grown⟩
  · obtain ⟨es, clock, r1, r2, r3, r4⟩ := h4
    refine ⟨es, clock, r1, r2, ?_, r4⟩
    rw [← hsz, r4]
    simp [Maps.size, length_sorted]
  · by_cases ek : k = id
    · subst ek
      rw [updG_same]
      exact ⟨Maps.has_put_same (k := Lit.int .i64 k) htidy.isMap trivial _, fun z => Maps.atKey_put_same (k := Lit.int .i64 k) htidy.isMap trivial _ z⟩
    · rw [updG_other _ _ ek]
      have := h3 k hkk
      cases hgk : g k with
      | none =>
        rw [hgk] at this
        show Maps.has _ _ = false
        rw [Maps.has_put_other (kl_ne ek)]
        exact this
      | some y2 =>
        rw [hgk] at this
        refine ⟨?_, fun z => ?_⟩
        · rw [Maps.has_put_other (kl_ne ek)]; exact this.1
        · rw [Maps.atKey_put_other (kl_ne ek)]; exact this.2 z

/-! ### Ints -/
def MapI (w : World) (b m : Nat) (g : Int → Option Int) : Prop := MapG EI 3 w b m g
section
variable {w w' : World} {b m : Nat} {g : Int → Option Int}
theorem MapI.lt (h : MapI w b m g) : b < w.heap.size := MapG.lt h
theorem MapI.same (h : MapI w b m g) (he : w'.heap[b]? = w.heap[b]?) : MapI w' b m g := MapG.same h he
theorem MapI.kept (h : MapI w b m g) (hb : Below w.heap.size w w') : MapI w' b m g := MapG.kept h hb
theorem MapI.new (w : World) : MapI (w.alloc (.map #[] 0)) w.heap.size 0 (fun _ => none) := MapG.new w
theorem MapI.ne_cell {a : Addr} {u : Value} (h : MapI w b m g) (hk : w.cell? a = some u) : b ≠ a.block := MapG.ne_cell h hk
theorem MapI.look (h : MapI w b m g) {id : Int} (hi : I64 id) : (Instr.lookup 52 (.map (some b)) (.int .i64 id) true).run Try.prog w = .ok (.tuple #[.int .i64 ((g id).getD 0), .bool (g id).isSome]) w :=
  MapG.look (E := EI) h Try.underlying3 Try.underlying52 hi
theorem MapI.look1 (h : MapI w b m g) {id : Int} (hi : I64 id) : (Instr.lookup 52 (.map (some b)) (.int .i64 id) false).run Try.prog w = .ok (.int .i64 ((g id).getD 0)) w :=
  MapG.look1 (E := EI) h Try.underlying3 Try.underlying52 hi
theorem MapI.put (h : MapI w b m g) (hn : m ≤ 1000000) {id : Int} (hi : I64 id) (y : Int) (hy : I64 y) :
    ∃ w', (Instr.mapUpdate 52 (.map (some b)) (.int .i64 id) (.int .i64 y)).run Try.prog w = .ok () w' ∧ MapI w' b (if (g id).isSome then m else m + 1) (updG g id (some y)) ∧ w.grownBy w' (some b) :=
  MapG.store (E := EI) h Try.underlying3 Try.underlying52 (by unfold maxLen; omega) hi y hy
variable {ops : Array Oper} {rest : List Oper} {o : Oper} {a : Act} {Q : Exit → Act → World → Prop}
theorem wpList_putI (hg : o.guard = none) (hd : o.dst = none) (mo x vo : Operand) (hop : o.op = Op.mapUpdate 52 mo x vo)
    (hm : a.eval mo = .map (some b)) (h : MapI w b m g) (hn : m ≤ 1000000) (id : Int) (hi : I64 id) (hx : a.eval x = .int .i64 id) (y : Int) (hy : I64 y) (hv : a.eval vo = .int .i64 y)
    (hK : ∀ w', MapI w' b (if (g id).isSome then m else m + 1) (updG g id (some y)) → w.grownBy w' (some b) → wpList Try.prog ops Q rest a w') : wpList Try.prog ops Q (o :: rest) a w := by
  refine wpList_putG (E := EI) hg mo x vo 52 hop Try.underlying3 Try.underlying52 hm h (by unfold maxLen; omega) id hi hx (show EI.α from y) hy hv fun w' h1 h2 => by
    rw [hd]
    exact hK w' h1 h2
end

/-! ### Bools -/
section
variable {w w' : World} {b m : Nat} {g : Int → Option Bool}
variable {ops : Array Oper} {rest : List Oper} {o : Oper} {a : Act} {Q : Exit → Act → World → Prop}
theorem wpList_putB (hg : o.guard = none) (hd : o.dst = none) (mo x vo : Operand) (hop : o.op = Op.mapUpdate 62 mo x vo)
    (hm : a.eval mo = .map (some b)) (h : MapB w b m g) (hn : m ≤ 1000000) (id : Int) (hi : I64 id) (hx : a.eval x = .int .i64 id) (y : Bool) (hv : a.eval vo = .bool y)
    (hK : ∀ w', MapB w' b (if (g id).isSome then m else m + 1) (updG g id (some y)) → w.grownBy w' (some b) → wpList Try.prog ops Q rest a w') : wpList Try.prog ops Q (o :: rest) a w := by
  refine wpList_putG (E := EB) hg mo x vo 62 hop Try.underlying3 Try.underlying62 hm h (by unfold maxLen; omega) id hi hx (show EB.α from y) trivial hv fun w' h1 h2 => by
    rw [hd]
    exact hK w' h1 h2
end

/-! ### Lists of numbers -/
/-- a list's header -/
structure Hd where
  g : Option Nat
  n : Nat
  c : Nat
def hdv (x : Hd) : Value := .slice (x.g.map fun b => ⟨b, 0, none⟩) x.n x.c
def hd0 : Hd := ⟨none, 0, 0⟩
def encH (x : Hd) : DataW Unit := .agg [.lit (.int .i64 (match x.g with | none => -1 | some b => (b : Int))), .lit (.int .i64 (x.n : Int)), .lit (.int .i64 (x.c : Int))]
def readH : Value → Option (DataW Unit × List MemPlace)
  | .slice none n c => some (encH ⟨none, n, c⟩, [])
  | .slice (some ⟨b, 0, none⟩) n c => some (encH ⟨some b, n, c⟩, [])
  | _ => none
theorem encH_inj {x y : Hd} (h : encH x = encH y) : x = y := by
  obtain ⟨a, n, c⟩ := x
  obtain ⟨a', n', c'⟩ := y
  simp only [encH, DataW.agg.injEq, List.cons.injEq, DataW.lit.injEq, Lit.int.injEq, true_and, and_true] at h
  obtain ⟨h1, h2, h3⟩ := h
  have e2 : n = n' := by omega
  have e3 : c = c' := by omega
  subst e2 e3
  cases a <;> cases a' <;> simp only at h1
  · rfl
  · omega
  · omega
  · have : (_ : Nat) = _ := Int.ofNat.inj h1
    rw [this]
theorem readH_inv (v : Value) (x : Hd) (ps : List MemPlace) (h : readH v = some (encH x, ps)) : v = hdv x := by
  unfold readH at h
  split at h
  · simp only [Option.some.injEq, Prod.mk.injEq] at h
    rw [← encH_inj h.1]
    rfl
  · simp only [Option.some.injEq, Prod.mk.injEq] at h
    rw [← encH_inj h.1]
    rfl
  · cases h
noncomputable def EH : Elt Try.prog 30 where
  α := Hd
  val := hdv
  enc := encH
  ok := fun _ => True
  z := hd0
  R := readH
  out := fun x _ => by
    obtain ⟨a, n, c⟩ := x
    cases a <;> rfl
  inv := readH_inv
  okz := trivial
  hz := fun w => by kernel_rfl
def MapH (w : World) (b m : Nat) (g : Int → Option Hd) : Prop := MapG EH 3 w b m g
/-- the list at a key -/
def hat (g : Int → Option Hd) (n : Int) : Value := hdv ((g n).getD hd0)
section
variable {w w' : World} {b m : Nat} {g : Int → Option Hd}
theorem MapH.lt (h : MapH w b m g) : b < w.heap.size := MapG.lt h
theorem MapH.same (h : MapH w b m g) (he : w'.heap[b]? = w.heap[b]?) : MapH w' b m g := MapG.same h he
theorem MapH.kept (h : MapH w b m g) (hb : Below w.heap.size w w') : MapH w' b m g := MapG.kept h hb
theorem MapH.new (w : World) : MapH (w.alloc (.map #[] 0)) w.heap.size 0 (fun _ => none) := MapG.new w
theorem MapH.ne_cell {a : Addr} {u : Value} (h : MapH w b m g) (hk : w.cell? a = some u) : b ≠ a.block := MapG.ne_cell h hk
theorem MapH.look1 (h : MapH w b m g) {id : Int} (hi : I64 id) : (Instr.lookup 67 (.map (some b)) (.int .i64 id) false).run Try.prog w = .ok (hat g id) w :=
  MapG.look1 (E := EH) h Try.underlying3 Try.underlying67 hi
variable {ops : Array Oper} {rest : List Oper} {o : Oper} {a : Act} {Q : Exit → Act → World → Prop}
theorem wpList_putH (hg : o.guard = none) (hd : o.dst = none) (mo x vo : Operand) (hop : o.op = Op.mapUpdate 67 mo x vo)
    (hm : a.eval mo = .map (some b)) (h : MapH w b m g) (hn : m ≤ 1000000) (id : Int) (hi : I64 id) (hx : a.eval x = .int .i64 id) (y : Hd) (hv : a.eval vo = hdv y)
    (hK : ∀ w', MapH w' b (if (g id).isSome then m else m + 1) (updG g id (some y)) → w.grownBy w' (some b) → wpList Try.prog ops Q rest a w') : wpList Try.prog ops Q (o :: rest) a w := by
  refine wpList_putG (E := EH) hg mo x vo 67 hop Try.underlying3 Try.underlying67 hm h (by unfold maxLen; omega) id hi hx (show EH.α from y) trivial hv fun w' h1 h2 => by
    rw [hd]
    exact hK w' h1 h2
end
theorem MapH.put {w : World} {b m : Nat} {g : Int → Option Hd} (h : MapH w b m g) (hn : m ≤ 1000000) {id : Int} (hi : I64 id) (y : Hd) :
    ∃ w', (Instr.mapUpdate 67 (.map (some b)) (.int .i64 id) (hdv y)).run Try.prog w = .ok () w' ∧ MapH w' b (if (g id).isSome then m else m + 1) (updG g id (some y)) ∧ w.grownBy w' (some b) :=
  MapG.store (E := EH) h Try.underlying3 Try.underlying67 (by unfold maxLen; omega) hi y trivial
theorem OwnI.hd {w : World} {B : Nat} {v : Value} {l : List Int} (h : OwnI w B v l) : ∃ x : Hd, v = hdv x ∧ x.n = l.length := by
  rcases h.2 with ⟨rfl, h0⟩ | ⟨g, cap, cur, rfl, _⟩
  · exact ⟨hd0, rfl, h0.symm⟩
  · exact ⟨⟨some g, l.length, cap⟩, rfl, rfl⟩
end Go.Proofs.Ytjmgokjljmmmgaa
/- Stage 21's program: leasesFit. -/
namespace Go.Proofs.Ytjmgokjljmmmgaa
open Go.RowKit Go.Maps

def hG (Ls : List Lr) : Int → Option Int := fun id => (Ls.find? fun x => x.id == id).map Lr.holder
theorem findK_snoc {Ls : List Lr} {x : Lr} {t : Int} (h : x.id ≠ t) : (Ls ++ [x]).find? (fun y => y.id == t) = Ls.find? (fun y => y.id == t) := by
  rw [List.find?_append, List.find?_cons_of_neg (by simpa using h)]
  simp
theorem findK_last {Ls : List Lr} {x : Lr} (h : x.id ∉ idsL Ls) : (Ls ++ [x]).find? (fun y => y.id == x.id) = some x := by
  rw [List.find?_append, List.find?_eq_none.2 fun y hy => by
    simp only [beq_iff_eq]
    exact fun e => h (e ▸ List.mem_map_of_mem hy)]
  simp
theorem hG_next {Ls : List Lr} {x : Lr} (h : x.id ∉ idsL Ls) : updG (hG Ls) x.id (some x.holder) = hG (Ls ++ [x]) := by
  funext t
  unfold hG
  by_cases e : t = x.id
  · subst e
    rw [updG_same, findK_last h]
    rfl
  · rw [updG_other _ _ e, findK_snoc (fun h => e h.symm)]
theorem hG_hd (Ls : List Lr) (id : Int) : (hG Ls id).getD 0 = hdL Ls id := rfl
/-- who waits at all waits where it must, if the locks fit -/
theorem seen_iff {Xs : List Le} {Ls : List Lr} (hni : (idsL Ls).Nodup) (hnt : (Xs.map Le.token).Nodup) (hlo : locksW Xs Ls = true) {x : Le} (hx : x ∈ Xs) {j : Nat} (hj : x.got = (j : Int)) (hjl : j < x.want.length) : decide (x.token ∈ waitsOf Ls) = inL (wtL Ls x.want[j]) x.token := by
  rw [Bool.eq_iff_iff, decide_eq_true_eq, inL_iff20, mem_waitsOf]
  obtain ⟨h1, h2⟩ := mk_seat (Ls := Ls) hnt hx
  have hnx : (mkT Ls Xs).nx x.token = some x.want[j] := by
    rw [nx_mk h1 h2, hj, Int.toNat_natCast, List.getElem?_eq_getElem hjl]
  constructor
  · rintro ⟨l, hl, htl⟩
    have h3 := (lockB_wait (List.all_eq_true.1 hlo l hl) _ htl).2
    rw [hnx] at h3
    rw [Option.some.inj h3]
    have h4 : lkF Ls l.id = some l := find_id hni hl
    rw [(hdL_of h4).2]
    exact htl
  · intro h
    cases hf : lkF Ls x.want[j] with
    | none =>
      rw [(hdL_no hf).2] at h
      cases h
    | some k =>
      rw [(hdL_of hf).2] at h
      exact ⟨k, List.mem_of_find?_eq_some hf, h⟩
set_option maxHeartbeats 16000000 in
set_option maxRecDepth 100000 in
theorem pLeasesFit_any (vx vl : Value) (Xs : List Le) (Ls : List Lr) (W : World) (hx : LeasesAt W vx Xs) (hl : LocksAt W vl Ls) (hle : lesW 0 Xs = true) (hids : rightB (idsL Ls) = true) (hlo : locksW Xs Ls = true) (hxl : Xs.length ≤ 1000) (hll : Ls.length ≤ 1000) (hxw : ∀ x ∈ Xs, x.want.length ≤ 1000) (hlw : ∀ x ∈ Ls, x.wait.length ≤ 1000) (hx64 : ∀ x ∈ Xs, I64 x.token ∧ ∀ t ∈ x.want, I64 t) (hl64 : ∀ x ∈ Ls, I64 x.id ∧ I64 x.holder ∧ ∀ t ∈ x.wait, I64 t) :
    Calls Try.prog 21 #[vx, vl] W fun e w' => e = .returned (.bool (seatsW Xs Ls)) ∧ Below W.heap.size W w' := by
  obtain ⟨r, hr⟩ : ∃ r, seatsW Xs Ls = r := ⟨_, rfl⟩
  rw [hr]
  have HNT := Lib.hid (ris_nodup (lesW_ris Xs 0 hle).2)
  have HNI := Lib.hid (show (idsL Ls).Nodup from ris_nodup (of_decide_eq_true hids))
  have HRR := Lib.hid (show r = Xs.all fun x => seatV Ls x.token x.got.toNat x.want by
    rw [← hr]
    unfold seatsW
    rw [Bool.eq_iff_iff, List.all_eq_true, List.all_eq_true]
    constructor
    · intro h x hxm
      rw [← seatB_mk2 HNT.out hxm]
      exact h _ (List.mem_map_of_mem hxm)
    · intro h t ht
      obtain ⟨x, hxm, rfl⟩ := List.mem_map.1 ht
      rw [seatB_mk2 HNT.out hxm]
      exact h x hxm)
  have HX := Lib.hid hx
  have HL := Lib.hid hl
  have HLO := Lib.hid hlo
  have HEA := Lib.hid (lesW_each Xs 0 hle)
  have HXL := Lib.hid hxl
  have HLL := Lib.hid hll
  have HXW := Lib.hid hxw
  have HLW := Lib.hid hlw
  have HX64 := Lib.hid hx64
  have HL64 := Lib.hid hl64
  obtain ⟨ax, cx, rfl⟩ := RowsAt.form hx.rows
  obtain ⟨al, cl, rfl⟩ := RowsAt.form hl.rows
  have hmk : (Instr.makeMap 52 none).run Try.prog W = .ok (.map (some W.heap.size)) (W.alloc (.map #[] 0)) := by kernel_rfl
  have hmk2 : (Instr.makeMap 62 none).run Try.prog (W.alloc (.map #[] 0)) = .ok (.map (some (W.alloc (.map #[] 0)).heap.size)) ((W.alloc (.map #[] 0)).alloc (.map #[] 0)) := by kernel_rfl
  have hz : (W.alloc (.map #[] 0)).heap.size = W.heap.size + 1 := by simp
  have hal1 := (Below.refl W.heap.size W).alloc (Nat.le_refl _) (.map #[] 0)
  have hal2 := (Below.refl (W.alloc (.map #[] 0)).heap.size (W.alloc (.map #[] 0))).alloc (Nat.le_refl _) (.map #[] 0)
  have hmi := (MapI.new W).kept hal2
  have hmb := MapB.new (W.alloc (.map #[] 0))
  have hb0 := hal1.trans (hal2.mono hal1.size)
  rw [hz] at hmb hmk2
  clear hr hx hl hle hids hlo hxl hll hxw hlw hx64 hl64 hal1 hal2 hz
  go_enter Try.func21, Try.ntmps21
  go_wp2
  clear hmk hmk2
  generalize (W.alloc (.map #[] 0)).alloc (.map #[] 0) = w1 at *
  have HI0 := Lib.hid hmi
  have HS0 := Lib.hid hmb
  have HB0 := Lib.hid hb0
  clear hmi hmb hb0
  go_loopg [19] Ls.length (fun kx iv ws => ∃ (k m q : Nat), k ≤ Ls.length ∧ Ls.length - k ≤ kx ∧ iv = .int .i64 k ∧ Hid (m ≤ k) ∧ Hid (q ≤ 1000 * k) ∧ Hid (MapI ws W.heap.size m (hG (Ls.take k))) ∧ Hid (MapB ws (W.heap.size + 1) q (seenG (waitsOf (Ls.take k)))) ∧ Hid (Below W.heap.size W ws))
  case atStart => exact ⟨0, 0, 0, Nat.zero_le _, Nat.le_refl _, rfl, Nat.le_refl _, Nat.le_refl _, HI0.out, HS0.out, HB0.out⟩
  case round =>
    clear HI0 HS0 HB0
    obtain ⟨k, m, q, hk, hkx, rfl, HM, HQ, HMI, HMS, HB⟩ := hrel
    by_cases hlt : k < Ls.length
    · have HLT := Lib.hid (And.intro hlt hkx)
      have k0 : (0 : Int) ≤ (k : Int) := by omega
      have k1 : (k : Int) < (Ls.length : Int) := by omega
      have k2 : (k : Int) ≤ 1000 := by have := HLL.out; omega
      have hla := LocksAt.below HL.out HB.out
      obtain ⟨g, o, cc, e, z0, z1, p0, p1, p2⟩ := RowsAt.atL hla.rows k hlt
      cases e
      clear z0 z1
      have hm := List.getElem_mem hlt
      have hl64 := HL64.out _ hm
      have hlw := HLW.out _ hm
      have hxi := HL.out.each _ hm
      have hwn := waitsOf_next Ls k hlt
      have hsn : Ls.take (k + 1) = Ls.take k ++ [Ls[k]] := List.take_succ_eq_append_getElem hlt
      have hno : (Ls[k]'hlt).id ∉ idsL (Ls.take k) := by
        have := not_take HNI.out k (by simpa [idsL] using hlt)
        simpa [idsL, List.map_take] using this
      obtain ⟨⟨id, hh, xa, xc, L⟩, hx⟩ : ∃ x, Ls[k]'hlt = x := ⟨_, rfl⟩
      rw [hx] at p0 p1 p2 hl64 hlw hxi hsn hno hwn
      simp only at p0 p1 hl64 hlw hwn
      have hnx := hG_next hno
      rw [← hsn] at hnx
      simp only at hnx
      change _ = some (Value.slice xa L.length xc) at p2
      replace hxi : IntsAt W (.slice xa L.length xc) L := hxi
      obtain ⟨n, hn⟩ : ∃ n, L.length = n := ⟨_, rfl⟩
      rw [hn] at p2 hxi hlw
      have HN := Lib.hid hn
      have HWN := Lib.hid hwn
      have HXI := Lib.hid hxi
      have HLWN := Lib.hid hlw
      have HT64 := Lib.hid hl64.2.2
      have hbx := (Below.refl wr.heap.size wr).alloc (Nat.le_refl _) (.cells #[.int .i64 id, .int .i64 hh, .slice xa n xc] 37)
      have hX := Blk.new wr [.int .i64 id, .int .i64 hh, .slice xa n xc] 37
      obtain ⟨w4, hrun, hm4, hg4⟩ := MapI.put (HMI.out.kept hbx) (by have := HM.out; omega) hl64.1 hh hl64.2.1
      rw [hnx] at hm4
      have HM4 := Lib.hid hm4
      have HMS4 := Lib.hid (MapG.grown (HMS.out.kept hbx) hg4 (fun e => by have := Option.some.inj e; omega))
      have hx4 := Blk.grown (v := .int .i64 id) (vs := [.int .i64 hh, .slice xa n xc]) hX hg4 (fun e => by have := Option.some.inj e; have := HMI.out.lt; omega)
      have HB4 := Lib.hid ((HB.out.trans (hbx.mono HB.out.size)).grown hg4 (Nat.le_trans HB.out.size hbx.size) (fun k hk => by rw [← Option.some.inj hk]; exact Nat.le_refl _))
      have HMK := Lib.hid (show (if (hG (Ls.take k) id).isSome = true then m else m + 1) ≤ k + 1 by have := HM.out; split <;> omega)
      generalize (if (hG (Ls.take k) id).isSome = true then m else m + 1) = m4 at *
      clear hk hkx hlt hla hm hl64 hlw hxi hx hn hwn hsn hno hnx hbx hm4 hg4 HMI HMS
      go_upto_region 6 with fail
      generalize wr.alloc (.cells #[.int .i64 id, .int .i64 hh, .slice xa n xc] 37) = w3 at *
      generalize wr.heap.size = bx at *
      have x0 := Blk.cell (vs := [.int .i64 id, .int .i64 hh, .slice xa n xc]) hX 0 rfl
      have x1 := Blk.cell (vs := [.int .i64 id, .int .i64 hh, .slice xa n xc]) hX 1 rfl
      have y2 := Blk.cell (vs := [.int .i64 id, .int .i64 hh, .slice xa n xc]) hx4 2 rfl
      clear hX p0 p1 p2
      go_wp2
      clear hrun x0 x1 y2 hx4
      go_loopg [31] n (fun jx jv ws => ∃ (j p : Nat), j ≤ n ∧ n - j ≤ jx ∧ jv = .int .i64 j ∧ Hid (p ≤ 1000 * k + j) ∧ Hid (MapI ws W.heap.size m4 (hG (Ls.take (k + 1)))) ∧ Hid (MapB ws (W.heap.size + 1) p (seenG (waitsOf (Ls.take k) ++ L.take j))) ∧ Hid (Below W.heap.size W ws))
      case atStart => exact ⟨0, q, Nat.zero_le _, Nat.le_refl _, rfl, HQ.out, HM4.out, (by rw [List.take_zero, List.append_nil]; exact HMS4.out), HB4.out⟩
      case round =>
        clear HM4 HMS4 HB4
        obtain ⟨j, p, hj, hjx, rfl, HP, HMI, HMS, HB⟩ := hrel
        by_cases hjt : j < n
        · have HJT := Lib.hid (And.intro hjt hjx)
          have j0 : (0 : Int) ≤ (j : Int) := by omega
          have j1 : (j : Int) < (n : Int) := by omega
          have j2 : (j : Int) ≤ 1000 := by have := HLWN.out; omega
          have hjl : j < L.length := by rw [HN.out]; exact hjt
          obtain ⟨g2, o2, c2, e2, z0, z1, m0⟩ := (HXI.out.below HB.out).spot j hjl
          rw [HN.out] at e2
          cases e2
          clear z0 z1
          have h64 := HT64.out _ (List.getElem_mem hjl)
          have hsn := List.take_succ_eq_append_getElem hjl
          obtain ⟨t, ht⟩ : ∃ t, L[j]'hjl = t := ⟨_, rfl⟩
          rw [ht] at m0 h64 hsn
          obtain ⟨w5, hrun, hm5, hg5⟩ := MapB.put HMS.out (by have := HP.out; have := HLT.out; have := HLL.out; have := HLWN.out; have := HJT.out; omega) h64 true
          rw [seenG_next, List.append_assoc, ← hsn] at hm5
          have HM5 := Lib.hid hm5
          have HMI5 := Lib.hid (MapG.grown HMI.out hg5 (fun e => by have := Option.some.inj e; omega))
          have HB5 := Lib.hid (HB.out.grown hg5 HB.out.size (fun k hk => by rw [← Option.some.inj hk]; omega))
          have HPK := Lib.hid (show (if (seenG (waitsOf (Ls.take k) ++ L.take j) t).isSome = true then p else p + 1) ≤ 1000 * k + (j + 1) by have := HP.out; split <;> omega)
          clear hj hjx hjt hjl h64 hsn ht hm5 hg5
          go_wp2
          clear hrun
          go_roundg (n - (j + 1))
          case measure => have := HJT.out; omega
          case rel => exact ⟨j + 1, _, by have := HJT.out; omega, Nat.le_refl _, by go_num, HPK.out, HMI5.out, HM5.out, HB5.out⟩
        · have j1 : ¬ (j : Int) < (n : Int) := by omega
          have hms := HMS.out
          rw [show L.take j = L from List.take_of_length_le (by rw [HN.out]; omega), ← HWN.out] at hms
          have HMS2 := Lib.hid hms
          have HPK := Lib.hid (show p ≤ 1000 * (k + 1) by have := HP.out; have := HLWN.out; omega)
          clear hj hjx hjt hms HMS
          go_wp2
          go_roundg (Ls.length - (k + 1))
          case measure => have := HLT.out; omega
          case rel => exact ⟨k + 1, m4, p, by have := HLT.out; omega, Nat.le_refl _, by go_num, HMK.out, HPK.out, HMI.out, HMS2.out, HB.out⟩
    · have k1 : ¬ (k : Int) < (Ls.length : Int) := by omega
      have hke : Ls.take k = Ls := List.take_of_length_le (by omega)
      have hmi := HMI.out
      have hms := HMS.out
      rw [hke] at hmi hms
      have HI := Lib.hid hmi
      have HS := Lib.hid hms
      clear hk hkx hlt hke hmi hms HMI HMS
      generalize wr = w2 at *
      go_wp2
      have hb2 := Below.refl w2.heap.size w2
      go_loopg [41] Xs.length (fun kx iv ws => ∃ (k : Nat), k ≤ Xs.length ∧ Xs.length - k ≤ kx ∧ iv = .int .i64 k ∧ Hid ((Xs.take k).all (fun x => seatV Ls x.token x.got.toNat x.want) = true) ∧ Hid (Below w2.heap.size w2 ws))
      case atStart => exact ⟨0, Nat.zero_le _, Nat.le_refl _, rfl, rfl, hb2⟩
      case round =>
        clear hb2
        obtain ⟨k, hk, hkx, rfl, HAL, HB2⟩ := hrel
        have HBW := Lib.hid (HB.out.trans (HB2.out.mono HB.out.size))
        by_cases hlt : k < Xs.length
        · have HLT := Lib.hid (And.intro hlt hkx)
          have k0 : (0 : Int) ≤ (k : Int) := by omega
          have k1 : (k : Int) < (Xs.length : Int) := by omega
          have k2 : (k : Int) ≤ 1000 := by have := HXL.out; omega
          obtain ⟨g, o, cc, e, z0, z1, p0, p1, p2, p3, p4, p5, p6⟩ := leaseAt (RowsAt.kept HX.out.rows HBW.out) k hlt
          cases e
          clear z0 z1
          have hm := List.getElem_mem hlt
          obtain ⟨h64, hw64⟩ := HX64.out _ hm
          have hxi := (HX.out.each _ hm)
          have hxw := HXW.out _ hm
          obtain ⟨hrw, hg0, hg1⟩ := HEA.out _ hm
          have hsi : ∀ x, Xs[k]'hlt = x → ∀ (j : Nat) (hj : x.got = (j : Int)) (hjl : j < x.want.length), decide (x.token ∈ waitsOf Ls) = inL (wtL Ls x.want[j]) x.token := fun x hx j hj hjl => seen_iff HNI.out HNT.out HLO.out (hx ▸ hm) hj hjl
          have hbad : seatV Ls (Xs[k]'hlt).token (Xs[k]'hlt).got.toNat (Xs[k]'hlt).want = false → false = r := fun h => by
            rw [HRR.out]
            exact (List.all_eq_false.2 ⟨_, hm, by rw [h]; simp⟩).symm
          have hgood : seatV Ls (Xs[k]'hlt).token (Xs[k]'hlt).got.toNat (Xs[k]'hlt).want = true → (Xs.take (k + 1)).all (fun x => seatV Ls x.token x.got.toNat x.want) = true := fun h => by
            rw [List.take_succ_eq_append_getElem hlt, List.all_append, HAL.out]
            simp [h]
          obtain ⟨⟨tk, ta, wo, un, du, go, xa, xc, xw⟩, hx⟩ : ∃ x, Xs[k]'hlt = x := ⟨_, rfl⟩
          rw [hx] at p0 p1 p2 p3 p4 p5 p6 h64 hw64 hxi hxw hrw hg0 hg1 hbad hgood
          replace hsi := hsi _ hx
          simp only at p0 p1 p2 p3 p4 p5 h64 hw64 hxw hg0 hg1 hbad hgood hsi
          change _ = some (Value.slice xa xw.length xc) at p6
          replace hxi : IntsAt W (.slice xa xw.length xc) xw := hxi
          obtain ⟨j, rfl⟩ : ∃ j : Nat, go = (j : Int) := ⟨go.toNat, by omega⟩
          rw [Int.toNat_natCast] at hbad hgood
          obtain ⟨a', c', ec, hcap, _⟩ := IntsAt.rows hxi
          cases ec
          obtain ⟨n, hn⟩ : ∃ n, xw.length = n := ⟨_, rfl⟩
          rw [hn] at p6 hxi hxw hg1 hcap
          have HN := Lib.hid hn
          have HSI := Lib.hid hsi
          have HBAD := Lib.hid hbad
          have HGOOD := Lib.hid hgood
          have HXI := Lib.hid hxi
          have HXN := Lib.hid hxw
          have H64 := Lib.hid h64
          have HW64 := Lib.hid hw64
          have HJ := Lib.hid (show j ≤ n by omega)
          have j0 : (0 : Int) ≤ (j : Int) := by omega
          have jc : j ≤ xc := by omega
          have j2 : (j : Int) ≤ 1000 := by omega
          have hbx := (Below.refl wr.heap.size wr).alloc (Nat.le_refl _) (.cells #[.int .i64 tk, .int .i64 ta, .int .i64 wo, .int .i64 un, .int .i64 du, .int .i64 (j : Int), .slice xa n xc] 35)
          have hX := Blk.new wr [.int .i64 tk, .int .i64 ta, .int .i64 wo, .int .i64 un, .int .i64 du, .int .i64 (j : Int), .slice xa n xc] 35
          have HB3 := Lib.hid (HB2.out.trans (hbx.mono HB2.out.size))
          clear hk hkx hlt hm h64 hw64 hxi hxw hrw hg0 hg1 hsi hbad hgood hx hn hcap hbx
          go_upto_region 16 with fail
          generalize wr.alloc (.cells #[.int .i64 tk, .int .i64 ta, .int .i64 wo, .int .i64 un, .int .i64 du, .int .i64 (j : Int), .slice xa n xc] 35) = w3 at *
          generalize wr.heap.size = bx at *
          replace hX : Blk w3 bx [.int .i64 tk, .int .i64 ta, .int .i64 wo, .int .i64 un, .int .i64 du, .int .i64 (j : Int), .slice xa n xc] := hX
          have HXB := Lib.hid hX
          have x5 := hX.cell 5 rfl
          have x6 := hX.cell 6 rfl
          clear hX p0 p1 p2 p3 p4 p5 p6
          go_wp2
          clear x5 x6
          have hb3 := Below.refl w3.heap.size w3
          go_loopg [51] j (fun ix iv ws => ∃ (i : Nat), i ≤ j ∧ j - i ≤ ix ∧ iv = .int .i64 i ∧ Hid ((xw.take i).all (fun id => hdL Ls id == tk) = true) ∧ Below w3.heap.size w3 ws)
          case atStart => exact ⟨0, Nat.zero_le _, Nat.le_refl _, rfl, rfl, hb3⟩
          case round =>
            clear hb3
            obtain ⟨i, hi, hix, rfl, HAI, hb4⟩ := hrel
            have HB4 := Lib.hid (HB3.out.trans (hb4.mono HB3.out.size))
            have HXB4 := Lib.hid (HXB.out.kept hb4)
            by_cases hit : i < j
            · have HIT := Lib.hid (And.intro hit hix)
              have i0 : (0 : Int) ≤ (i : Int) := by omega
              have i1 : (i : Int) < (j : Int) := by omega
              have i2 : (i : Int) < (n : Int) := by have := HJ.out; omega
              have hil : i < xw.length := by rw [HN.out]; have := HJ.out; omega
              obtain ⟨g2, o2, c2, e2, z0, z1, m0⟩ := (HXI.out.below (HB.out.trans (HB4.out.mono HB.out.size))).spot i hil
              rw [HN.out] at e2
              cases e2
              clear z0 z1
              have hid64 := HW64.out _ (List.getElem_mem hil)
              have hsn := List.take_succ_eq_append_getElem hil
              have hbad : (hdL Ls (xw[i]'hil) == tk) = false → false = r := fun h => HBAD.out (by
                unfold seatV
                rw [all_take_not hit hil h, Bool.false_and])
              obtain ⟨id, hid⟩ : ∃ id, xw[i]'hil = id := ⟨_, rfl⟩
              rw [hid] at m0 hid64 hsn hbad
              have hlk := MapI.look1 (HI.out.kept HB4.out) hid64
              rw [hG_hd] at hlk
              have x0 := HXB4.out.cell 0 rfl
              have HB5 := Lib.hid hb4
              by_cases he : hdL Ls id = tk
              · have HAN := Lib.hid (show (xw.take (i + 1)).all (fun id => hdL Ls id == tk) = true by
                  rw [hsn, List.all_append, HAI.out]
                  simp [he])
                rw [he] at hlk
                clear hi hix hit hil hid64 hsn hbad hid he hb4
                go_wp2
                go_roundg (j - (i + 1))
                case measure => have := HIT.out; omega
                case rel => exact ⟨i + 1, by have := HIT.out; omega, Nat.le_refl _, by go_num, HAN.out, HB5.out⟩
              · have HF := Lib.hid (hbad (beq_noI he))
                have he2 : (hdL Ls id == tk) = false := beq_noI he
                generalize hdL Ls id = hd at *
                clear hi hix hit hil hid64 hsn hbad hid hb4
                go_wp2
                go_ret
                exact ⟨ret_b HF.out, HB.out.trans (HB4.out.mono HB.out.size)⟩
            · have hij : i = j := by omega
              subst hij
              have i1 : ¬ (i : Int) < (i : Int) := by omega
              have hx4 := HXB4.out
              have x0 := hx4.cell 0 rfl
              have x1 := hx4.cell 1 rfl
              have x2 := hx4.cell 2 rfl
              have x3 := hx4.cell 3 rfl
              have x4 := hx4.cell 4 rfl
              have x5 := hx4.cell 5 rfl
              have x6 := hx4.cell 6 rfl
              have GW := Lib.hid (pWaiting_any tk ta wo un du (i : Int) xa n xc wr)
              have hlk := fun (w' : World) (h : Below wr.heap.size wr w') => MapB.look1 ((HS.out.kept HB4.out).kept h) H64.out
              simp only [seenG_at] at hlk
              have HLK := Lib.hid hlk
              clear hi hix hit hx4 hb4 hlk
              by_cases hin : i = n
              · have hq : (decide ((0 : Int) ≤ (i : Int)) && decide ((i : Int) < (n : Int))) = false := by rw [decide_eq_false (show ¬ (i : Int) < (n : Int) by omega), Bool.and_false]
                rw [hq] at GW
                have HG := Lib.hid (HGOOD.out (by
                  unfold seatV
                  rw [HAI.out, decide_eq_true (hin.trans HN.out.symm)]
                  rfl))
                clear hq hin
                go_wp2_with (go_at_call 37; (with_reducible refine GW.out.mono ?_); rintro e w5 ⟨rfl, b5⟩; have HB6 := Lib.hid (HB4.out.trans (b5.mono HB4.out.size)); clear b5)
                go_roundg (Xs.length - (k + 1))
                case measure => have := HLT.out; omega
                case rel => exact ⟨k + 1, by have := HLT.out; omega, Nat.le_refl _, by go_num, HG.out, HB6.out⟩
              · have hil : i < xw.length := by rw [HN.out]; have := HJ.out; omega
                have hq : (decide ((0 : Int) ≤ (i : Int)) && decide ((i : Int) < (n : Int))) = true := by rw [decide_eq_true (show (0 : Int) ≤ (i : Int) by omega), decide_eq_true (show (i : Int) < (n : Int) by have := HJ.out; omega)]; rfl
                rw [hq] at GW
                have hsi := HSI.out i rfl hil
                have hsv : seatV Ls tk i xw = decide (tk ∈ waitsOf Ls) := by
                  unfold seatV
                  rw [HAI.out, decide_eq_false (by rw [HN.out]; exact hin), List.getElem?_eq_getElem hil, hsi]
                  rfl
                obtain ⟨b, hb⟩ : ∃ b, decide (tk ∈ waitsOf Ls) = b := ⟨_, rfl⟩
                rw [hb] at hsv
                simp only [hb] at HLK
                have HSV := Lib.hid hsv
                clear hq hin hil hsi hsv hb
                cases b with
                | true =>
                  have HG := Lib.hid (HGOOD.out HSV.out)
                  go_wp2_with (go_at_call 37; (with_reducible refine GW.out.mono ?_); rintro e w5 ⟨rfl, b5⟩; have HB6 := Lib.hid (HB4.out.trans (b5.mono HB4.out.size)); have y0 := (HXB4.out.kept b5).cell 0 rfl; have hlk := HLK.out _ b5; clear b5)
                  clear hlk y0
                  go_roundg (Xs.length - (k + 1))
                  case measure => have := HLT.out; omega
                  case rel => exact ⟨k + 1, by have := HLT.out; omega, Nat.le_refl _, by go_num, HG.out, HB6.out⟩
                | false =>
                  have HF := Lib.hid (HBAD.out HSV.out)
                  go_wp2_with (go_at_call 37; (with_reducible refine GW.out.mono ?_); rintro e w5 ⟨rfl, b5⟩; have HB6 := Lib.hid (HB4.out.trans (b5.mono HB4.out.size)); have y0 := (HXB4.out.kept b5).cell 0 rfl; have hlk := HLK.out _ b5; clear b5)
                  go_ret
                  exact ⟨ret_b HF.out, HB.out.trans (HB6.out.mono HB.out.size)⟩
        · have k1 : ¬ (k : Int) < (Xs.length : Int) := by omega
          have HF := Lib.hid (show true = r by
            rw [HRR.out, ← HAL.out, List.take_of_length_le (by omega)])
          clear hk hkx hlt
          go_wp2
          go_ret
          exact ⟨ret_b HF.out, HBW.out⟩
end Go.Proofs.Ytjmgokjljmmmgaa
