/- Texts of this proof, joined: AisLoadD; OpenBss; OpenAct20; OpenLocks; OpenLeases; AisLoadsAll. -/
import Derived.Test.YtbkoogffnchldaaGreatBun20
import Derived.Deep.DeepCutAuto
import Derived.Lib.SmallJoins
import Derived.ChangeArms
import Derived.Deep.Strs
/- Stage 20: the law AislesLoads. -/
namespace Go.Proofs.YtbkoogffnchldaaGreat
open Go.RowKit

theorem SideG.add2 {σ : Type} {C : ObjK σ} {w w1 w2 : World} {p : Value} {q : σ} {bs : List Bes} (h : SideG C w w1 p q bs) (hb : Below w1.heap.size w1 w2) (b : Bes) (h2 : b.holds w2) (hn : ∀ k, b.foot k → k < w.heap.size ∨ w1.heap.size ≤ k) : SideG C w w2 p q (b :: bs) := by
  obtain ⟨F, h0, h1, h2', h3⟩ := h
  refine ⟨F, C.same h0 hb.size fun k hk => hb.block k (C.lt h0 k hk), h1, fun x hx => ?_, h3.trans (hb.mono h3.size)⟩
  rcases List.mem_cons.1 hx with rfl | hx
  · exact ⟨h2, fun k hk hf => by
      have := C.lt h0 k hf
      have := h1 k hf
      rcases hn k hk with h | h <;> omega⟩
  · obtain ⟨k1, k2⟩ := h2' x hx
    exact ⟨x.same k1 hb.size fun k hk => hb.block k (x.lt k1 k hk), k2⟩
theorem sLoad {w w1 : World} (hb : Below w.heap.size w w1) (va vb : Value) (Ls : List Lr) (Xs : List Le) (hl : LocksAt w1 va Ls) (hx : LeasesAt w1 vb Xs) (hll : Ls.length ≤ 1000) (hxl : Xs.length ≤ 1000) (hl64 : ∀ x ∈ Ls, I64 x.id ∧ I64 x.holder ∧ ∀ t ∈ x.wait, I64 t) (hx64 : ∀ x ∈ Xs, I64 x.token) (hlw : ∀ x ∈ Ls, x.wait.length ≤ 1000) (hxw : ∀ x ∈ Xs, x.want.length ≤ 1000) (hm : loadB Ls Xs = true) :
    Calls Tryz.prog 6 #[va, vb] w1 fun e w' => ∃ b, e = .returned (.tuple #[ptr18 b, .int .i64 0]) ∧ SideG tbObj w w' (ptr18 b) (mkT Ls Xs) [] := by
  refine (tLoad_any va vb Ls Xs w1 hl hx hll hxl hl64 hx64 hlw hxw).mono ?_
  rintro e w' ⟨_, h, h3⟩
  obtain ⟨p, rfl, F, h1, h2⟩ := h hm
  have h1' := h1
  obtain ⟨_, b, _, _, _, _, _, rfl, _⟩ := h1'
  exact ⟨b, rfl, SideG.start h1 (fun k hk => Nat.le_trans hb.size (h2 k hk)) (hb.trans (h3.mono hb.size))⟩
theorem LeasesAt.below {w w' : World} {v : Value} {l : List Le} (h : LeasesAt w v l) (hb : Below w.heap.size w w') : LeasesAt w' v l := ⟨RowsAt.kept h.rows hb, fun x hx => (h.each x hx).below hb⟩
set_option maxHeartbeats 32000000 in
set_option maxRecDepth 100000 in
theorem aislesLoads_any (va vb vl : Value) (Ls : List Lr) (Xs : List Le) (l : List Ac) (w : World) (ha : LocksAt w va Ls) (hx : LeasesAt w vb Xs) (hl : ActsAt w vl l) (hl64 : ∀ x ∈ Ls, In18 x.id ∧ In18 x.holder ∧ ∀ t ∈ x.wait, In18 t) (hx64 : ∀ x ∈ Xs, In18 x.token ∧ ∀ t ∈ x.want, In18 t) (hg : ∀ a ∈ l, In18 a.token) :
    Calls Tryz.prog 3 #[va, vb, vl] w fun e w' => e = .returned (.bool true) ∧ Below w.heap.size w w' := by
  have HAL := Lib.hid fun w => alive20_any w
  have HFW := Lib.hid (refFew20_any vl l 20 w hl.rows (by omega))
  have HA := Lib.hid ha
  have HX := Lib.hid hx
  have HL := Lib.hid hl
  have HG := Lib.hid hg
  have HL64 := Lib.hid hl64
  have HX64 := Lib.hid hx64
  obtain ⟨a1, c1, rfl⟩ := RowsAt.form ha.rows
  obtain ⟨a2, c2, rfl⟩ := RowsAt.form hx.rows
  obtain ⟨a3, c3, rfl⟩ := RowsAt.form hl.rows
  clear ha hx hl hg hl64 hx64
  by_cases h40 : Ls.length ≤ 40
  · have g1 : ¬ (40 : Int) < (Ls.length : Int) := by omega
    by_cases h70 : Xs.length ≤ 70
    · have g2 : ¬ (70 : Int) < (Xs.length : Int) := by omega
      cases hfw : fewB l 20 with
      | false =>
        rw [hfw] at HFW
        go_enter Tryz.func3, Tryz.ntmps3
        go_wp2_with (first
          | (go_at_call 4; (with_reducible refine HFW.out.mono ?_); rintro e w1 ⟨rfl, hb1⟩)
          | (go_at_call 5; (with_reducible refine (HAL.out _).mono ?_); rintro e w5 ⟨rfl, hb⟩))
        go_ret
        exact ⟨rfl, hb1.trans (hb.mono hb1.size)⟩
      | true =>
        rw [hfw] at HFW
        have HFE := Lib.hid (few_all hfw)
        have H40 := Lib.hid h40
        have H70 := Lib.hid h70
        clear h40 h70 hfw
        go_enter Tryz.func3, Tryz.ntmps3
        go_wp2_with (go_at_call 4; (with_reducible refine HFW.out.mono ?_); rintro e w1 ⟨rfl, hb1⟩; have HB1 := Lib.hid hb1; clear hb1)
        go_loopg [33] Xs.length (fun kx iv ws => ∃ k : Nat, k ≤ Xs.length ∧ Xs.length - k ≤ kx ∧ iv = .int .i64 k ∧ Hid (∀ x ∈ Xs.take k, x.want.length ≤ 40) ∧ Hid (Below w.heap.size w ws))
        case atStart => exact ⟨0, Nat.zero_le _, Nat.le_refl _, rfl, (fun x hx => (by simp at hx)), HB1.out⟩
        case round =>
          obtain ⟨k, hk, hkx, rfl, HWK, HBR⟩ := hrel
          by_cases hlt : k < Xs.length
          · have HLT := Lib.hid (And.intro hlt hkx)
            have k0 : (0 : Int) ≤ (k : Int) := by omega
            have k1 : (k : Int) < (Xs.length : Int) := by omega
            have k2 : (k : Int) ≤ 70 := by have := H70.out; omega
            obtain ⟨g, o, cc, e, _, _, p0, p1, p2, p3, p4, p5, p6⟩ := atX (RowsAt.kept HX.out.rows HBR.out) k hlt
            cases e
            have hsn : Xs.take (k + 1) = Xs.take k ++ [Xs[k]] := List.take_succ_eq_append_getElem hlt
            have hbx := HBR.out.alloc HBR.out.size (.cells #[.int .i64 (Xs[k]'hlt).token, .int .i64 (Xs[k]'hlt).task, .int .i64 (Xs[k]'hlt).worker, .int .i64 (Xs[k]'hlt).unit, .int .i64 (Xs[k]'hlt).due, .int .i64 (Xs[k]'hlt).got, (Xs[k]'hlt).v] 29)
            obtain ⟨⟨tk, ta, wo, un, du, go, xa, xc, xw⟩, hx⟩ : ∃ x, Xs[k]'hlt = x := ⟨_, rfl⟩
            rw [hx] at p0 p1 p2 p3 p4 p5 p6 hsn hbx
            simp only at p0 p1 p2 p3 p4 p5
            change _ = some (Value.slice xa xw.length xc) at p6
            dsimp only [Le.v] at hbx
            obtain ⟨xn, hxn⟩ : ∃ n, xw.length = n := ⟨_, rfl⟩
            rw [hxn] at p6 hbx
            have HSN := Lib.hid hsn
            have HXN := Lib.hid hxn
            have HBX := Lib.hid hbx
            clear hk hkx hlt hx hsn hxn hbx
            by_cases h : xn ≤ 40
            · have q1 : ¬ (40 : Int) < (xn : Int) := by omega
              have HWN := Lib.hid (show ∀ x ∈ Xs.take (k + 1), x.want.length ≤ 40 from fun x hx => by
                rw [HSN.out] at hx
                rcases List.mem_append.1 hx with hx | hx
                · exact HWK.out x hx
                · rw [List.mem_singleton.1 hx]
                  exact Nat.le_trans (Nat.le_of_eq HXN.out) h)
              clear h
              go_wp2
              go_roundg (Xs.length - (k + 1))
              case measure => have := HLT.out; omega
              case rel => exact ⟨k + 1, by have := HLT.out; omega, Nat.le_refl _, by go_num, HWN.out, HBX.out⟩
            · have q1 : (40 : Int) < (xn : Int) := by omega
              clear h
              go_wp2_with (go_at_call 5; (with_reducible refine (HAL.out _).mono ?_); rintro e w5 ⟨rfl, hb⟩)
              go_ret
              exact ⟨rfl, HBX.out.trans (hb.mono HBX.out.size)⟩
          · have k1 : ¬ (k : Int) < (Xs.length : Int) := by omega
            have HXW := Lib.hid (show ∀ x ∈ Xs, x.want.length ≤ 40 from fun x hx => HWK.out x (by rw [List.take_of_length_le (by omega)]; exact hx))
            have HB2 := HBR
            clear hk hkx hlt HWK HBR
            generalize wr = w2 at *
            go_wp2
            go_loopg [45] Ls.length (fun kx iv ws => ∃ k : Nat, k ≤ Ls.length ∧ Ls.length - k ≤ kx ∧ iv = .int .i64 k ∧ Hid (∀ x ∈ Ls.take k, x.wait.length ≤ 70) ∧ Hid (Below w.heap.size w ws))
            case atStart => exact ⟨0, Nat.zero_le _, Nat.le_refl _, rfl, (fun x hx => (by simp at hx)), HB2.out⟩
            case round =>
              obtain ⟨k, hk, hkx, rfl, HWK, HBR⟩ := hrel
              by_cases hlt : k < Ls.length
              · have HLT := Lib.hid (And.intro hlt hkx)
                have k0 : (0 : Int) ≤ (k : Int) := by omega
                have k1 : (k : Int) < (Ls.length : Int) := by omega
                have k2 : (k : Int) ≤ 40 := by have := H40.out; omega
                obtain ⟨g, o, cc, e, _, _, p0, p1, p2⟩ := RowsAt.atL (RowsAt.kept HA.out.rows HBR.out) k hlt
                cases e
                have hsn : Ls.take (k + 1) = Ls.take k ++ [Ls[k]] := List.take_succ_eq_append_getElem hlt
                have hbx := HBR.out.alloc HBR.out.size (.cells #[.int .i64 (Ls[k]'hlt).id, .int .i64 (Ls[k]'hlt).holder, (Ls[k]'hlt).v] 31)
                obtain ⟨⟨id, hh, xa, xc, xw⟩, hx⟩ : ∃ x, Ls[k]'hlt = x := ⟨_, rfl⟩
                rw [hx] at p0 p1 p2 hsn hbx
                simp only at p0 p1
                change _ = some (Value.slice xa xw.length xc) at p2
                dsimp only [Lr.v] at hbx
                obtain ⟨xn, hxn⟩ : ∃ n, xw.length = n := ⟨_, rfl⟩
                rw [hxn] at p2 hbx
                have HSN := Lib.hid hsn
                have HXN := Lib.hid hxn
                have HBX := Lib.hid hbx
                clear hk hkx hlt hx hsn hxn hbx
                by_cases h : xn ≤ 70
                · have q1 : ¬ (70 : Int) < (xn : Int) := by omega
                  have HWN := Lib.hid (show ∀ x ∈ Ls.take (k + 1), x.wait.length ≤ 70 from fun x hx => by
                    rw [HSN.out] at hx
                    rcases List.mem_append.1 hx with hx | hx
                    · exact HWK.out x hx
                    · rw [List.mem_singleton.1 hx]
                      exact Nat.le_trans (Nat.le_of_eq HXN.out) h)
                  clear h
                  go_wp2
                  go_roundg (Ls.length - (k + 1))
                  case measure => have := HLT.out; omega
                  case rel => exact ⟨k + 1, by have := HLT.out; omega, Nat.le_refl _, by go_num, HWN.out, HBX.out⟩
                · have q1 : (70 : Int) < (xn : Int) := by omega
                  clear h
                  go_wp2_with (go_at_call 5; (with_reducible refine (HAL.out _).mono ?_); rintro e w5 ⟨rfl, hb⟩)
                  go_ret
                  exact ⟨rfl, HBX.out.trans (hb.mono HBX.out.size)⟩
              · have k1 : ¬ (k : Int) < (Ls.length : Int) := by omega
                have HLW := Lib.hid (show ∀ x ∈ Ls, x.wait.length ≤ 70 from fun x hx => HWK.out x (by rw [List.take_of_length_le (by omega)]; exact hx))
                have HB3 := HBR
                clear hk hkx hlt HWK HBR
                generalize wr = w3 at *
                have HRL := Lib.hid fun w4 (hb : Below w.heap.size w w4) => refLoad20_any (.slice a1 Ls.length c1) (.slice a2 Xs.length c2) Ls Xs w4 (fun k => k < w.heap.size) (HA.out.below hb) (HX.out.below hb) (by have := H40.out; omega) (by have := H70.out; omega) (fun x hx => Nat.le_trans (HLW.out x hx) (by omega)) (fun x hx => Nat.le_trans (HXW.out x hx) (by omega)) (fun h0 k hk => HA.out.rows.lt h0 k hk) (fun x hx h0 k hk => (IntsAt.rows (HA.out.each x hx)).lt h0 k hk) (fun x hx h0 k hk => (IntsAt.rows (HX.out.each x hx)).lt h0 k hk) (fun k hk => Nat.lt_of_lt_of_le hk hb.size)
                cases hm : loadB Ls Xs with
                | false =>
                  have HTL := Lib.hid (tLoad_any (.slice a1 Ls.length c1) (.slice a2 Xs.length c2) Ls Xs w3 (HA.out.below HB3.out) (HX.out.below HB3.out) (by have := H40.out; omega) (by have := H70.out; omega) (fun x hx => HL64.out x hx) (fun x hx => (HX64.out x hx).1) (fun x hx => Nat.le_trans (HLW.out x hx) (by omega)) (fun x hx => Nat.le_trans (HXW.out x hx) (by omega)))
                  simp only [hm, Bool.false_eq_true, if_false, false_imp_iff, true_imp_iff, true_and] at HRL HTL
                  clear hm
                  go_wp2_with (first
                    | (go_at_call 6; (with_reducible refine HTL.out.mono ?_); rintro e w4 ⟨rfl, hb4⟩; have HB4 := Lib.hid (HB3.out.trans (hb4.mono HB3.out.size)); clear hb4)
                    | (go_at_call 7; (with_reducible refine (HRL.out _ HB4.out).mono ?_); rintro e w5 ⟨_, _, rfl, ⟨x1, y1, z1, rfl⟩, ⟨x2, y2, z2, rfl⟩, hb5⟩; have HB5 := Lib.hid ((HB4.out.trans (hb5.mono HB4.out.size)).alloc (HB4.out.trans (hb5.mono HB4.out.size)).size (.cells #[.slice x1 y1 z1, .slice x2 y2 z2] 38)); clear hb5)
                    | (go_at_call 5; (with_reducible refine (HAL.out _).mono ?_); rintro e w6 ⟨rfl, hb⟩))
                  go_ret
                  exact ⟨rfl, HB5.out.trans (hb.mono HB5.out.size)⟩
                | true =>
                  have HTL := Lib.hid (sLoad (w := w) HB3.out (.slice a1 Ls.length c1) (.slice a2 Xs.length c2) Ls Xs (HA.out.below HB3.out) (HX.out.below HB3.out) (by have := H40.out; omega) (by have := H70.out; omega) (fun x hx => HL64.out x hx) (fun x hx => (HX64.out x hx).1) (fun x hx => Nat.le_trans (HLW.out x hx) (by omega)) (fun x hx => Nat.le_trans (HXW.out x hx) (by omega)) hm)
                  simp only [hm, if_true, true_imp_iff] at HRL
                  clear hm
                  go_wp2_with (first
                    | (go_at_call 6; (with_reducible refine HTL.out.mono ?_); rintro e w4 ⟨pb, rfl, hs⟩; have S0 := Lib.hid hs; clear hs)
                    | (go_at_call 7; (with_reducible refine (HRL.out _ (SideG.below S0.out)).mono ?_); rintro e w5 ⟨_, _, rfl, ⟨x1, y1, z1, rfl⟩, ⟨x2, y2, z2, rfl⟩, ⟨G0, hd, hG0⟩, hb5⟩; have S1 := Lib.hid (SideG.add2 S0.out hb5 (Bes.doc G0 _ _ _) hd hG0); clear hb5 hd))
                  obtain ⟨b, hb⟩ : ∃ b, w5.heap.size = b := ⟨_, rfl⟩
                  have HBW := Lib.hid (show w.heap.size ≤ b by rw [← hb]; exact (SideG.below S1.out).size)
                  have S2 := Lib.hid (SideG.swap (SideG.new S1.out (.slice x1 y1 z1) [.slice x2 y2 z2] 38))
                  have HG2 := Lib.hid (show ¬ G0 b from fun h => by have := SideG.lt S1.out (b := Bes.doc G0 (.slice x1 y1 z1) (.slice x2 y2 z2) (mkT Ls Xs)) (by simp) b h; omega)
                  rw [hb] at S2
                  have HB1' := Lib.hid hb
                  rw [hb]
                  clear hb S0 S1 hG0
                  go_loopg [12, 14, 82] l.length (fun kx ev fv kv wr => ∃ (k : Nat) (er : Int) (T : Tb) (G : Nat → Prop) (x1 : Option Addr) (y1 z1 : Nat) (x2 : Option Addr) (y2 z2 : Nat), k ≤ l.length ∧ l.length - k ≤ kx ∧ ev = .int .i64 er ∧ fv = .int .i64 er ∧ kv = .int .i64 k ∧ Hid (SideG tbObj w wr (ptr18 pb) T [Bes.doc G (.slice x1 y1 z1) (.slice x2 y2 z2) T, Bes.blk b (.slice x1 y1 z1) [.slice x2 y2 z2]]) ∧ Hid (¬ G b))
                  case atStart => exact ⟨0, 0, mkT Ls Xs, G0, x1, y1, z1, x2, y2, z2, Nat.zero_le _, Nat.le_refl _, rfl, rfl, rfl, S2.out, HG2.out⟩
                  case round =>
                    clear S2 HG2
                    obtain ⟨k, er, T, G, x1, y1, z1, x2, y2, z2, hk, hkx, rfl, rfl, rfl, HS, HNG⟩ := hrel
                    by_cases hlt : k < l.length
                    · have HLT := Lib.hid hlt
                      have K0 : (0 : Int) ≤ (k : Int) := by omega
                      have K1 : (k : Int) < (l.length : Int) := by omega
                      have K2 : (k : Int) ≤ 20 := by have := HFE.out.1; omega
                      have HWL := Lib.hid (HFE.out.2 _ (List.getElem_mem hlt))
                      have HWI := Lib.hid (HL.out.each _ (List.getElem_mem hlt))
                      obtain ⟨g, o, cq, e, _, _, p0, p1, p2⟩ := RowsAt.atA (RowsAt.kept HL.out.rows (SideG.below HS.out)) k hlt
                      cases e
                      have hy := HG.out _ (List.getElem_mem hlt)
                      obtain ⟨⟨kk, t, xa, xc, xw⟩, har⟩ : ∃ r, l[k]'hlt = r := ⟨_, rfl⟩
                      rw [har] at p0 p1 p2 hy HWL HWI
                      simp only at p0 p1 p2 hy HWL HWI
                      have HY := Lib.hid hy
                      obtain ⟨xn, hxn⟩ : ∃ n, xw.length = n := ⟨_, rfl⟩
                      replace HWI : Hid (IntsAt w (.slice xa xw.length xc) xw) := HWI
                      change _ = some (Value.slice xa xw.length xc) at p2
                      rw [hxn] at p2 HWI HWL
                      have HBL := Lib.hid (show b < wr.heap.size from SideG.lt HS.out (b := Bes.blk b (.slice x1 y1 z1) [.slice x2 y2 z2]) (by simp) b rfl)
                      have SA := Lib.hid (SideG.sub20 (bs' := [Bes.doc G (.slice x1 y1 z1) (.slice x2 y2 z2) T, Bes.blk b (.slice x1 y1 z1) [.slice x2 y2 z2], Bes.blk wr.heap.size (.int .i64 kk) [.int .i64 t, .slice xa xn xc]]) (SideG.new HS.out (.int .i64 kk) [.int .i64 t, .slice xa xn xc] 42) (by simp))
                      have q0 := Blk.cell (vs := [.slice x1 y1 z1, .slice x2 y2 z2]) (SideG.head (SideG.less SA.out)) 0 rfl; have q1 := Blk.cell (vs := [.slice x1 y1 z1, .slice x2 y2 z2]) (SideG.head (SideG.less SA.out)) 1 rfl
                      have HXN := Lib.hid hxn
                      clear hy har hk hxn
                      go_upto_region 26 with (go_at_call 8; (with_reducible refine (sSame SA.out).mono ?_); rintro e w3 ⟨rfl, hb3⟩; have SB := Lib.hid (SA.out.kept hb3); clear q0 q1 hb3)
                      have q0 := Blk.cell (vs := [.slice x1 y1 z1, .slice x2 y2 z2]) (SideG.head (SideG.less SB.out)) 0 rfl; have q1 := Blk.cell (vs := [.slice x1 y1 z1, .slice x2 y2 z2]) (SideG.head (SideG.less SB.out)) 1 rfl
                      have r0 := Blk.cell (vs := [.int .i64 kk, .int .i64 t, .slice xa xn xc]) (SideG.head (SideG.less (SideG.less SB.out))) 0 rfl; have r1 := Blk.cell (vs := [.int .i64 kk, .int .i64 t, .slice xa xn xc]) (SideG.head (SideG.less (SideG.less SB.out))) 1 rfl; have r2 := Blk.cell (vs := [.int .i64 kk, .int .i64 t, .slice xa xn xc]) (SideG.head (SideG.less (SideG.less SB.out))) 2 rfl
                      have HOK := Lib.hid (SideG.ok SB.out)
                      clear SA p0 p1 p2
                      go_upto_block 6 with fail
                      clear r0
                      go_cut [12, 14] (fun ev fv wx => ∃ (er : Int) (T : Tb) (G : Nat → Prop) (x1 : Option Addr) (y1 z1 : Nat) (x2 : Option Addr) (y2 z2 : Nat), ev = .int .i64 er ∧ fv = .int .i64 er ∧ Hid (SideG tbObj w wx (ptr18 pb) T [Bes.doc G (.slice x1 y1 z1) (.slice x2 y2 z2) T, Bes.blk b (.slice x1 y1 z1) [.slice x2 y2 z2], Bes.blk wr.heap.size (.int .i64 kk) [.int .i64 t, .slice xa xn xc]]) ∧ Hid (¬ G b))
                      case first =>
                        by_cases f1 : kk = 1
                        · subst f1
                          have P := Lib.hid (sEnter SB.out t HY.out (.slice xa xn xc) xw (HWI.out.below (SideG.below SB.out)) (by have := HWL.out; have := HXN.out; omega))
                          have HR := Lib.hid fun w1 (hs : SideG tbObj w w1 (ptr18 pb) (T.enter t xw) [Bes.doc G (.slice x1 y1 z1) (.slice x2 y2 z2) T, Bes.blk b (.slice x1 y1 z1) [.slice x2 y2 z2], Bes.blk wr.heap.size (.int .i64 1) [.int .i64 t, .slice xa xn xc]]) => dEnter hs HOK.out t HY.out (.slice xa xn xc) xw (HWI.out.below (SideG.below hs)) (by have := HWL.out; have := HXN.out; omega)
                          obtain ⟨er2, her⟩ : ∃ er, T.enterE t xw = er := ⟨_, rfl⟩
                          obtain ⟨T2, hT2⟩ : ∃ T2, T.enter t xw = T2 := ⟨_, rfl⟩
                          rw [her, hT2] at P HR
                          clear her hT2
                          go_wp2_with (first
                            | (go_at_call 9; (with_reducible refine P.out.mono ?_); rintro e w3 ⟨rfl, hs⟩; clear q0 q1 r1 r2; have SS := Lib.hid hs; have q0 := Blk.cell (vs := [.slice x1 y1 z1, .slice x2 y2 z2]) (SideG.head (SideG.less SS.out)) 0 rfl; have q1 := Blk.cell (vs := [.slice x1 y1 z1, .slice x2 y2 z2]) (SideG.head (SideG.less SS.out)) 1 rfl; have r1 := Blk.cell (vs := [.int .i64 1, .int .i64 t, .slice xa xn xc]) (SideG.head (SideG.less (SideG.less SS.out))) 1 rfl; have r2 := Blk.cell (vs := [.int .i64 1, .int .i64 t, .slice xa xn xc]) (SideG.head (SideG.less (SideG.less SS.out))) 2 rfl; clear hs)
                            | (go_at_call 10; (with_reducible refine (HR.out _ SS.out).mono ?_); rintro e w4 ⟨x3, y3, z3, x4, y4, z4, rfl, G', hs, hg⟩; have ST := Lib.hid hs; have HG' := Lib.hid (show ¬ G' b from fun h => by rcases hg b h with h | h; { exact HNG.out h }; { have := SideG.lt SS.out (b := Bes.blk b (.slice x1 y1 z1) [.slice x2 y2 z2]) (by simp) b rfl; omega }); clear hs hg q0 q1 r1 r2; have s0 := Blk.cell (vs := [.slice x1 y1 z1, .slice x2 y2 z2]) (SideG.head (SideG.less ST.out)) 0 rfl; have s1 := Blk.cell (vs := [.slice x1 y1 z1, .slice x2 y2 z2]) (SideG.head (SideG.less ST.out)) 1 rfl; have z0 := Blk.free (vs := [.slice x1 y1 z1, .slice x2 y2 z2]) (SideG.head (SideG.less ST.out)) 0 rfl; have z1 := Blk.free (vs := [.slice x1 y1 z1, .slice x2 y2 z2]) (SideG.head (SideG.less ST.out)) 1 rfl))
                          go_meet
                          exact ⟨er2, T2, G', x3, y3, z3, x4, y4, z4, rfl, rfl, dWrite ST.out HBW.out HG'.out (by intro s hs hf; have e0 : s = Bes.blk wr.heap.size (.int .i64 1) [.int .i64 t, .slice xa xn xc] := (by simpa using hs); subst e0; have e : b = wr.heap.size := hf; have := HBL.out; omega) (.slice x3 y3 z3) (.slice x4 y4 z4), HG'.out⟩
                        · have f1b : (kk == 1) = false := beq_noI f1
                          by_cases f2 : kk = 2
                          · subst f2
                            clear f1 f1b
                            have P := Lib.hid (sLeave SB.out t HY.out)
                            have HR := Lib.hid fun w1 (hs : SideG tbObj w w1 (ptr18 pb) (T.leave t) [Bes.doc G (.slice x1 y1 z1) (.slice x2 y2 z2) T, Bes.blk b (.slice x1 y1 z1) [.slice x2 y2 z2], Bes.blk wr.heap.size (.int .i64 2) [.int .i64 t, .slice xa xn xc]]) => dLeave hs HOK.out t
                            obtain ⟨er2, her⟩ : ∃ er, decide (t ∈ T.toks) = er := ⟨_, rfl⟩
                            obtain ⟨T2, hT2⟩ : ∃ T2, T.leave t = T2 := ⟨_, rfl⟩
                            rw [her, hT2] at P HR
                            clear her hT2
                            go_wp2_with (first
                              | (go_at_call 11; (with_reducible refine P.out.mono ?_); rintro e w3 ⟨rfl, hs⟩; clear q0 q1 r1 r2; have SS := Lib.hid hs; have q0 := Blk.cell (vs := [.slice x1 y1 z1, .slice x2 y2 z2]) (SideG.head (SideG.less SS.out)) 0 rfl; have q1 := Blk.cell (vs := [.slice x1 y1 z1, .slice x2 y2 z2]) (SideG.head (SideG.less SS.out)) 1 rfl; have r1 := Blk.cell (vs := [.int .i64 2, .int .i64 t, .slice xa xn xc]) (SideG.head (SideG.less (SideG.less SS.out))) 1 rfl; clear hs)
                              | (go_at_call 12; (with_reducible refine (HR.out _ SS.out).mono ?_); rintro e w4 ⟨x3, y3, z3, x4, y4, z4, rfl, G', hs, hg⟩; have ST := Lib.hid hs; have HG' := Lib.hid (show ¬ G' b from fun h => by rcases hg b h with h | h; { exact HNG.out h }; { have := SideG.lt SS.out (b := Bes.blk b (.slice x1 y1 z1) [.slice x2 y2 z2]) (by simp) b rfl; omega }); clear hs hg q0 q1 r1; have s0 := Blk.cell (vs := [.slice x1 y1 z1, .slice x2 y2 z2]) (SideG.head (SideG.less ST.out)) 0 rfl; have s1 := Blk.cell (vs := [.slice x1 y1 z1, .slice x2 y2 z2]) (SideG.head (SideG.less ST.out)) 1 rfl; have z0 := Blk.free (vs := [.slice x1 y1 z1, .slice x2 y2 z2]) (SideG.head (SideG.less ST.out)) 0 rfl; have z1 := Blk.free (vs := [.slice x1 y1 z1, .slice x2 y2 z2]) (SideG.head (SideG.less ST.out)) 1 rfl))
                            go_meet
                            exact ⟨er, T2, G', x3, y3, z3, x4, y4, z4, rfl, rfl, dWrite ST.out HBW.out HG'.out (by intro s hs hf; have e0 : s = Bes.blk wr.heap.size (.int .i64 2) [.int .i64 t, .slice xa xn xc] := (by simpa using hs); subst e0; have e : b = wr.heap.size := hf; have := HBL.out; omega) (.slice x3 y3 z3) (.slice x4 y4 z4), HG'.out⟩
                          · have f2b : (kk == 2) = false := beq_noI f2
                            by_cases f3 : kk = 3
                            · subst f3
                              clear f1 f1b f2 f2b
                              have P := Lib.hid (sScan SB.out)
                              have HR := Lib.hid fun w1 (hs : SideG tbObj w w1 (ptr18 pb) T.scan.1 [Bes.doc G (.slice x1 y1 z1) (.slice x2 y2 z2) T, Bes.blk b (.slice x1 y1 z1) [.slice x2 y2 z2], Bes.blk wr.heap.size (.int .i64 3) [.int .i64 t, .slice xa xn xc]]) => dScan hs HOK.out
                              obtain ⟨T2, hT2⟩ : ∃ T2, T.scan.1 = T2 := ⟨_, rfl⟩
                              rw [hT2] at P HR
                              clear hT2
                              go_wp2_with (first
                                | (go_at_call 13; (with_reducible refine P.out.mono ?_); rintro e w3 ⟨vg, rfl, hv, hvn, hs⟩; clear q0 q1 r1 r2 hv hvn; have SS := Lib.hid hs; have q0 := Blk.cell (vs := [.slice x1 y1 z1, .slice x2 y2 z2]) (SideG.head (SideG.less SS.out)) 0 rfl; have q1 := Blk.cell (vs := [.slice x1 y1 z1, .slice x2 y2 z2]) (SideG.head (SideG.less SS.out)) 1 rfl; clear hs)
                                | (go_at_call 14; (with_reducible refine (HR.out _ SS.out).mono ?_); rintro e w4 ⟨x3, y3, z3, x4, y4, z4, vh, rfl, hu, hun, hb4, G', hs, hg⟩; have ST := Lib.hid hs; have HG' := Lib.hid (show ¬ G' b from fun h => by rcases hg b h with h | h; { exact HNG.out h }; { have := SideG.lt SS.out (b := Bes.blk b (.slice x1 y1 z1) [.slice x2 y2 z2]) (by simp) b rfl; omega }); clear hs hg q0 q1 hu hun hb4; have s0 := Blk.cell (vs := [.slice x1 y1 z1, .slice x2 y2 z2]) (SideG.head (SideG.less ST.out)) 0 rfl; have s1 := Blk.cell (vs := [.slice x1 y1 z1, .slice x2 y2 z2]) (SideG.head (SideG.less ST.out)) 1 rfl; have z0 := Blk.free (vs := [.slice x1 y1 z1, .slice x2 y2 z2]) (SideG.head (SideG.less ST.out)) 0 rfl; have z1 := Blk.free (vs := [.slice x1 y1 z1, .slice x2 y2 z2]) (SideG.head (SideG.less ST.out)) 1 rfl))
                              go_meet
                              exact ⟨er, T2, G', x3, y3, z3, x4, y4, z4, rfl, rfl, dWrite ST.out HBW.out HG'.out (by intro s hs hf; have e0 : s = Bes.blk wr.heap.size (.int .i64 3) [.int .i64 t, .slice xa xn xc] := (by simpa using hs); subst e0; have e : b = wr.heap.size := hf; have := HBL.out; omega) (.slice x3 y3 z3) (.slice x4 y4 z4), HG'.out⟩
                            · have f3b : (kk == 3) = false := beq_noI f3
                              clear q0 q1 r1 r2
                              go_wp2
                              go_meet
                              exact ⟨er, T, G, x1, y1, z1, x2, y2, z2, rfl, rfl, SB.out, HNG.out⟩
                      case rest =>
                        clear SB HS HNG HOK HWL HWI HXN q0 q1 r1 r2
                        obtain ⟨er, T, G, x1, y1, z1, x2, y2, z2, rfl, rfl, HS, HNG⟩ := hcut
                        have SV := Lib.hid (SideG.sub20 (bs' := [Bes.doc G (.slice x1 y1 z1) (.slice x2 y2 z2) T, Bes.blk b (.slice x1 y1 z1) [.slice x2 y2 z2]]) HS.out (by simp))
                        go_wp2
                        go_roundg (l.length - (k + 1))
                        case measure => have := HLT.out; omega
                        case rel => exact ⟨k + 1, er, T, G, x1, y1, z1, x2, y2, z2, by have := HLT.out; omega, Nat.le_refl _, rfl, rfl, by go_num, SV.out, HNG.out⟩
                    · have g2 : ¬ (k : Int) < (l.length : Int) := by omega
                      have q0 := Blk.cell (vs := [.slice x1 y1 z1, .slice x2 y2 z2]) (SideG.head (SideG.less HS.out)) 0 rfl; have q1 := Blk.cell (vs := [.slice x1 y1 z1, .slice x2 y2 z2]) (SideG.head (SideG.less HS.out)) 1 rfl
                      go_wp2_with (first
                        | (go_at_call 8; (with_reducible refine (sSame HS.out).mono ?_); rintro e w6 ⟨rfl, hb⟩; have HB6 := Lib.hid ((SideG.below HS.out).trans (hb.mono (SideG.below HS.out).size)); clear hb)
                        | (go_at_call 5; (with_reducible refine (HAL.out _).mono ?_); rintro e w7 ⟨rfl, hb⟩; have HB7 := Lib.hid (HB6.out.trans (hb.mono HB6.out.size)); clear hb))
                      go_ret
                      exact ⟨rfl, HB7.out⟩
    · have g2 : (70 : Int) < (Xs.length : Int) := by omega
      go_enter Tryz.func3, Tryz.ntmps3
      go_wp2_with (go_at_call 5; (with_reducible refine (HAL.out _).mono ?_); rintro e w5 ⟨rfl, hb⟩)
      go_ret
      exact ⟨rfl, hb⟩
  · have g1 : (40 : Int) < (Ls.length : Int) := by omega
    go_enter Tryz.func3, Tryz.ntmps3
    go_wp2_with (go_at_call 5; (with_reducible refine (HAL.out _).mono ?_); rintro e w5 ⟨rfl, hb⟩)
    go_ret
    exact ⟨rfl, hb⟩
end Go.Proofs.YtbkoogffnchldaaGreat
/- Lists of lists of bytes that come in. -/
namespace Go.Proofs.YtbkoogffnchldaaGreat
open Go.RowKit Go.ChangeShapes Go.WideShapes Go.Joins Go.Deep

set_option maxRecDepth 100000 in
/-- a slice that lies in a cell -/
theorem open_rows_good {α : Type} [Inhabited α] {H : Type} {enc : TypeId × Value → H} {w : World} {t e : TypeId} {K n0 : Nat} {xs0 : List Value} {z : DataW H × List MemPlace} (cs : α → List Value) (good : α → Prop)
    (ht : Tryz.prog.underlying t = some (.slice e)) (ce : Tryz.prog.cellsOf e = K) (hK : 0 < K)
    (elem : ∀ n xs x, xs.length = K → DataW.trod enc Tryz.prog w 0 (fun _ => true) true n e xs = some x → ∃ y, xs = cs y ∧ good y)
    (hx0 : DataW.trod enc Tryz.prog w 0 (fun _ => true) true n0 t xs0 = some z) :
    ∃ a len cap l, xs0 = [.slice a len cap] ∧ RowsAt w K cs (.slice a len cap) l ∧ l.length ≤ 9223372036854775807 ∧ ∀ x ∈ l, good x := by
  obtain ⟨d, p⟩ := z
  rcases open_slice ht hx0 with ⟨hcs, _⟩ | ⟨x, ln, c, m, n, D, Pl, hcs, _, hl, hm, hmm, _, hx⟩
  · exact ⟨none, 0, 0, [], hcs, RowsAt.nil _ _ _, by simp, by simp⟩
  · have hmc : m = c := by simpa using hmm
    subst hmc
    rw [ce] at hx
    have each : ∀ i, i < m → ∃ y : α, (∀ j u, (cs y)[j]? = some u → w.cell? ((x.add (i * K)).add j) = some u) ∧ good y ∧ (cs y).length = K := by
      intro i hi
      obtain ⟨xs, h1, h2⟩ := hx i hi
      obtain ⟨_, hlen, hcell⟩ := World.cells?_some h1
      obtain ⟨y, rfl, hg⟩ := elem n xs _ hlen h2
      refine ⟨y, fun j u hu => ?_, hg, hlen⟩
      have := hcell j (by rw [← hlen]; exact (List.getElem?_eq_some_iff.1 hu).1)
      rw [this, hu]
    obtain ⟨q, hq⟩ := choose_lt each
    have hll : ((List.range ln).map q).length = ln := by simp
    refine ⟨some x, ln, m, (List.range ln).map q, hcs, ⟨some x, m, by rw [hll], by rw [hll]; exact hl, fun h0 => ?_⟩, ?_, fun y hy => ?_⟩
    · rw [hll] at h0
      obtain ⟨h1, _, h3⟩ := hq 0 (by omega)
      obtain ⟨u, hu⟩ : ∃ u, (cs (q 0))[0]? = some u := ⟨_, List.getElem?_eq_getElem (by omega)⟩
      have h4 := h1 0 u hu
      obtain ⟨b, off, spot⟩ := x
      have hspot : spot = none := by simpa [Addr.add] using World.cell?_spot h4
      subst hspot
      rw [add_plain, add_plain] at h4
      refine ⟨b, off, rfl, World.block_lt_of_cell? _ _ h4, fun j y hj i u hu => ?_⟩
      have hjl : j < ln := by rw [← hll]; exact (List.getElem?_eq_some_iff.1 hj).1
      have hyq : q j = y := by simpa [hjl] using hj
      rw [← hyq] at hu
      have := (hq j (by omega)).1 i u hu
      rw [add_plain, add_plain] at this
      exact this
    · rw [hll]
      unfold maxLen at hm
      omega
    · rw [List.mem_map] at hy
      obtain ⟨i, hi, rfl⟩ := hy
      exact (hq i (by have := List.mem_range.1 hi; omega)).2.1
theorem open_rows_in {α : Type} [Inhabited α] {H : Type} {enc : TypeId × Value → H} {w : World} {t e : TypeId} {K n0 : Nat} {xs0 : List Value} {z : DataW H × List MemPlace} (cs : α → List Value)
    (ht : Tryz.prog.underlying t = some (.slice e)) (ce : Tryz.prog.cellsOf e = K) (hK : 0 < K)
    (elem : ∀ n xs x, xs.length = K → DataW.trod enc Tryz.prog w 0 (fun _ => true) true n e xs = some x → ∃ y, xs = cs y)
    (hx0 : DataW.trod enc Tryz.prog w 0 (fun _ => true) true n0 t xs0 = some z) :
    ∃ a len cap l, xs0 = [.slice a len cap] ∧ RowsAt w K cs (.slice a len cap) l ∧ l.length ≤ 9223372036854775807 := by
  obtain ⟨a, len, cap, l, h1, h2, h3, _⟩ := open_rows_good cs (fun _ => True) ht ce hK (fun n xs x h h' => (elem n xs x h h').imp fun _ e => ⟨e, trivial⟩) hx0
  exact ⟨a, len, cap, l, h1, h2, h3⟩
end Go.Proofs.YtbkoogffnchldaaGreat
/- Acts of layer 20 that come in, opened. -/
namespace Go.Proofs.YtbkoogffnchldaaGreat
open Go.RowKit Go.ChangeShapes Go.WideShapes Go.Joins Go.Deep

theorem cells_act20 : Tryz.prog.cellsOf 42 = 3 := by kernel_rfl
theorem cells_int_a20 : Tryz.prog.cellsOf 3 = 1 := by kernel_rfl
theorem cells_ints_a20 : Tryz.prog.cellsOf 27 = 1 := by kernel_rfl
theorem list3_a20 {α : Type} {l : List α} (h : l.length = 3) : ∃ a b c, l = [a, b, c] := by
  match l, h with
  | [a, b, c], _ => exact ⟨a, b, c, rfl⟩
set_option maxRecDepth 100000 in
theorem trod_act20 {H : Type} {enc : TypeId × Value → H} {w : World} {fuel : Nat} {cs : List Value} {x : DataW H × List MemPlace} (hl : cs.length = 3) (h : DataW.trod enc Tryz.prog w 0 (fun _ => true) true fuel 42 cs = some x) : ∃ a : Ac, cs = csAc a ∧ IntsAt w a.v a.want ∧ -9223372036854775808 ≤ a.token ∧ a.token ≤ 9223372036854775807 := by
  obtain ⟨c0, c1, c2, rfl⟩ := list3_a20 hl
  obtain ⟨y0, y1, y2, k, _, _, h0, h1, h2⟩ := trod_struct3 Tryz.underlying42 h
  simp only [cells_int_a20, cells_ints_a20, List.drop_zero, List.take_succ_cons, List.take_zero, List.drop_succ_cons] at h0 h1 h2
  obtain ⟨a, e0, _, wa⟩ := DataW.trod_int Tryz.underlying3 h0
  obtain ⟨b, e1, _, wb⟩ := DataW.trod_int Tryz.underlying3 h1
  obtain ⟨s, len, cap, l, e2, hr, _⟩ := open_rows_in csI Tryz.underlying27 cells_int_a20 (by decide) (by
    intro n xs x _ hx
    obtain ⟨a, e0, _, wa⟩ := DataW.trod_int Tryz.underlying3 hx
    exact ⟨a, e0⟩) h2
  simp at e0 e1 e2
  subst e0 e1 e2
  obtain ⟨s', c', e3⟩ := RowsAt.form hr
  cases e3
  exact ⟨⟨a, b, s, cap, l⟩, rfl, RowsAt.ints hr, bounds_i64 wb⟩
set_option maxRecDepth 100000 in
theorem open_acts20 {H : Type} {enc : TypeId × Value → H} {w : World} {base : Nat} {v : Value} {d : DataW H} {p : List MemPlace} (hok : Value.okWide Tryz.prog w .any base 24 v) (h : DataW.Trod enc Tryz.prog w 0 (fun _ => true) true 24 v d p) :
    ∃ l, ActsAt w v l ∧ l.length ≤ 9223372036854775807 ∧ ∀ a ∈ l, In18 a.token := by
  obtain ⟨l, h1, h2, h3⟩ := open_rows csAc (fun a => IntsAt w a.v a.want ∧ -9223372036854775808 ≤ a.token ∧ a.token ≤ 9223372036854775807) Tryz.underlying24 cells_act20 (by decide) (fun _ _ _ hl h => trod_act20 hl h) hok h
  exact ⟨l, ⟨h1, fun a ha => (h3 a ha).1⟩, h2, fun a ha => (h3 a ha).2⟩
end Go.Proofs.YtbkoogffnchldaaGreat
/- Lists of locks that come in, opened. -/
namespace Go.Proofs.YtbkoogffnchldaaGreat
open Go.RowKit Go.ChangeShapes Go.WideShapes Go.Joins Go.Deep

theorem cells_lockO : Tryz.prog.cellsOf 31 = 3 := by kernel_rfl
theorem cells_int_lo : Tryz.prog.cellsOf 3 = 1 := by kernel_rfl
theorem cells_ints_lo : Tryz.prog.cellsOf 27 = 1 := by kernel_rfl
theorem list3_lo {α : Type} {l : List α} (h : l.length = 3) : ∃ a b c, l = [a, b, c] := by
  match l, h with
  | [a, b, c], _ => exact ⟨a, b, c, rfl⟩
set_option maxRecDepth 100000 in
theorem trod_lockO {H : Type} {enc : TypeId × Value → H} {w : World} {fuel : Nat} {cs : List Value} {x : DataW H × List MemPlace} (hl : cs.length = 3) (h : DataW.trod enc Tryz.prog w 0 (fun _ => true) true fuel 31 cs = some x) : ∃ a : Lr, cs = csL a ∧ IntsAt w a.v a.wait ∧ (-9223372036854775808 ≤ a.id ∧ a.id ≤ 9223372036854775807) ∧ (-9223372036854775808 ≤ a.holder ∧ a.holder ≤ 9223372036854775807) ∧ ∀ t ∈ a.wait, -9223372036854775808 ≤ t ∧ t ≤ 9223372036854775807 := by
  obtain ⟨c0, c1, c2, rfl⟩ := list3_lo hl
  obtain ⟨y0, y1, y2, k, _, _, h0, h1, h2⟩ := trod_struct3 Tryz.underlying31 h
  simp only [cells_int_lo, cells_ints_lo, List.drop_zero, List.take_succ_cons, List.take_zero, List.drop_succ_cons] at h0 h1 h2
  obtain ⟨a, e0, _, wa⟩ := DataW.trod_int Tryz.underlying3 h0
  obtain ⟨b, e1, _, wb⟩ := DataW.trod_int Tryz.underlying3 h1
  obtain ⟨s, len, cap, l, e2, hr, _, hw⟩ := open_rows_good csI (fun n => -9223372036854775808 ≤ n ∧ n ≤ 9223372036854775807) Tryz.underlying27 cells_int_lo (by decide) (by
    intro n xs x _ hx
    obtain ⟨a, e0, _, wa⟩ := DataW.trod_int Tryz.underlying3 hx
    exact ⟨a, e0, bounds_i64 wa⟩) h2
  simp at e0 e1 e2
  subst e0 e1 e2
  obtain ⟨s', c', e3⟩ := RowsAt.form hr
  cases e3
  exact ⟨⟨a, b, s, cap, l⟩, rfl, RowsAt.ints hr, bounds_i64 wa, bounds_i64 wb, hw⟩
set_option maxRecDepth 100000 in
theorem open_locks {H : Type} {enc : TypeId × Value → H} {w : World} {base : Nat} {v : Value} {d : DataW H} {p : List MemPlace} (hok : Value.okWide Tryz.prog w .any base 22 v) (h : DataW.Trod enc Tryz.prog w 0 (fun _ => true) true 22 v d p) :
    ∃ l, LocksAt w v l ∧ l.length ≤ 9223372036854775807 ∧ ∀ a ∈ l, (-9223372036854775808 ≤ a.id ∧ a.id ≤ 9223372036854775807) ∧ (-9223372036854775808 ≤ a.holder ∧ a.holder ≤ 9223372036854775807) ∧ ∀ t ∈ a.wait, -9223372036854775808 ≤ t ∧ t ≤ 9223372036854775807 := by
  obtain ⟨l, h1, h2, h3⟩ := open_rows csL (fun a => IntsAt w a.v a.wait ∧ (-9223372036854775808 ≤ a.id ∧ a.id ≤ 9223372036854775807) ∧ (-9223372036854775808 ≤ a.holder ∧ a.holder ≤ 9223372036854775807) ∧ ∀ t ∈ a.wait, -9223372036854775808 ≤ t ∧ t ≤ 9223372036854775807) Tryz.underlying22 cells_lockO (by decide) (fun _ _ _ hl h => trod_lockO hl h) hok h
  exact ⟨l, ⟨h1, fun a ha => (h3 a ha).1⟩, h2, fun a ha => (h3 a ha).2⟩
end Go.Proofs.YtbkoogffnchldaaGreat
/- Lists of leases that come in, opened. -/
namespace Go.Proofs.YtbkoogffnchldaaGreat
open Go.RowKit Go.ChangeShapes Go.WideShapes Go.Joins Go.Deep

theorem cells_leaseO : Tryz.prog.cellsOf 29 = 7 := by kernel_rfl
theorem cells_int_le : Tryz.prog.cellsOf 3 = 1 := by kernel_rfl
theorem cells_ints_le : Tryz.prog.cellsOf 27 = 1 := by kernel_rfl
theorem list7_le {α : Type} {l : List α} (h : l.length = 7) : ∃ a b c d e f g, l = [a, b, c, d, e, f, g] := by
  match l, h with
  | [a, b, c, d, e, f, g], _ => exact ⟨a, b, c, d, e, f, g, rfl⟩
theorem trod_struct7 {P : Program} {H : Type} {enc : TypeId × Value → H} {w : World} {base : Nat} {spare : Nat → Bool} {held : Bool} {t : TypeId} {f0 f1 f2 f3 f4 f5 f6 : Field} {fuel : Nat} {cs : List Value} {x : DataW H × List MemPlace} (ht : P.underlying t = some (.struct #[f0, f1, f2, f3, f4, f5, f6])) (h : DataW.trod enc P w base spare held fuel t cs = some x) :
    ∃ y0 y1 y2 y3 y4 y5 y6 n, DataW.trod enc P w base spare held n f0.type ((cs.drop f0.offset).take (P.cellsOf f0.type)) = some y0 ∧
      DataW.trod enc P w base spare held n f1.type ((cs.drop f1.offset).take (P.cellsOf f1.type)) = some y1 ∧ DataW.trod enc P w base spare held n f2.type ((cs.drop f2.offset).take (P.cellsOf f2.type)) = some y2 ∧
      DataW.trod enc P w base spare held n f3.type ((cs.drop f3.offset).take (P.cellsOf f3.type)) = some y3 ∧ DataW.trod enc P w base spare held n f4.type ((cs.drop f4.offset).take (P.cellsOf f4.type)) = some y4 ∧
      DataW.trod enc P w base spare held n f5.type ((cs.drop f5.offset).take (P.cellsOf f5.type)) = some y5 ∧ DataW.trod enc P w base spare held n f6.type ((cs.drop f6.offset).take (P.cellsOf f6.type)) = some y6 := by
  obtain ⟨xs, n, _, rfl, hl, hlen, hf⟩ := DataW.trod_struct ht h
  match xs, hlen with
  | [y0, y1, y2, y3, y4, y5, y6], _ => exact ⟨y0, y1, y2, y3, y4, y5, y6, n, by simpa using hf 0 f0 rfl, by simpa using hf 1 f1 rfl, by simpa using hf 2 f2 rfl, by simpa using hf 3 f3 rfl, by simpa using hf 4 f4 rfl, by simpa using hf 5 f5 rfl, by simpa using hf 6 f6 rfl⟩
set_option maxRecDepth 100000 in
theorem trod_leaseO {H : Type} {enc : TypeId × Value → H} {w : World} {fuel : Nat} {cs : List Value} {x : DataW H × List MemPlace} (hl : cs.length = 7) (h : DataW.trod enc Tryz.prog w 0 (fun _ => true) true fuel 29 cs = some x) : ∃ a : Le, cs = csLe a ∧ IntsAt w a.v a.want ∧ (-9223372036854775808 ≤ a.token ∧ a.token ≤ 9223372036854775807) ∧ ∀ t ∈ a.want, -9223372036854775808 ≤ t ∧ t ≤ 9223372036854775807 := by
  obtain ⟨c0, c1, c2, c3, c4, c5, c6, rfl⟩ := list7_le hl
  obtain ⟨y0, y1, y2, y3, y4, y5, y6, k, h0, h1, h2, h3, h4, h5, h6⟩ := trod_struct7 Tryz.underlying29 h
  simp only [cells_int_le, cells_ints_le, List.drop_zero, List.take_succ_cons, List.take_zero, List.drop_succ_cons] at h0 h1 h2 h3 h4 h5 h6
  obtain ⟨a, e0, _, wa⟩ := DataW.trod_int Tryz.underlying3 h0
  obtain ⟨b, e1, _, _⟩ := DataW.trod_int Tryz.underlying3 h1
  obtain ⟨c, e2, _, _⟩ := DataW.trod_int Tryz.underlying3 h2
  obtain ⟨d, e3, _, _⟩ := DataW.trod_int Tryz.underlying3 h3
  obtain ⟨e, e4, _, _⟩ := DataW.trod_int Tryz.underlying3 h4
  obtain ⟨f, e5, _, _⟩ := DataW.trod_int Tryz.underlying3 h5
  obtain ⟨s, len, cap, l, e6, hr, _, hw⟩ := open_rows_good csI (fun n => -9223372036854775808 ≤ n ∧ n ≤ 9223372036854775807) Tryz.underlying27 cells_int_le (by decide) (by
    intro n xs x _ hx
    obtain ⟨a, e0, _, wa⟩ := DataW.trod_int Tryz.underlying3 hx
    exact ⟨a, e0, bounds_i64 wa⟩) h6
  simp at e0 e1 e2 e3 e4 e5 e6
  subst e0 e1 e2 e3 e4 e5 e6
  obtain ⟨s', c', e3⟩ := RowsAt.form hr
  cases e3
  exact ⟨⟨a, b, c, d, e, f, s, cap, l⟩, rfl, RowsAt.ints hr, bounds_i64 wa, hw⟩
set_option maxRecDepth 100000 in
theorem open_leases {H : Type} {enc : TypeId × Value → H} {w : World} {base : Nat} {v : Value} {d : DataW H} {p : List MemPlace} (hok : Value.okWide Tryz.prog w .any base 23 v) (h : DataW.Trod enc Tryz.prog w 0 (fun _ => true) true 23 v d p) :
    ∃ l, LeasesAt w v l ∧ l.length ≤ 9223372036854775807 ∧ ∀ a ∈ l, In18 a.token ∧ ∀ t ∈ a.want, In18 t := by
  obtain ⟨l, h1, h2, h3⟩ := open_rows csLe (fun a => IntsAt w a.v a.want ∧ (-9223372036854775808 ≤ a.token ∧ a.token ≤ 9223372036854775807) ∧ ∀ t ∈ a.want, -9223372036854775808 ≤ t ∧ t ≤ 9223372036854775807) Tryz.underlying23 cells_leaseO (by decide) (fun _ _ _ hl h => trod_leaseO hl h) hok h
  exact ⟨l, ⟨h1, fun a ha => (h3 a ha).1⟩, h2, fun a ha => (h3 a ha).2⟩
end Go.Proofs.YtbkoogffnchldaaGreat
/- Stage 20: what the proof of AislesLoads leans on. -/
namespace Go.Proofs.YtbkoogffnchldaaGreat
end Go.Proofs.YtbkoogffnchldaaGreat
