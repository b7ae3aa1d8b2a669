/- Texts of this proof, joined: AisLawD; OpenBss; OpenAct20; AisDoesAll. -/
import Derived.Test.YtieopbeimcmheaaBun16
import Derived.Deep.DeepCutAuto
import Derived.Lib.SmallJoins
import Derived.ChangeArms
import Derived.Deep.Strs
/- Stage 20: the document's table beside the program's; the law AislesDoes. -/
namespace Go.Proofs.Ytieopbeimcmheaa
open Go.RowKit

section
variable {w w1 w2 : World} {p : Value} {T Td : Tb} {bs : List Bes} {G G' : Nat → Prop} {vl vs v1 v2 : Value}
theorem SideG.doc {T' : Tb} (h : SideG tbObj w w1 p T (Bes.doc G vl vs Td :: bs)) (hb : Below w1.heap.size w1 w2) (h2 : DocAt G' w2 v1 v2 T') (hv : ∀ k, G' k → G k ∨ w1.heap.size ≤ k) : SideG tbObj w w2 p T (Bes.doc G' v1 v2 T' :: bs) := by
  obtain ⟨F, h0, h1, h2', h3⟩ := h
  refine ⟨F, tbObj.same h0 hb.size fun k hk => hb.block k (tbObj.lt h0 k hk), h1, fun x hx => ?_, h3.trans (hb.mono h3.size)⟩
  rcases List.mem_cons.1 hx with rfl | hx
  · refine ⟨h2, fun k hk hf => ?_⟩
    rcases hv k hk with hk2 | hk2
    · exact (h2' _ List.mem_cons_self).2 k hk2 hf
    · have := tbObj.lt h0 k hf
      omega
  · obtain ⟨k1, k2⟩ := h2' x (List.mem_cons_of_mem _ hx)
    exact ⟨x.same k1 hb.size fun k hk => hb.block k (x.lt k1 k hk), k2⟩
theorem SideG.sub20 {bs' : List Bes} (h : SideG tbObj w w1 p T bs) (hs : ∀ b ∈ bs', b ∈ bs) : SideG tbObj w w1 p T bs' := by
  obtain ⟨F, h0, h1, h2, h3⟩ := h
  exact ⟨F, h0, h1, fun b hb => h2 b (hs b hb), h3⟩
theorem SideG.at {σ : Type} {C : ObjK σ} {q : σ} (h : SideG C w w1 p q bs) {b : Bes} (hb : b ∈ bs) : b.holds w1 := by
  obtain ⟨F, _, _, h2, _⟩ := h
  exact (h2 b hb).1
theorem dEnter (h : SideG tbObj w w1 p T (Bes.doc G vl vs Td :: bs)) (hok : Td.Ok) (t : Int) (ht : In18 t) (va : Value) (l : List Int) (hi : IntsAt w1 va l) (hl : l.length ≤ 1000) : Calls Try.prog 11 #[tbv vl vs, .int .i64 t, va] w1 fun e w' => ∃ x1 n1 c1 x2 n2 c2, e = .returned (.tuple #[tbv (.slice x1 n1 c1) (.slice x2 n2 c2), .int .i64 (Td.enterE t l)]) ∧ ∃ G', SideG tbObj w w' p T (Bes.doc G' (.slice x1 n1 c1) (.slice x2 n2 c2) (Td.enter t l) :: bs) ∧ (∀ k, G' k → G k ∨ w1.heap.size ≤ k) := by
  refine (refEnter20_any t va l h.head hok hi hl ht).mono ?_
  rintro e w' ⟨v1, v2, rfl, G', h1, h2, h3⟩
  obtain ⟨a1, c1, a2, c2, rfl, rfl⟩ := h1.form
  exact ⟨_, _, _, _, _, _, rfl, G', h.doc h3 h1 h2, h2⟩
theorem dLeave (h : SideG tbObj w w1 p T (Bes.doc G vl vs Td :: bs)) (hok : Td.Ok) (t : Int) : Calls Try.prog 13 #[tbv vl vs, .int .i64 t] w1 fun e w' => ∃ x1 n1 c1 x2 n2 c2, e = .returned (.tuple #[tbv (.slice x1 n1 c1) (.slice x2 n2 c2), .bool (decide (t ∈ Td.toks))]) ∧ ∃ G', SideG tbObj w w' p T (Bes.doc G' (.slice x1 n1 c1) (.slice x2 n2 c2) (Td.leave t) :: bs) ∧ (∀ k, G' k → G k ∨ w1.heap.size ≤ k) := by
  refine (refLeave20_any t h.head hok).mono ?_
  rintro e w' ⟨v1, v2, rfl, G', h1, h2, h3⟩
  obtain ⟨a1, c1, a2, c2, rfl, rfl⟩ := h1.form
  exact ⟨_, _, _, _, _, _, rfl, G', h.doc h3 h1 h2, h2⟩
theorem dScan (h : SideG tbObj w w1 p T (Bes.doc G vl vs Td :: bs)) (hok : Td.Ok) : Calls Try.prog 15 #[tbv vl vs] w1 fun e w' => ∃ x1 n1 c1 x2 n2 c2 vg, e = .returned (.tuple #[tbv (.slice x1 n1 c1) (.slice x2 n2 c2), vg]) ∧ RowsAt w' 2 csG vg Td.scan.2 ∧ (∀ k, vg.ownBlock = some k → w1.heap.size ≤ k) ∧ Below w1.heap.size w1 w' ∧ ∃ G', SideG tbObj w w' p T (Bes.doc G' (.slice x1 n1 c1) (.slice x2 n2 c2) Td.scan.1 :: bs) ∧ (∀ k, G' k → G k ∨ w1.heap.size ≤ k) := by
  refine (refScan20_any h.head hok).mono ?_
  rintro e w' ⟨v1, v2, vg, rfl, h4, h5, G', h1, h2, h3⟩
  obtain ⟨a1, c1, a2, c2, rfl, rfl⟩ := h1.form
  exact ⟨_, _, _, _, _, _, vg, rfl, h4, h5, h3, G', h.doc h3 h1 h2, h2⟩
theorem dWrite {b : Nat} {x y : Value} (h : SideG tbObj w w1 p T (Bes.doc G v1 v2 Td :: Bes.blk b x [y] :: bs)) (hb : w.heap.size ≤ b) (hG : ¬ G b) (ho : ∀ s ∈ bs, ¬ s.foot b) (a c : Value) : SideG tbObj w ((w1.setCell ⟨b, 0, none⟩ a).setCell ⟨b, 1, none⟩ c) p T (Bes.doc G v1 v2 Td :: Bes.blk b a [c] :: bs) := by
  have hoff : ∀ s ∈ Bes.doc G v1 v2 Td :: bs, ¬ s.foot b := fun s hm => by
    rcases List.mem_cons.1 hm with rfl | hm
    · exact hG
    · exact ho s hm
  exact ((h.swap.write hb hoff 0 a a [y] rfl).write hb hoff 1 c a [c] rfl).swap
theorem SideG.lt {b : Bes} (h : SideG tbObj w w1 p T bs) (hm : b ∈ bs) : ∀ k, b.foot k → k < w1.heap.size := fun k hk => b.lt (h.at hm) k hk
theorem sSame (h : SideG tbObj w w1 p T (Bes.doc G vl vs T :: bs)) : Calls Try.prog 18 #[p, tbv vl vs] w1 fun e w' => e = .returned (.bool true) ∧ Below w1.heap.size w1 w' := by
  have hd := h.head
  obtain ⟨F, h0, _⟩ := h
  exact same20_any h0 hd
theorem sSeated {x1 : Option Addr} {n1 c1 : Nat} (h : SideG tbObj w w1 p T (Bes.doc G (.slice x1 n1 c1) vs Td :: bs)) (hok : Td.Ok) (t : Int) : Calls Try.prog 17 #[tbv (.slice x1 n1 c1) vs, .int .i64 t] w1 fun e w' => e = .returned (.int .i64 (plcL Td.toks t)) ∧ Below w1.heap.size w1 w' := by
  obtain ⟨Ls, Ss, hd⟩ := h.head
  rw [← sts_toks hd.se]
  exact refSeated20_any x1 n1 c1 vs Ss t w1 hd.seats.rows (by have := sts_len hd.se; have := hok.few; omega)
theorem doc_form {x : Option Addr} {n c : Nat} {t : Int} (h : DocAt G w vl (.slice x n c) T) (ht : t ∈ T.toks) : (∃ g o, x = some ⟨g, o, none⟩) ∧ T.toks.idxOf t < n := by
  obtain ⟨Ls, Ss, hd⟩ := h
  have hi := List.idxOf_lt_length_iff.2 ht
  have hl := sts_len hd.se
  obtain ⟨g, o, cc, e, _⟩ := hd.seats.rows.atS (T.toks.idxOf t) (by omega)
  cases e
  exact ⟨⟨g, o, rfl⟩, by omega⟩
theorem doc_cells {g o n c : Nat} {t : Int} (h : DocAt G w vl (.slice (some ⟨g, o, none⟩) n c) T) (ht : t ∈ T.toks) : w.cell? ⟨g, o + T.toks.idxOf t * 3 + 1, none⟩ = some (.int .i64 (T.got t : Int)) ∧ ∃ a cc, w.cell? ⟨g, o + T.toks.idxOf t * 3 + 2, none⟩ = some (.slice a (T.want t).length cc) := by
  obtain ⟨Ls, Ss, hd⟩ := h
  have hi := List.idxOf_lt_length_iff.2 ht
  have hl := sts_len hd.se
  obtain ⟨g', o', cc, e, _, _, q0, q1, q2⟩ := hd.seats.rows.atS (T.toks.idxOf t) (by omega)
  cases e
  have hs := sts_at hd.se (T.toks.idxOf t) (by omega) hi
  rw [List.getElem_idxOf hi] at hs
  simp only [stp, Prod.mk.injEq] at hs
  rw [hs.2.1] at q1
  refine ⟨q1, Ss[T.toks.idxOf t].a, Ss[T.toks.idxOf t].c, ?_⟩
  rw [← hs.2.2]
  exact q2
theorem rows_write {α : Type} {K : Nat} {cs : α → List Value} {v : Value} {l : List α} {b : Nat} (h : RowsAt w K cs v l) (hn : ∀ k, v.ownBlock = some k → k ≠ b) (a c : Value) : RowsAt ((w.setCell ⟨b, 0, none⟩ a).setCell ⟨b, 1, none⟩ c) K cs v l :=
  h.same (by simp [World.setCell]) fun _ k hk => (Below.heap_setCell _ _ _ _ (fun e => hn k hk e)).trans (Below.heap_setCell _ _ _ _ (fun e => hn k hk e))
end
theorem size_alloc20 (w : World) (o : Obj) : (w.alloc o).heap.size = w.heap.size + 1 := by simp
theorem step_len (T : Tb) (id : Int) : (T.step id).2.length ≤ 1 := by
  rcases step_cases T id with h | ⟨t, r, h0, hw⟩
  · rw [step_none h]; simp
  · rw [step_some h0 hw]; simp
theorem scanL_len (T : Tb) : ∀ l : List Int, (T.scanL l).2.length ≤ l.length := by
  refine snoc_ind (by simp [Tb.scanL]) fun l x ih => ?_
  rw [scanL_snoc]
  have := step_len (T.scanL l).1 x
  simp only [List.length_append, List.length_singleton]
  omega
theorem scan_len {T : Tb} (h : T.Ok) : T.scan.2.length ≤ 64 := by
  have h1 := scanL_len T T.ids
  have h2 := may_len h.may
  show (T.scanL T.ids).2.length ≤ 64
  omega
theorem few_all {l : List Ac} {m : Int} (h : fewB l m = true) : (l.length : Int) ≤ m ∧ ∀ x ∈ l, x.want.length ≤ 40 := by
  unfold fewB at h
  simp only [Bool.and_eq_true, decide_eq_true_eq, List.all_eq_true] at h
  exact h

set_option maxHeartbeats 32000000 in
set_option maxRecDepth 100000 in
theorem aislesDoes_any (va vl : Value) (ids : List Int) (l : List Ac) (w : World) (ha : IntsAt w va ids) (hl : ActsAt w vl l) (hg : ∀ a ∈ l, In18 a.token) :
    Calls Try.prog 3 #[va, vl] w fun e w' => e = .returned (.bool true) ∧ Below w.heap.size w w' := by
  have HAL := Lib.hid fun w => alive20_any w
  have HFW := Lib.hid (refFew20_any vl l 80 w hl.rows (by omega))
  have HA := Lib.hid ha
  have HL := Lib.hid hl
  have HG := Lib.hid hg
  obtain ⟨a1, c1, rfl⟩ := ha.form
  obtain ⟨a2, c2, rfl⟩ := RowsAt.form hl.rows
  clear ha hl hg
  by_cases h40 : ids.length ≤ 40
  · have g1 : ¬ (40 : Int) < (ids.length : Int) := by omega
    cases hfw : fewB l 80 with
    | false =>
      rw [hfw] at HFW
      go_enter Try.func3, Try.ntmps3
      go_wp2_with (first
        | (go_at_call 6; (with_reducible refine HFW.out.mono ?_); rintro e w1 ⟨rfl, hb1⟩)
        | (go_at_call 7; (with_reducible refine (HAL.out _).mono ?_); rintro e w5 ⟨rfl, hb⟩))
      go_ret
      exact ⟨rfl, hb1.trans (hb.mono hb1.size)⟩
    | true =>
      rw [hfw] at HFW
      have HFE := Lib.hid (few_all hfw)
      cases hmb : mayB ids with
      | false =>
        have HN := Lib.hid fun w1 (hb : Below w.heap.size w w1) => tNewNo_any _ ids w1 (HA.out.below hb) (by omega) hmb
        have HR := Lib.hid fun w1 (hb : Below w.heap.size w w1) => refNew20_any _ ids w1 (HA.out.below hb) (by omega)
        simp only [hmb, Bool.false_eq_true, if_false] at HR
        clear hmb hfw
        go_enter Try.func3, Try.ntmps3
        go_wp2_with (first
          | (go_at_call 6; (with_reducible refine HFW.out.mono ?_); rintro e w1 ⟨rfl, hb1⟩; have HB1 := Lib.hid hb1; clear hb1)
          | (go_at_call 8; (with_reducible refine (HN.out _ HB1.out).mono ?_); rintro e w2 ⟨rfl, hb2⟩; have HB2 := Lib.hid (HB1.out.trans (hb2.mono HB1.out.size)); clear hb2)
          | (go_at_call 9; (with_reducible refine (HR.out _ HB2.out).mono ?_); rintro e w3 ⟨_, _, rfl, ⟨x1, y1, z1, rfl⟩, ⟨x2, y2, z2, rfl⟩, _, hb3⟩; have HB3 := Lib.hid (HB2.out.trans (hb3.mono HB2.out.size)); clear hb3)
          | (go_at_call 7; (with_reducible refine (HAL.out _).mono ?_); rintro e w5 ⟨rfl, hb⟩))
        go_ret
        have hb4 := HB3.out.alloc HB3.out.size (.cells #[.slice x1 y1 z1, .slice x2 y2 z2] 33)
        exact ⟨rfl, hb4.trans (hb.mono hb4.size)⟩
      | true =>
        have HN := Lib.hid fun w1 (hb : Below w.heap.size w w1) => sNew (w := w) hb _ ids (HA.out.below hb) hmb
        have HR := Lib.hid fun w1 (hb : Below w.heap.size w w1) => refNew20_any _ ids w1 (HA.out.below hb) (by omega)
        simp only [hmb, if_true, true_imp_iff] at HR
        clear hmb hfw
        go_enter Try.func3, Try.ntmps3
        go_wp2_with (first
          | (go_at_call 6; (with_reducible refine HFW.out.mono ?_); rintro e w1 ⟨rfl, hb1⟩; have HB1 := Lib.hid hb1; clear hb1)
          | (go_at_call 8; (with_reducible refine (HN.out _ HB1.out).mono ?_); rintro e w2 ⟨pb, rfl, hs⟩; have S0 := Lib.hid hs; clear hs)
          | (go_at_call 9; (with_reducible refine (HR.out _ (SideG.below S0.out)).mono ?_); rintro e w3 ⟨_, _, rfl, ⟨x1, y1, z1, rfl⟩, ⟨x2, y2, z2, rfl⟩, ⟨G0, hd, hG0⟩, hb3⟩; have S1 := Lib.hid (SideG.add S0.out hb3 (Bes.doc G0 _ _ _) hd hG0); clear hb3 hd hG0))
        obtain ⟨b, hb⟩ : ∃ b, w3.heap.size = b := ⟨_, rfl⟩
        have HBW := Lib.hid (show w.heap.size ≤ b by rw [← hb]; exact (SideG.below S1.out).size)
        have S2 := Lib.hid (SideG.swap (SideG.new S1.out (.slice x1 y1 z1) [.slice x2 y2 z2] 33))
        have HG2 := Lib.hid (show ¬ G0 b from fun h => by have := SideG.lt S1.out (b := Bes.doc G0 (.slice x1 y1 z1) (.slice x2 y2 z2) (Tb.new ids)) (by simp) b h; omega)
        rw [hb] at S2
        have HB1' := Lib.hid hb
        rw [hb]
        clear hb S0 S1
        go_loopg [55] l.length (fun kx kv wr => ∃ (k : Nat) (T : Tb) (G : Nat → Prop) (x1 : Option Addr) (y1 z1 : Nat) (x2 : Option Addr) (y2 z2 : Nat), k ≤ l.length ∧ l.length - k ≤ kx ∧ kv = .int .i64 k ∧ Hid (SideG tbObj w wr (ptr18 pb) T [Bes.doc G (.slice x1 y1 z1) (.slice x2 y2 z2) T, Bes.blk b (.slice x1 y1 z1) [.slice x2 y2 z2]]) ∧ Hid (¬ G b))
        case atStart => exact ⟨0, Tb.new ids, G0, x1, y1, z1, x2, y2, z2, Nat.zero_le _, Nat.le_refl _, rfl, S2.out, HG2.out⟩
        case round =>
          clear S2 HG2
          obtain ⟨k, T, G, x1, y1, z1, x2, y2, z2, hk, hkx, rfl, HS, HNG⟩ := hrel
          by_cases hlt : k < l.length
          · have HLT := Lib.hid hlt
            have K0 : (0 : Int) ≤ (k : Int) := by omega
            have K1 : (k : Int) < (l.length : Int) := by omega
            have K2 : (k : Int) ≤ 80 := by have := HFE.out.1; omega
            have HWL := Lib.hid (HFE.out.2 _ (List.getElem_mem hlt))
            have HWI := Lib.hid (HL.out.each _ (List.getElem_mem hlt))
            obtain ⟨g, o, _, e, _, _, p0, p1, p2⟩ := RowsAt.atA (RowsAt.kept HL.out.rows (SideG.below HS.out)) k hlt
            cases e
            have hy := HG.out _ (List.getElem_mem hlt)
            obtain ⟨⟨kk, t, xa, xc, xw⟩, har⟩ : ∃ r, l[k]'hlt = r := ⟨_, rfl⟩
            rw [har] at p0 p1 p2 hy HWL HWI
            simp only at p0 p1 p2 hy HWL HWI
            have HY := Lib.hid hy
            obtain ⟨xn, hxn⟩ : ∃ n, xw.length = n := ⟨_, rfl⟩
            replace HWI : Hid (IntsAt w (.slice xa xw.length xc) xw) := HWI
            change _ = some (Value.slice xa xw.length xc) at p2
            rw [hxn] at p2 HWI HWL
            have HOK := Lib.hid (SideG.ok HS.out)
            have HBL := Lib.hid (show b < wr.heap.size from SideG.lt HS.out (b := Bes.blk b (.slice x1 y1 z1) [.slice x2 y2 z2]) (by simp) b rfl)
            have SB := Lib.hid (SideG.sub20 (bs' := [Bes.doc G (.slice x1 y1 z1) (.slice x2 y2 z2) T, Bes.blk b (.slice x1 y1 z1) [.slice x2 y2 z2], Bes.blk wr.heap.size (.int .i64 kk) [.int .i64 t, .slice xa xn xc]]) (SideG.new HS.out (.int .i64 kk) [.int .i64 t, .slice xa xn xc] 37) (by simp))
            have HXN := Lib.hid hxn
            clear hy har hk hxn
            go_upto_block 2 with fail
            go_cut [] (fun wx => ∃ (T : Tb) (G : Nat → Prop) (x1 : Option Addr) (y1 z1 : Nat) (x2 : Option Addr) (y2 z2 : Nat), Hid (SideG tbObj w wx (ptr18 pb) T [Bes.doc G (.slice x1 y1 z1) (.slice x2 y2 z2) T, Bes.blk b (.slice x1 y1 z1) [.slice x2 y2 z2], Bes.blk wr.heap.size (.int .i64 kk) [.int .i64 t, .slice xa xn xc]]) ∧ Hid (¬ G b))
            case first =>
              by_cases f1 : kk = 1
              · subst f1
                have P := Lib.hid (sEnter SB.out t HY.out (.slice xa xn xc) xw (HWI.out.below (SideG.below SB.out)) (by have := HWL.out; have := HXN.out; omega))
                have HR := Lib.hid fun w1 (hs : SideG tbObj w w1 (ptr18 pb) (T.enter t xw) [Bes.doc G (.slice x1 y1 z1) (.slice x2 y2 z2) T, Bes.blk b (.slice x1 y1 z1) [.slice x2 y2 z2], Bes.blk wr.heap.size (.int .i64 1) [.int .i64 t, .slice xa xn xc]]) => dEnter hs HOK.out t HY.out (.slice xa xn xc) xw (HWI.out.below (SideG.below hs)) (by have := HWL.out; have := HXN.out; omega)
                obtain ⟨er, her⟩ : ∃ er, T.enterE t xw = er := ⟨_, rfl⟩
                obtain ⟨T2, hT2⟩ : ∃ T2, T.enter t xw = T2 := ⟨_, rfl⟩
                rw [her, hT2] at P HR
                clear her hT2
                go_wp2_with (first
                  | (go_at_call 10; (with_reducible refine P.out.mono ?_); rintro e w3 ⟨rfl, hs⟩; have SS := Lib.hid hs; have q0 := Blk.cell (vs := [.slice x1 y1 z1, .slice x2 y2 z2]) (SideG.head (SideG.less SS.out)) 0 rfl; have q1 := Blk.cell (vs := [.slice x1 y1 z1, .slice x2 y2 z2]) (SideG.head (SideG.less SS.out)) 1 rfl; have r1 := Blk.cell (vs := [.int .i64 1, .int .i64 t, .slice xa xn xc]) (SideG.head (SideG.less (SideG.less SS.out))) 1 rfl; have r2 := Blk.cell (vs := [.int .i64 1, .int .i64 t, .slice xa xn xc]) (SideG.head (SideG.less (SideG.less SS.out))) 2 rfl; clear hs)
                  | (go_at_call 11; (with_reducible refine (HR.out _ SS.out).mono ?_); rintro e w4 ⟨x3, y3, z3, x4, y4, z4, rfl, G', hs, hg⟩; have ST := Lib.hid hs; have HG' := Lib.hid (show ¬ G' b from fun h => by rcases hg b h with h | h; { exact HNG.out h }; { have := SideG.lt SS.out (b := Bes.blk b (.slice x1 y1 z1) [.slice x2 y2 z2]) (by simp) b rfl; omega }); clear hs hg q0 q1 r1 r2; have s0 := Blk.cell (vs := [.slice x1 y1 z1, .slice x2 y2 z2]) (SideG.head (SideG.less ST.out)) 0 rfl; have s1 := Blk.cell (vs := [.slice x1 y1 z1, .slice x2 y2 z2]) (SideG.head (SideG.less ST.out)) 1 rfl; have z0 := Blk.free (vs := [.slice x1 y1 z1, .slice x2 y2 z2]) (SideG.head (SideG.less ST.out)) 0 rfl; have z1 := Blk.free (vs := [.slice x1 y1 z1, .slice x2 y2 z2]) (SideG.head (SideG.less ST.out)) 1 rfl))
                go_meet
                exact ⟨T2, G', x3, y3, z3, x4, y4, z4, dWrite ST.out HBW.out HG'.out (by intro s hs hf; have e0 : s = Bes.blk wr.heap.size (.int .i64 1) [.int .i64 t, .slice xa xn xc] := (by simpa using hs); subst e0; have e : b = wr.heap.size := hf; have := HBL.out; omega) (.slice x3 y3 z3) (.slice x4 y4 z4), HG'.out⟩
              · have f1b : (kk == 1) = false := beq_noI f1
                by_cases f2 : kk = 2
                · subst f2
                  clear f1 f1b
                  have P := Lib.hid (sLeave SB.out t HY.out)
                  have HR := Lib.hid fun w1 (hs : SideG tbObj w w1 (ptr18 pb) (T.leave t) [Bes.doc G (.slice x1 y1 z1) (.slice x2 y2 z2) T, Bes.blk b (.slice x1 y1 z1) [.slice x2 y2 z2], Bes.blk wr.heap.size (.int .i64 2) [.int .i64 t, .slice xa xn xc]]) => dLeave hs HOK.out t
                  obtain ⟨er, her⟩ : ∃ er, decide (t ∈ T.toks) = er := ⟨_, rfl⟩
                  obtain ⟨T2, hT2⟩ : ∃ T2, T.leave t = T2 := ⟨_, rfl⟩
                  rw [her, hT2] at P HR
                  clear her hT2
                  go_wp2_with (first
                    | (go_at_call 12; (with_reducible refine P.out.mono ?_); rintro e w3 ⟨rfl, hs⟩; have SS := Lib.hid hs; have q0 := Blk.cell (vs := [.slice x1 y1 z1, .slice x2 y2 z2]) (SideG.head (SideG.less SS.out)) 0 rfl; have q1 := Blk.cell (vs := [.slice x1 y1 z1, .slice x2 y2 z2]) (SideG.head (SideG.less SS.out)) 1 rfl; have r1 := Blk.cell (vs := [.int .i64 2, .int .i64 t, .slice xa xn xc]) (SideG.head (SideG.less (SideG.less SS.out))) 1 rfl; clear hs)
                    | (go_at_call 13; (with_reducible refine (HR.out _ SS.out).mono ?_); rintro e w4 ⟨x3, y3, z3, x4, y4, z4, rfl, G', hs, hg⟩; have ST := Lib.hid hs; have HG' := Lib.hid (show ¬ G' b from fun h => by rcases hg b h with h | h; { exact HNG.out h }; { have := SideG.lt SS.out (b := Bes.blk b (.slice x1 y1 z1) [.slice x2 y2 z2]) (by simp) b rfl; omega }); clear hs hg q0 q1 r1; have s0 := Blk.cell (vs := [.slice x1 y1 z1, .slice x2 y2 z2]) (SideG.head (SideG.less ST.out)) 0 rfl; have s1 := Blk.cell (vs := [.slice x1 y1 z1, .slice x2 y2 z2]) (SideG.head (SideG.less ST.out)) 1 rfl; have z0 := Blk.free (vs := [.slice x1 y1 z1, .slice x2 y2 z2]) (SideG.head (SideG.less ST.out)) 0 rfl; have z1 := Blk.free (vs := [.slice x1 y1 z1, .slice x2 y2 z2]) (SideG.head (SideG.less ST.out)) 1 rfl))
                  go_meet
                  exact ⟨T2, G', x3, y3, z3, x4, y4, z4, dWrite ST.out HBW.out HG'.out (by intro s hs hf; have e0 : s = Bes.blk wr.heap.size (.int .i64 2) [.int .i64 t, .slice xa xn xc] := (by simpa using hs); subst e0; have e : b = wr.heap.size := hf; have := HBL.out; omega) (.slice x3 y3 z3) (.slice x4 y4 z4), HG'.out⟩
                · have f2b : (kk == 2) = false := beq_noI f2
                  by_cases f3 : kk = 3
                  · subst f3
                    clear f1 f1b f2 f2b
                    have P := Lib.hid (sScan SB.out)
                    have HR := Lib.hid fun w1 (hs : SideG tbObj w w1 (ptr18 pb) T.scan.1 [Bes.doc G (.slice x1 y1 z1) (.slice x2 y2 z2) T, Bes.blk b (.slice x1 y1 z1) [.slice x2 y2 z2], Bes.blk wr.heap.size (.int .i64 3) [.int .i64 t, .slice xa xn xc]]) => dScan hs HOK.out
                    obtain ⟨D, hD⟩ : ∃ D, T.scan.2 = D := ⟨_, rfl⟩
                    obtain ⟨T2, hT2⟩ : ∃ T2, T.scan.1 = T2 := ⟨_, rfl⟩
                    have hDL : D.length ≤ 64 := by rw [← hD]; exact scan_len HOK.out
                    rw [hD, hT2] at P HR
                    clear hD hT2
                    obtain ⟨dn, hdn⟩ : ∃ dn, D.length = dn := ⟨_, rfl⟩
                    rw [hdn] at hDL
                    have HDN := Lib.hid hdn
                    have HDL := Lib.hid hDL
                    clear hdn hDL
                    go_wp2_with (first
                      | (go_at_call 14; (with_reducible refine P.out.mono ?_); rintro e w3 ⟨vg, rfl, hv, hvn, hs⟩; obtain ⟨ga, gc, hvf⟩ := RowsAt.form hv; rw [HDN.out] at hvf; subst hvf; have SS := Lib.hid hs; have HV := Lib.hid hv; have HVN := Lib.hid hvn; have q0 := Blk.cell (vs := [.slice x1 y1 z1, .slice x2 y2 z2]) (SideG.head (SideG.less SS.out)) 0 rfl; have q1 := Blk.cell (vs := [.slice x1 y1 z1, .slice x2 y2 z2]) (SideG.head (SideG.less SS.out)) 1 rfl; have r1 := Blk.cell (vs := [.int .i64 3, .int .i64 t, .slice xa xn xc]) (SideG.head (SideG.less (SideG.less SS.out))) 1 rfl; clear hs hv hvn)
                      | (go_at_call 15; (with_reducible refine (HR.out _ SS.out).mono ?_); rintro e w4 ⟨x3, y3, z3, x4, y4, z4, vh, rfl, hu, hun, hb4, G', hs, hg⟩; obtain ⟨ha, hc, huf⟩ := RowsAt.form hu; rw [HDN.out] at huf; subst huf; have ST := Lib.hid (hs.kept ((Below.refl _ _).alloc (Nat.le_refl _) (.cells #[.slice x3 y3 z3, .slice x4 y4 z4] 33))); have HU := Lib.hid (RowsAt.kept hu ((Below.refl _ _).alloc (Nat.le_refl _) (.cells #[.slice x3 y3 z3, .slice x4 y4 z4] 33))); have HV4 := Lib.hid (RowsAt.kept (RowsAt.kept HV.out hb4) ((Below.refl _ _).alloc (Nat.le_refl _) (.cells #[.slice x3 y3 z3, .slice x4 y4 z4] 33))); have HUN := Lib.hid hun; have HG' := Lib.hid (show ¬ G' b from fun h => by rcases hg b h with h | h; { exact HNG.out h }; { have := SideG.lt SS.out (b := Bes.blk b (.slice x1 y1 z1) [.slice x2 y2 z2]) (by simp) b rfl; omega }); clear hs hg q0 q1 r1 hu hun hb4; have s0 := Blk.cell (vs := [.slice x1 y1 z1, .slice x2 y2 z2]) (SideG.head (SideG.less ST.out)) 0 rfl; have s1 := Blk.cell (vs := [.slice x1 y1 z1, .slice x2 y2 z2]) (SideG.head (SideG.less ST.out)) 1 rfl; have fz0 := Blk.free (vs := [.slice x1 y1 z1, .slice x2 y2 z2]) (SideG.head (SideG.less ST.out)) 0 rfl; have fz1 := Blk.free (vs := [.slice x1 y1 z1, .slice x2 y2 z2]) (SideG.head (SideG.less ST.out)) 1 rfl))
                    have SX := Lib.hid (dWrite ST.out HBW.out HG'.out (by intro s hs hf; have e0 : s = Bes.blk wr.heap.size (.int .i64 3) [.int .i64 t, .slice xa xn xc] := (by simpa using hs); subst e0; have e : b = wr.heap.size := hf; have := HBL.out; omega) (.slice x3 y3 z3) (.slice x4 y4 z4))
                    have HVX := Lib.hid (rows_write HV4.out (b := b) (fun k hk => by have h9 := HVN.out k hk; rw [size_alloc20] at h9; have := HBL.out; omega) (.slice x3 y3 z3) (.slice x4 y4 z4))
                    have HUX := Lib.hid (rows_write HU.out (b := b) (fun k hk => by have := HUN.out k hk; have := SideG.lt SS.out (b := Bes.blk b (.slice x1 y1 z1) [.slice x2 y2 z2]) (by simp) b rfl; omega) (.slice x3 y3 z3) (.slice x4 y4 z4))
                    clear HV HU HV4 HVN HUN ST SS s0 s1 fz0 fz1 P HR SB HS
                    generalize ((w4.alloc (.cells #[.slice x3 y3 z3, .slice x4 y4 z4] 33)).setCell ⟨b, 0, none⟩ (.slice x3 y3 z3)).setCell ⟨b, 1, none⟩ (.slice x4 y4 z4) = W9 at *
                    have hB9 := Below.refl W9.heap.size W9
                    go_loopg [114] dn (fun kx iv ws => ∃ i : Nat, i ≤ dn ∧ dn - i ≤ kx ∧ iv = .int .i64 i ∧ Below W9.heap.size W9 ws)
                    case atStart => exact ⟨0, Nat.zero_le _, Nat.le_refl _, rfl, hB9⟩
                    case round =>
                      obtain ⟨i, hi, hix, rfl, hbr⟩ := hrel
                      have HBR := Lib.hid hbr
                      by_cases hit : i < dn
                      · have hil : i < D.length := by rw [HDN.out]; exact hit
                        obtain ⟨g1', o1, cc1, e1, _, _, xg⟩ := (RowsAt.kept HVX.out hbr).spot i hil
                        obtain ⟨g2', o2, cc2, e2, _, _, xh⟩ := (RowsAt.kept HUX.out hbr).spot i hil
                        rw [HDN.out] at e1 e2
                        cases e1
                        cases e2
                        have m0 := xg 0 (.int .i64 (D[i]'hil).1) rfl
                        have m1 := xg 1 (.int .i64 (D[i]'hil).2) rfl
                        have n0 := xh 0 (.int .i64 (D[i]'hil).1) rfl
                        have n1 := xh 1 (.int .i64 (D[i]'hil).2) rfl
                        simp only [Nat.add_zero] at m0 m1 n0 n1
                        generalize (D[i]'hil).1 = d1 at *
                        generalize (D[i]'hil).2 = d2 at *
                        have I0 : (0 : Int) ≤ (i : Int) := by omega
                        have I1 : (i : Int) < (dn : Int) := by omega
                        have I2 : (i : Int) ≤ 64 := by have := HDL.out; omega
                        have HIT := Lib.hid (And.intro hit hix)
                        clear xg xh hi hix hil hit hbr
                        go_upto_region 32 with (fail)
                        refine wp_region_calm0 (by kernel_rfl) (by kernel_rfl) fun M => ?_
                        have em0 := fun n : In M.w => n.cell (M.cell m0)
                        have em1 := fun n : In M.w => n.cell (M.cell m1)
                        have en0 := fun n : In M.w => n.cell (M.cell n0)
                        have en1 := fun n : In M.w => n.cell (M.cell n1)
                        repeat (go_big_quiet_step (fail))
                        refine wpQuiet_nil ?_
                        intro w8 hb8
                        have HB8 := Lib.hid (HBR.out.trans (hb8.mono HBR.out.size))
                        clear em0 em1 en0 en1 M hb8 m0 m1 n0 n1
                        go_wp2
                        go_roundg (dn - (i + 1))
                        case measure => have := HIT.out; omega
                        case rel => exact ⟨i + 1, by have := HIT.out; omega, Nat.le_refl _, by go_num, HB8.out⟩
                      · have I1 : ¬ (i : Int) < (dn : Int) := by omega
                        have SY := Lib.hid (SX.out.kept hbr)
                        clear hi hix hit hbr
                        go_wp2
                        go_meet
                        exact ⟨T2, G', x3, y3, z3, x4, y4, z4, SY.out, HG'.out⟩
                  · have f3b : (kk == 3) = false := beq_noI f3
                    go_wp2
                    go_meet
                    exact ⟨T, G, x1, y1, z1, x2, y2, z2, SB.out, HNG.out⟩
            case rest =>
              clear SB HS HNG p0 p1 p2 HOK HWL HWI HXN
              obtain ⟨T, G, x1, y1, z1, x2, y2, z2, HS, HNG⟩ := hcut
              have I0 : I64 t := HY.out
              have HGT := Lib.hid (sGot HS.out t I0)
              have HSE := Lib.hid fun w1 (hs : SideG tbObj w w1 (ptr18 pb) T [Bes.doc G (.slice x1 y1 z1) (.slice x2 y2 z2) T, Bes.blk b (.slice x1 y1 z1) [.slice x2 y2 z2], Bes.blk wr.heap.size (.int .i64 kk) [.int .i64 t, .slice xa xn xc]]) => sSeated hs hs.ok t
              clear I0
              have c0 := Blk.cell (vs := [.slice x1 y1 z1, .slice x2 y2 z2]) (SideG.head (SideG.less HS.out)) 0 rfl
              by_cases ht : t ∈ T.toks
              · obtain ⟨⟨g, o, hx2⟩, hj⟩ := doc_form (SideG.head HS.out) ht
                subst hx2
                have hC := Lib.hid fun w1 (hs : SideG tbObj w w1 (ptr18 pb) T [Bes.doc G (.slice x1 y1 z1) (.slice (some ⟨g, o, none⟩) y2 z2) T, Bes.blk b (.slice x1 y1 z1) [.slice (some ⟨g, o, none⟩) y2 z2], Bes.blk wr.heap.size (.int .i64 kk) [.int .i64 t, .slice xa xn xc]]) => doc_cells (SideG.head hs) ht
                have hpl := (plc_at ht).1
                rw [hpl] at HSE
                have hgr : gotR T t = ((T.got t : Int), ((T.want t).length : Int)) := if_pos ht
                rw [hgr, decide_eq_true ht] at HGT
                have hj64 : T.toks.idxOf t < 64 := Nat.lt_of_lt_of_le (List.idxOf_lt_length_iff.2 ht) (SideG.ok HS.out).few
                obtain ⟨j, hjj⟩ : ∃ j, T.toks.idxOf t = j := ⟨_, rfl⟩
                obtain ⟨gn, hgn⟩ : ∃ gn, T.got t = gn := ⟨_, rfl⟩
                obtain ⟨wn, hwn⟩ : ∃ wn, (T.want t).length = wn := ⟨_, rfl⟩
                rw [hjj] at HSE hC hj hj64
                rw [hgn, hwn] at HGT hC
                have J0 : (0 : Int) ≤ (j : Int) := by omega
                have J1 : (j : Int) < (y2 : Int) := by omega
                have J2 : (j : Int) ≤ 64 := by omega
                clear ht hj hpl hgr hj64 hjj hgn hwn c0
                have r1 := Blk.cell (vs := [.int .i64 kk, .int .i64 t, .slice xa xn xc]) (SideG.head (SideG.less (SideG.less HS.out))) 1 rfl
                go_wp2_with (first
                  | (go_at_call 16; (with_reducible refine HGT.out.mono ?_); rintro e w5 ⟨rfl, hb⟩; have SS := Lib.hid (HS.out.kept hb); have q0 := Blk.cell (vs := [.slice x1 y1 z1, .slice (some ⟨g, o, none⟩) y2 z2]) (SideG.head (SideG.less SS.out)) 0 rfl; have q1 := Blk.cell (vs := [.slice x1 y1 z1, .slice (some ⟨g, o, none⟩) y2 z2]) (SideG.head (SideG.less SS.out)) 1 rfl; clear r1; have r1 := Blk.cell (vs := [.int .i64 kk, .int .i64 t, .slice xa xn xc]) (SideG.head (SideG.less (SideG.less SS.out))) 1 rfl; clear hb)
                  | (go_at_call 17; (with_reducible refine (HSE.out _ SS.out).mono ?_); rintro e w6 ⟨rfl, hb⟩; have ST := Lib.hid (SS.out.kept hb); clear q0 q1 r1; have q0 := Blk.cell (vs := [.slice x1 y1 z1, .slice (some ⟨g, o, none⟩) y2 z2]) (SideG.head (SideG.less ST.out)) 0 rfl; have q1 := Blk.cell (vs := [.slice x1 y1 z1, .slice (some ⟨g, o, none⟩) y2 z2]) (SideG.head (SideG.less ST.out)) 1 rfl; clear hb)
                  | (go_at_call 18; (with_reducible refine (sSame ST.out).mono ?_); rintro e w7 ⟨rfl, hb⟩; have SU := Lib.hid (ST.out.kept hb); clear q0 q1; have q0 := Blk.cell (vs := [.slice x1 y1 z1, .slice (some ⟨g, o, none⟩) y2 z2]) (SideG.head (SideG.less SU.out)) 0 rfl; have q1 := Blk.cell (vs := [.slice x1 y1 z1, .slice (some ⟨g, o, none⟩) y2 z2]) (SideG.head (SideG.less SU.out)) 1 rfl; obtain ⟨d1, sa, sc, d2⟩ := hC.out _ SU.out; clear hb))
                have SV := Lib.hid (SideG.sub20 (bs' := [Bes.doc G (.slice x1 y1 z1) (.slice (some ⟨g, o, none⟩) y2 z2) T, Bes.blk b (.slice x1 y1 z1) [.slice (some ⟨g, o, none⟩) y2 z2]]) SU.out (by simp))
                go_roundg (l.length - (k + 1))
                case measure => have := HLT.out; omega
                case rel => exact ⟨k + 1, T, G, x1, y1, z1, _, y2, z2, by have := HLT.out; omega, Nat.le_refl _, by go_num, SV.out, HNG.out⟩
              · have hpl : plcL T.toks t = -1 := plc_none ht
                rw [hpl] at HSE
                have hgr : gotR T t = (0, 0) := if_neg ht
                rw [hgr, decide_eq_false ht] at HGT
                have r1 := Blk.cell (vs := [.int .i64 kk, .int .i64 t, .slice xa xn xc]) (SideG.head (SideG.less (SideG.less HS.out))) 1 rfl
                clear ht hpl hgr c0
                go_wp2_with (first
                  | (go_at_call 16; (with_reducible refine HGT.out.mono ?_); rintro e w5 ⟨rfl, hb⟩; have SS := Lib.hid (HS.out.kept hb); have q0 := Blk.cell (vs := [.slice x1 y1 z1, .slice x2 y2 z2]) (SideG.head (SideG.less SS.out)) 0 rfl; have q1 := Blk.cell (vs := [.slice x1 y1 z1, .slice x2 y2 z2]) (SideG.head (SideG.less SS.out)) 1 rfl; clear r1; have r1 := Blk.cell (vs := [.int .i64 kk, .int .i64 t, .slice xa xn xc]) (SideG.head (SideG.less (SideG.less SS.out))) 1 rfl; clear hb)
                  | (go_at_call 17; (with_reducible refine (HSE.out _ SS.out).mono ?_); rintro e w6 ⟨rfl, hb⟩; have ST := Lib.hid (SS.out.kept hb); clear q0 q1 r1; have q0 := Blk.cell (vs := [.slice x1 y1 z1, .slice x2 y2 z2]) (SideG.head (SideG.less ST.out)) 0 rfl; have q1 := Blk.cell (vs := [.slice x1 y1 z1, .slice x2 y2 z2]) (SideG.head (SideG.less ST.out)) 1 rfl; clear hb)
                  | (go_at_call 18; (with_reducible refine (sSame ST.out).mono ?_); rintro e w7 ⟨rfl, hb⟩; have SU := Lib.hid (ST.out.kept hb); clear q0 q1; clear hb))
                have SV := Lib.hid (SideG.sub20 (bs' := [Bes.doc G (.slice x1 y1 z1) (.slice x2 y2 z2) T, Bes.blk b (.slice x1 y1 z1) [.slice x2 y2 z2]]) SU.out (by simp))
                go_roundg (l.length - (k + 1))
                case measure => have := HLT.out; omega
                case rel => exact ⟨k + 1, T, G, x1, y1, z1, x2, y2, z2, by have := HLT.out; omega, Nat.le_refl _, by go_num, SV.out, HNG.out⟩
          · have g2 : ¬ (k : Int) < (l.length : Int) := by omega
            have HB := Lib.hid (SideG.below HS.out)
            clear HS HNG
            go_wp2_with (go_at_call 7; (with_reducible refine (HAL.out _).mono ?_); rintro e w5 ⟨rfl, hb⟩; have HB2 := Lib.hid (HB.out.trans (hb.mono HB.out.size)); clear hb)
            go_ret
            exact ⟨rfl, HB2.out⟩
  · have g1 : (40 : Int) < (ids.length : Int) := by omega
    go_enter Try.func3, Try.ntmps3
    go_wp2_with (go_at_call 7; (with_reducible refine (HAL.out _).mono ?_); rintro e w5 ⟨rfl, hb⟩)
    go_ret
    exact ⟨rfl, hb⟩
end Go.Proofs.Ytieopbeimcmheaa
/- Lists of lists of bytes that come in. -/
namespace Go.Proofs.Ytieopbeimcmheaa
open Go.RowKit Go.ChangeShapes Go.WideShapes Go.Joins Go.Deep

set_option maxRecDepth 100000 in
/-- a slice that lies in a cell -/
theorem open_rows_in {α : Type} [Inhabited α] {H : Type} {enc : TypeId × Value → H} {w : World} {t e : TypeId} {K n0 : Nat} {xs0 : List Value} {z : DataW H × List MemPlace} (cs : α → List Value)
    (ht : Try.prog.underlying t = some (.slice e)) (ce : Try.prog.cellsOf e = K) (hK : 0 < K)
    (elem : ∀ n xs x, xs.length = K → DataW.trod enc Try.prog w 0 (fun _ => true) true n e xs = some x → ∃ y, xs = cs y)
    (hx0 : DataW.trod enc Try.prog w 0 (fun _ => true) true n0 t xs0 = some z) :
    ∃ a len cap l, xs0 = [.slice a len cap] ∧ RowsAt w K cs (.slice a len cap) l ∧ l.length ≤ 9223372036854775807 := by
  obtain ⟨d, p⟩ := z
  rcases open_slice ht hx0 with ⟨hcs, _⟩ | ⟨x, ln, c, m, n, D, Pl, hcs, _, hl, hm, hmm, _, hx⟩
  · exact ⟨none, 0, 0, [], hcs, RowsAt.nil _ _ _, by simp⟩
  · have hmc : m = c := by simpa using hmm
    subst hmc
    rw [ce] at hx
    have each : ∀ i, i < m → ∃ y : α, (∀ j u, (cs y)[j]? = some u → w.cell? ((x.add (i * K)).add j) = some u) ∧ (cs y).length = K := by
      intro i hi
      obtain ⟨xs, h1, h2⟩ := hx i hi
      obtain ⟨_, hlen, hcell⟩ := World.cells?_some h1
      obtain ⟨y, rfl⟩ := elem n xs _ hlen h2
      refine ⟨y, fun j u hu => ?_, hlen⟩
      have := hcell j (by rw [← hlen]; exact (List.getElem?_eq_some_iff.1 hu).1)
      rw [this, hu]
    obtain ⟨q, hq⟩ := choose_lt each
    have hll : ((List.range ln).map q).length = ln := by simp
    refine ⟨some x, ln, m, (List.range ln).map q, hcs, ⟨some x, m, by rw [hll], by rw [hll]; exact hl, fun h0 => ?_⟩, ?_⟩
    · rw [hll] at h0
      obtain ⟨h1, h3⟩ := hq 0 (by omega)
      obtain ⟨u, hu⟩ : ∃ u, (cs (q 0))[0]? = some u := ⟨_, List.getElem?_eq_getElem (by omega)⟩
      have h4 := h1 0 u hu
      obtain ⟨b, off, spot⟩ := x
      have hspot : spot = none := by simpa [Addr.add] using World.cell?_spot h4
      subst hspot
      rw [add_plain, add_plain] at h4
      refine ⟨b, off, rfl, World.block_lt_of_cell? _ _ h4, fun j y hj i u hu => ?_⟩
      have hjl : j < ln := by rw [← hll]; exact (List.getElem?_eq_some_iff.1 hj).1
      have hyq : q j = y := by simpa [hjl] using hj
      rw [← hyq] at hu
      have := (hq j (by omega)).1 i u hu
      rw [add_plain, add_plain] at this
      exact this
    · rw [hll]
      unfold maxLen at hm
      omega
end Go.Proofs.Ytieopbeimcmheaa
/- Acts of layer 20 that come in, opened. -/
namespace Go.Proofs.Ytieopbeimcmheaa
open Go.RowKit Go.ChangeShapes Go.WideShapes Go.Joins Go.Deep

theorem cells_act20 : Try.prog.cellsOf 37 = 3 := by kernel_rfl
theorem cells_int_a20 : Try.prog.cellsOf 3 = 1 := by kernel_rfl
theorem cells_ints_a20 : Try.prog.cellsOf 22 = 1 := by kernel_rfl
theorem list3_a20 {α : Type} {l : List α} (h : l.length = 3) : ∃ a b c, l = [a, b, c] := by
  match l, h with
  | [a, b, c], _ => exact ⟨a, b, c, rfl⟩
set_option maxRecDepth 100000 in
theorem trod_act20 {H : Type} {enc : TypeId × Value → H} {w : World} {fuel : Nat} {cs : List Value} {x : DataW H × List MemPlace} (hl : cs.length = 3) (h : DataW.trod enc Try.prog w 0 (fun _ => true) true fuel 37 cs = some x) : ∃ a : Ac, cs = csAc a ∧ IntsAt w a.v a.want ∧ -9223372036854775808 ≤ a.token ∧ a.token ≤ 9223372036854775807 := by
  obtain ⟨c0, c1, c2, rfl⟩ := list3_a20 hl
  obtain ⟨y0, y1, y2, k, _, _, h0, h1, h2⟩ := trod_struct3 Try.underlying37 h
  simp only [cells_int_a20, cells_ints_a20, List.drop_zero, List.take_succ_cons, List.take_zero, List.drop_succ_cons] at h0 h1 h2
  obtain ⟨a, e0, _, wa⟩ := DataW.trod_int Try.underlying3 h0
  obtain ⟨b, e1, _, wb⟩ := DataW.trod_int Try.underlying3 h1
  obtain ⟨s, len, cap, l, e2, hr, _⟩ := open_rows_in csI Try.underlying22 cells_int_a20 (by decide) (by
    intro n xs x _ hx
    obtain ⟨a, e0, _, wa⟩ := DataW.trod_int Try.underlying3 hx
    exact ⟨a, e0⟩) h2
  simp at e0 e1 e2
  subst e0 e1 e2
  obtain ⟨s', c', e3⟩ := RowsAt.form hr
  cases e3
  exact ⟨⟨a, b, s, cap, l⟩, rfl, RowsAt.ints hr, bounds_i64 wb⟩
set_option maxRecDepth 100000 in
theorem open_acts20 {H : Type} {enc : TypeId × Value → H} {w : World} {base : Nat} {v : Value} {d : DataW H} {p : List MemPlace} (hok : Value.okWide Try.prog w .any base 23 v) (h : DataW.Trod enc Try.prog w 0 (fun _ => true) true 23 v d p) :
    ∃ l, ActsAt w v l ∧ l.length ≤ 9223372036854775807 ∧ ∀ a ∈ l, In18 a.token := by
  obtain ⟨l, h1, h2, h3⟩ := open_rows csAc (fun a => IntsAt w a.v a.want ∧ -9223372036854775808 ≤ a.token ∧ a.token ≤ 9223372036854775807) Try.underlying23 cells_act20 (by decide) (fun _ _ _ hl h => trod_act20 hl h) hok h
  exact ⟨l, ⟨h1, fun a ha => (h3 a ha).1⟩, h2, fun a ha => (h3 a ha).2⟩
end Go.Proofs.Ytieopbeimcmheaa
/- Stage 20: what the proof of AislesDoes leans on. -/
namespace Go.Proofs.Ytieopbeimcmheaa
end Go.Proofs.Ytieopbeimcmheaa
