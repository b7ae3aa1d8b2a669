/- Texts of this proof, joined: AisRefF; TbC; TbD; TbF. -/
import Derived.Test.YtieopbeimcmheaaBun12
import Derived.Deep.RegionLaw
/- Stage 20: the document's New, Few; what its Tokens and Seated tell of a table. -/
namespace Go.Proofs.Ytieopbeimcmheaa
open Go.RowKit

/-! ### Acts -/
structure Ac where
  kind : Int
  token : Int
  a : Option Addr
  c : Nat
  want : List Int
deriving Inhabited
abbrev Ac.v (x : Ac) : Value := .slice x.a x.want.length x.c
def csAc (x : Ac) : List Value := [.int .i64 x.kind, .int .i64 x.token, x.v]
theorem csAc_len (x : Ac) : (csAc x).length = 3 := rfl
structure ActsAt (w : World) (v : Value) (l : List Ac) : Prop where
  rows : RowsAt w 3 csAc v l
  each : ∀ x ∈ l, IntsAt w x.v x.want
theorem ActsAt.below {w w' : World} {v : Value} {l : List Ac} (h : ActsAt w v l) (hb : Below w.heap.size w w') : ActsAt w' v l := ⟨RowsAt.kept h.rows hb, fun x hx => (h.each x hx).below hb⟩
theorem RowsAt.atA {w : World} {v : Value} {l : List Ac} (h : RowsAt w 3 csAc v l) (k : Nat) (hk : k < l.length) :
    ∃ g o c, v = .slice (some ⟨g, o, none⟩) l.length c ∧ l.length ≤ c ∧ g < w.heap.size ∧ w.cell? ⟨g, o + k * 3, none⟩ = some (.int .i64 l[k].kind) ∧ w.cell? ⟨g, o + k * 3 + 1, none⟩ = some (.int .i64 l[k].token) ∧ w.cell? ⟨g, o + k * 3 + 2, none⟩ = some l[k].v := by
  obtain ⟨g, o, c, e, hc, hg, hx⟩ := h.spot k hk
  exact ⟨g, o, c, e, hc, hg, hx 0 _ rfl, hx 1 _ rfl, hx 2 _ rfl⟩
def fewB (l : List Ac) (most : Int) : Bool := decide ((l.length : Int) ≤ most) && l.all fun x => decide (x.want.length ≤ 40)

set_option maxHeartbeats 2000000 in
set_option maxRecDepth 100000 in
theorem refFew20_any (va : Value) (l : List Ac) (most : Int) (W : World) (ha : RowsAt W 3 csAc va l) (hm : most ≤ 1000) :
    Calls Try.prog 6 #[va, .int .i64 most] W fun e w' => e = .returned (.bool (fewB l most)) ∧ Below W.heap.size W w' := by
  obtain ⟨r, hr⟩ : ∃ r, fewB l most = r := ⟨_, rfl⟩
  rw [hr]
  have HR := Lib.hid hr
  have HA := Lib.hid ha
  obtain ⟨a, c, rfl⟩ := RowsAt.form ha
  clear hr ha
  by_cases h1 : (l.length : Int) ≤ most
  · have k1 : ¬ most < (l.length : Int) := by omega
    have HL := Lib.hid (show l.length ≤ 1000 by omega)
    have HH1 := Lib.hid h1
    clear h1
    go_enter Try.func6, Try.ntmps6
    go_wp2
    go_loopg [5] l.length (fun kx iv wr => ∃ k : Nat, k ≤ l.length ∧ l.length - k ≤ kx ∧ iv = .int .i64 k ∧ Hid (∀ x ∈ l.take k, x.want.length ≤ 40) ∧ wr = W)
    case atStart => exact ⟨0, Nat.zero_le _, Nat.le_refl _, rfl, fun x hx => (by simp at hx), rfl⟩
    case round =>
      obtain ⟨k, hk, hkx, rfl, hall, rfl⟩ := hrel
      by_cases hlt : k < l.length
      · obtain ⟨g, o, cc, e, _, _, _, _, p2⟩ := RowsAt.atA HA.out k hlt
        cases e
        have j1 : (k : Int) < (l.length : Int) := by omega
        have j0 : (0 : Int) ≤ (k : Int) := by omega
        have j2 : (k : Int) ≤ 1000 := by have := HL.out; omega
        obtain ⟨x, hx⟩ : ∃ x, l[k] = x := ⟨_, rfl⟩
        rw [hx] at p2
        have hxm : x ∈ l := by rw [← hx]; exact List.getElem_mem hlt
        by_cases h40 : x.want.length ≤ 40
        · have HALL := Lib.hid (show ∀ y ∈ l.take (k + 1), y.want.length ≤ 40 from fun y hy => by
            rw [List.take_succ_eq_append_getElem hlt] at hy
            rcases List.mem_append.1 hy with hy | hy
            · exact hall.out y hy
            · rw [List.mem_singleton.1 hy, hx]; exact h40)
          have k40 : ¬ (40 : Int) < (x.want.length : Int) := by omega
          have HK := Lib.hid (And.intro hk (And.intro hkx hlt))
          clear hall hx hxm h40 hk hkx
          go_wp2
          go_roundg (l.length - (k + 1))
          case measure => have := HK.out; omega
          case rel => exact ⟨k + 1, by have := HK.out; omega, Nat.le_refl _, by go_num, HALL.out, rfl⟩
        · have HF := Lib.hid (show false = r by
            rw [← HR.out]
            unfold fewB
            rw [List.all_eq_false.2 ⟨x, hxm, by simpa using h40⟩, Bool.and_false])
          have k40 : (40 : Int) < (x.want.length : Int) := by omega
          clear hall hx hxm h40 hk hkx
          go_wp2
          go_ret
          exact ⟨ret_b HF.out, Below.refl _ _⟩
      · have hke : k = l.length := by omega
        have hall2 : ∀ x ∈ l, x.want.length ≤ 40 := by have := hall.out; rwa [hke, List.take_length] at this
        have HF := Lib.hid (show true = r by
          rw [← HR.out]
          unfold fewB
          rw [decide_eq_true HH1.out, List.all_eq_true.2 fun x hx => by simpa using hall2 x hx]
          rfl)
        have g2 : ¬ (k : Int) < (l.length : Int) := by omega
        clear hall hall2 hk hkx hlt hke
        go_wp2
        go_ret
        exact ⟨ret_b HF.out, Below.refl _ _⟩
  · have HF := Lib.hid (show false = r by rw [← HR.out]; unfold fewB; rw [decide_eq_false h1]; rfl)
    have k1 : most < (l.length : Int) := by omega
    clear h1
    go_enter Try.func6, Try.ntmps6
    go_wp2
    go_ret
    exact ⟨ret_b HF.out, Below.refl _ _⟩

/-! ### New -/
def newLs (l : List Int) : List Lr := l.map fun id => ⟨id, 0, none, 0, []⟩
theorem newLs_next (l : List Int) (i : Nat) (h : i < l.length) : newLs (l.take (i + 1)) = newLs (l.take i) ++ [⟨l[i], 0, none, 0, []⟩] := by
  unfold newLs
  rw [List.take_succ_eq_append_getElem h, List.map_append]
  rfl
theorem newLs_len (l : List Int) : (newLs l).length = l.length := by simp [newLs]
set_option maxHeartbeats 16000000 in
set_option maxRecDepth 100000 in
theorem refNew20_any (va : Value) (l : List Int) (W : World) (ha : IntsAt W va l) (hl : l.length ≤ 1000) :
    Calls Try.prog 9 #[va] W fun e w' => ∃ v1 v2, e = .returned (.tuple #[tbv v1 v2, .int .i64 (if mayB l = true then 0 else 1)]) ∧ (∃ x y z, v1 = .slice x y z) ∧ (∃ x y z, v2 = .slice x y z) ∧ (mayB l = true → ∃ G', DocAt G' w' v1 v2 (Tb.new l) ∧ ∀ k, G' k → W.heap.size ≤ k) ∧ Below W.heap.size W w' := by
  obtain ⟨er, her⟩ : ∃ er : Int, (if mayB l = true then 0 else 1) = er := ⟨_, rfl⟩
  rw [her]
  obtain ⟨M, hM⟩ : ∃ M : Prop, (mayB l = true) = M := ⟨_, rfl⟩
  obtain ⟨TN, hTN⟩ : ∃ TN, Tb.new l = TN := ⟨_, rfl⟩
  rw [hM, hTN]
  have HER := Lib.hid her
  have HMM := Lib.hid hM
  have HTN := Lib.hid hTN
  have HA := Lib.hid ha
  have HL := Lib.hid hl
  obtain ⟨a, c, rfl⟩ := ha.form
  have hTw := two20_new W (.slice none 0 0) (.slice none 0 0)
  have hsz : ((W.alloc (.cells #[.slice none 0 0, .slice none 0 0] 33)).alloc (.cells #[.slice none 0 0, .slice none 0 0] 33)).heap.size = W.heap.size + 2 := by simp
  have GM := Lib.hid (refMay20_any (.slice a l.length c) l _ (HA.out.below hTw.below) hl)
  clear her hM hTN ha hl
  go_enter Try.func9, Try.ntmps9
  go_upto_region 2 with fail
  generalize (W.alloc (.cells #[.slice none 0 0, .slice none 0 0] 33)).alloc (.cells #[.slice none 0 0, .slice none 0 0] 33) = w2 at *
  have HTW := Lib.hid hTw
  have HSZ := Lib.hid hsz
  clear hTw hsz
  cases hm : mayB l with
  | false =>
    have HE := Lib.hid (show er = 1 by rw [← HER.out, hm]; rfl)
    have HN := Lib.hid (show ¬ M by rw [← HMM.out, hm]; simp)
    rw [hm] at GM
    clear hm
    go_upto_region 3 with (go_at_call 19; (with_reducible refine GM.out.mono ?_); rintro e w3 ⟨rfl, b3⟩; have T3 := HTW.out.kept b3; clear b3)
    have c0 := T3.box.cell 0 rfl
    have c1 := T3.box.cell 1 rfl
    have z0 := T3.box.free 0 rfl
    have z1 := T3.box.free 1 rfl
    have d0 := T3.ans.cell 0 rfl
    have d1 := T3.ans.cell 1 rfl
    have h4 := (T3.turn (.slice none 0 0) (.slice none 0 0))
    have r0 := h4.box.cell 0 rfl
    have r1 := h4.box.cell 1 rfl
    have HB := Lib.hid h4.below
    clear T3 h4
    go_wp2
    refine bodyPost_ret (v := .tuple #[tbv (.slice none 0 0) (.slice none 0 0), .int .i64 1]) ?_ rfl ⟨_, _, congrArg (fun b => Ending.returned (.tuple #[tbv (.slice none 0 0) (.slice none 0 0), .int .i64 b])) HE.out.symm, ⟨_, _, _, rfl⟩, ⟨_, _, _, rfl⟩, fun h => absurd h HN.out, HB.out⟩
    simp [results, Try.results9, go_sem, r0, r1]
  | true =>
    have HE := Lib.hid (show er = 0 by rw [← HER.out, hm]; rfl)
    rw [hm] at GM
    clear hm
    go_wp2_with (go_at_call 19; (with_reducible refine GM.out.mono ?_); rintro e w3 ⟨rfl, b3⟩; have HT3 := Lib.hid (HTW.out.kept b3); have HZ3 := Lib.hid (show W.heap.size + 2 ≤ w3.heap.size by have := b3.size; rw [HSZ.out] at this; exact this); clear b3)
    go_loopw [5] (fun iv wr => ∃ (i : Nat) (vl : Value), i ≤ l.length ∧ iv = .int .i64 i ∧ OwnR wr (W.heap.size + 2) 63 3 csL vl (newLs (l.take i)) ∧ Blk wr W.heap.size [.slice none 0 0, .slice none 0 0] ∧ Blk wr (W.heap.size + 1) [vl, .slice none 0 0] ∧ Below W.heap.size W wr ∧ W.heap.size + 2 ≤ wr.heap.size) (fun iv _ => l.length - (intOf iv).toNat)
    case atStart => exact ⟨0, .slice none 0 0, by omega, rfl, OwnR.nil _ _ _ _ _, HT3.out.box, HT3.out.ans, HT3.out.below, HZ3.out⟩
    case round =>
      obtain ⟨i, vl, hi, rfl, ho, hX, hY, hB, hz⟩ := hrel
      have HO := Lib.hid ho
      have HX := Lib.hid hX
      have HY := Lib.hid hY
      have HB := Lib.hid hB
      have HZ := Lib.hid hz
      obtain ⟨al, cl, e⟩ := RowsAt.form (OwnR.rows csL_len ho)
      have hnl := newLs_len (l.take i)
      rw [List.length_take, Nat.min_eq_left hi] at hnl
      rw [hnl] at e
      subst e
      by_cases hlt : i < l.length
      · have HLT := Lib.hid hlt
        have hnx := newLs_next l i hlt
        obtain ⟨g, o, cc, e, _, hgz, p0⟩ := (HA.out.below hB).spot i hlt
        cases e
        have k2 : (0 : Int) ≤ (i : Int) := by omega
        have k3 : (i : Int) < (l.length : Int) := by omega
        have k4 : (i : Int) ≤ 1000 := by have := HL.out; omega
        generalize newLs (l.take i) = D at *
        have HNL := Lib.hid hnl
        have HNX := Lib.hid hnx
        generalize l[i] = id at *
        have c0 := hY.cell 0 rfl
        have z0 := hY.free 0 rfl
        obtain ⟨i1, hi1, hz1, hs1, hb1⟩ := info_parts info_lock20
        have hal := (Below.refl wr.heap.size wr).alloc (Nat.le_refl _) (.cells #[.int .i64 id, .int .i64 0, .slice none 0 0] 63)
        have HAD := Lib.hid hal.drew
        have HOW := Lib.hid (show (wr.alloc (.cells #[.int .i64 id, .int .i64 0, .slice none 0 0] 63)).ownsRow (W.heap.size + 2) 63 3 (.slice al i cl) i (flats csL D) from by
          have h9 := OwnR.alloc ho (.cells #[.int .i64 id, .int .i64 0, .slice none 0 0] 63)
          unfold OwnR at h9
          rwa [hnl] at h9)
        have c0a := (hY.kept hal.drew).cell 0 rfl
        have c0b := (hY.kept hal).cell 0 rfl
        have p0a := (hal.drew.cell (p := ⟨g, o + i, none⟩) hgz).trans p0
        have p0b := (hal.cell (p := ⟨g, o + i, none⟩) hgz).trans p0
        have HNY := Lib.hid (show some (W.heap.size + 1) ≠ (Value.slice al i cl).ownBlock from fun e => by have := (ho.lt _ e.symm).1; omega)
        have HNX0 := Lib.hid (show some W.heap.size ≠ (Value.slice al i cl).ownBlock from fun e => by have := (ho.lt _ e.symm).1; omega)
        clear ho hX hY hB hz hnl hnx hi hal
        go_upto_region 7 with fail
        go_region_law (first
          | (refine step_append_lies _ (by rfl) _ _ _ (by rfl) (W.heap.size + 2) 63 i1 _ 3 40 Try.underlying30 hi1 hz1 hs1 hb1 rfl (by omega) (.slice al i cl) i (flats csL D) (by rfl) (HOW.out.drew)
                    ⟨wr.heap.size, 0, none⟩ 1 1 [.int .i64 id, .int .i64 0, .slice none 0 0] (by rfl) (by rfl) (World.news_of_block (cs := #[.int .i64 id, .int .i64 0, .slice none 0 0]) (t := 63) (fr := (0, 0)) (heap_alloc_new wr _)) (by simp [Value.oneCell'])
                    (by omega) (by unfold maxLen; omega) (by omega) (by have := HZ.out; simp; omega) (wr.heap.size + 1) (by simp) ?_
             intro gg cap w9 ho9 hg9 hat9 hlt9
             have hY9 := (HY.out.kept HAD.out).grown hg9 HNY.out
             have c9 := hY9.cell 0 rfl
             have z9 := hY9.free 0 rfl))
        all_goals (
          have hY10 := Lib.hid (hY9.set 0 (.slice (some ⟨gg, 0, none⟩) (i + 1) cap))
          have hX10 := Lib.hid (((HX.out.kept HAD.out).grown hg9 HNX0.out).away ⟨W.heap.size + 1, 0, none⟩ (.slice (some ⟨gg, 0, none⟩) (i + 1) cap) (by simp))
          have ho10 : OwnR w9 (W.heap.size + 2) 63 3 csL (.slice (some ⟨gg, 0, none⟩) (i + 1) cap) (D ++ [⟨id, 0, none, 0, []⟩]) := OwnR.snoc ho9 (by rw [HNL.out]) rfl
          have hgn := (ho10.lt gg rfl).1
          have HO10 := Lib.hid (OwnR.away ho10 ⟨W.heap.size + 1, 0, none⟩ (.slice (some ⟨gg, 0, none⟩) (i + 1) cap) (fun e => by simp [Value.ownBlock] at e; omega))
          have hb9 := (HB.out.trans (HAD.out.mono HB.out.size)).grown hg9 (Nat.le_trans HB.out.size HAD.out.size) (fun k hk => by have := (World.ownsRow.lt HOW.out k hk).1; omega)
          have HB10 := Lib.hid (hb9.setCell (p := ⟨W.heap.size + 1, 0, none⟩) (by simp) (.slice (some ⟨gg, 0, none⟩) (i + 1) cap))
          have HZ10 := Lib.hid (show W.heap.size + 2 ≤ (w9.setCell ⟨W.heap.size + 1, 0, none⟩ (.slice (some ⟨gg, 0, none⟩) (i + 1) cap)).heap.size by rw [size_setCell]; exact Nat.le_trans HZ.out (Nat.le_trans HAD.out.size hg9.size))
          clear hY9 ho10 hgn hb9 c9 z9 c0 z0 p0 c0a c0b p0a p0b
          go_wp2
          go_roundw
          case rel => exact ⟨i + 1, _, by have := HLT.out; omega, by go_num, by rw [HNX.out]; exact HO10.out, hX10.out, hY10.out, HB10.out, HZ10.out⟩
          case measure => have := HLT.out; simp [intOf] <;> omega)
      · have hie : i = l.length := by omega
        subst hie
        have e1 : l.take l.length = l := List.take_length
        rw [e1] at ho
        have hXs := (hX.set 0 (.slice al l.length cl)).set 1 (.slice none 0 0)
        have z0 := hX.free 0 rfl
        have z1 := hX.free 1 rfl
        have n0 := hX.cell 0 rfl
        have n1 := hX.cell 1 rfl
        have c0 := hY.cell 0 rfl
        have c1 := hY.cell 1 rfl
        have r0 := hXs.cell 0 rfl
        have r1 := hXs.cell 1 rfl
        have hof : OwnR ((wr.setCell ⟨W.heap.size, 0, none⟩ (.slice al l.length cl)).setCell ⟨W.heap.size, 1, none⟩ (.slice none 0 0)) (W.heap.size + 2) 63 3 csL (.slice al l.length cl) (newLs l) :=
          OwnR.away (OwnR.away ho ⟨W.heap.size, 0, none⟩ (.slice al l.length cl) fun e => by have := (ho.lt W.heap.size e).1; omega) ⟨W.heap.size, 1, none⟩ (.slice none 0 0) fun e => by have := (ho.lt W.heap.size e).1; omega
        have HB9 := Lib.hid ((hB.setCell (p := ⟨W.heap.size, 0, none⟩) (by simp) (.slice al l.length cl)).setCell (p := ⟨W.heap.size, 1, none⟩) (by simp) (.slice none 0 0))
        have HDF := Lib.hid (show ∃ G', DocAt G' ((wr.setCell ⟨W.heap.size, 0, none⟩ (.slice al l.length cl)).setCell ⟨W.heap.size, 1, none⟩ (.slice none 0 0)) (.slice al l.length cl) (.slice none 0 0) TN ∧ ∀ k, G' k → W.heap.size ≤ k from by
          refine ⟨fun k => W.heap.size ≤ k ∧ k < ((wr.setCell ⟨W.heap.size, 0, none⟩ (.slice al l.length cl)).setCell ⟨W.heap.size, 1, none⟩ (.slice none 0 0)).heap.size, ⟨newLs l, [], ⟨OwnR.rows csL_len hof, fun x hx => ?_⟩, ⟨RowsAt.nil _ _ _, fun x hx => (by cases hx)⟩, ?_, ?_, fun _ k hk => ⟨by have := (hof.lt k hk).1; omega, (hof.lt k hk).2⟩, fun h => absurd h (by simp), fun x hx h0 => ?_, fun x hx => (by cases hx), fun k hk => hk.2⟩, fun k hk => hk.1⟩
          · obtain ⟨y, _, rfl⟩ := List.mem_map.1 hx
            exact IntsAt.nil _
          · rw [← HTN.out]
            unfold newLs Tb.lks Tb.new
            rw [List.map_map]
            rfl
          · rw [← HTN.out]
            rfl
          · obtain ⟨y, _, rfl⟩ := List.mem_map.1 hx
            exact absurd h0 (by simp))
        have g2 : ¬ (l.length : Int) < (l.length : Int) := by omega
        clear ho hX hY hB hz hnl hlt hXs hof e1 hi
        go_wp2
        refine bodyPost_ret (v := .tuple #[tbv (.slice al l.length cl) (.slice none 0 0), .int .i64 0]) ?_ rfl ⟨_, _, congrArg (fun b => Ending.returned (.tuple #[tbv (.slice al l.length cl) (.slice none 0 0), .int .i64 b])) HE.out.symm, ⟨_, _, _, rfl⟩, ⟨_, _, _, rfl⟩, fun _ => HDF.out, HB9.out⟩
        simp [results, Try.results9, go_sem, r0, r1]

/-! ### What is asked of a table -/
theorem filter_sts {Ss : List Sr} {T : Tb} (h : Ss.map stp = T.sts) (full : Bool) : tokensL Ss full = T.toks.filter fun t => !full || T.isFull t := by
  have e : tokensL Ss full = ((Ss.map stp).filter fun p => !full || decide (p.2.1 = (p.2.2.length : Int))).map Prod.fst := by
    unfold tokensL
    rw [List.filter_map, List.map_map]
    rfl
  rw [e, h]
  unfold Tb.sts
  rw [List.filter_map, List.map_map]
  have e2 : (Prod.fst ∘ fun t => (t, (T.got t : Int), T.want t)) = id := rfl
  rw [e2, List.map_id]
  congr 1
  funext t
  show (!full || decide ((T.got t : Int) = ((T.want t).length : Int))) = (!full || decide (T.got t = (T.want t).length))
  rw [show decide ((T.got t : Int) = ((T.want t).length : Int)) = decide (T.got t = (T.want t).length) from decide_eq_decide.2 ⟨fun h => by omega, fun h => by omega⟩]
def Tb.fullL (T : Tb) : List Int := T.toks.filter T.isFull
theorem tokens_all {Ss : List Sr} {T : Tb} (h : Ss.map stp = T.sts) : tokensL Ss false = T.toks := by
  rw [filter_sts h]
  simp
theorem tokens_full {Ss : List Sr} {T : Tb} (h : Ss.map stp = T.sts) : tokensL Ss true = T.fullL := by
  rw [filter_sts h]
  simp [Tb.fullL]
end Go.Proofs.Ytieopbeimcmheaa
/- Stage 20's program: Full, Tokens; the next ask; all locks, one behind the other. -/
namespace Go.Proofs.Ytieopbeimcmheaa
open Go.RowKit Go.Maps

section
variable {b ml mc : Nat} {pt : Int → Nat} {Gf : Int → Nat → Prop} {cl : Int → Cl} {F : Nat → Prop} {w : World} {T : Tb}
theorem TbR.isFull (h : TbR b ml mc pt Gf cl F w T) {t : Int} (ht : t ∈ T.toks) : decide ((cl t).held = ((cl t).n : Int)) = T.isFull t := by
  obtain ⟨h1, h2, _⟩ := h.ch t ht
  rw [h1, h2]
  unfold Tb.isFull
  exact decide_eq_decide.2 ⟨fun h => by omega, fun h => by omega⟩
set_option maxHeartbeats 1000000 in
theorem tFullN_any (h : TbR b ml mc pt Gf cl F w T) (hok : T.Ok) : Calls Try.prog 23 #[ptr18 b] w fun e w' => ∃ v, e = .returned v ∧ IntsAt w' v T.fullL ∧ (∀ k, v.ownBlock = some k → w.heap.size ≤ k) ∧ Below w.heap.size w w' := by
  have H := tThose_any 48 (fun _ _ => by kernel_rfl) (fun x => decide (x.held = (x.n : Int))) tIsFull_any h hok
  rw [List.filter_congr fun t ht => h.isFull ht] at H
  have HT := Lib.hid (show Calls Try.prog 47 #[ptr18 b, .func (.func 48) #[] #[]] w fun e w' => ∃ v, e = .returned v ∧ IntsAt w' v T.fullL ∧ (∀ k, v.ownBlock = some k → w.heap.size ≤ k) ∧ Below w.heap.size w w' from H)
  clear h hok H
  go_enter Try.func23, Try.ntmps23
  go_wp2_with (go_at_call 47; (with_reducible refine HT.out.mono ?_); rintro e w1 ⟨v1, rfl, h1, n1, b1⟩; have H1 := Lib.hid h1; have HN1 := Lib.hid n1; have HB1 := Lib.hid b1; clear h1 n1 b1)
  go_ret
  exact ⟨_, rfl, H1.out, HN1.out, HB1.out⟩
theorem tFull_any (h : TbR b ml mc pt Gf cl F w T) (hok : T.Ok) : Calls Try.prog 23 #[ptr18 b] w fun e w' => ∃ v, e = .returned v ∧ IntsAt w' v T.fullL ∧ Below w.heap.size w w' :=
  (tFullN_any h hok).mono fun _ _ ⟨v, h1, h2, _, h3⟩ => ⟨v, h1, h2, h3⟩
set_option maxHeartbeats 1000000 in
theorem tTokens_any (h : TbR b ml mc pt Gf cl F w T) (hok : T.Ok) : Calls Try.prog 20 #[ptr18 b] w fun e w' => ∃ v, e = .returned v ∧ IntsAt w' v T.toks ∧ Below w.heap.size w w' := by
  have H := tThose_any 48 (fun _ _ => by kernel_rfl) (fun x => decide (x.held = (x.n : Int))) tIsFull_any h hok
  have H2 := fun (w' : World) (hb : Below w.heap.size w w') => tThose_any 49 (fun _ _ => by kernel_rfl) (fun x => !decide (x.held = (x.n : Int))) tWaits_any (h.kept hb) hok
  obtain ⟨A, hA⟩ : ∃ A, T.toks.filter (fun t => decide ((cl t).held = ((cl t).n : Int))) = A := ⟨_, rfl⟩
  obtain ⟨B, hB⟩ : ∃ B, T.toks.filter (fun t => !decide ((cl t).held = ((cl t).n : Int))) = B := ⟨_, rfl⟩
  rw [hA] at H
  rw [hB] at H2
  have HOR := Lib.hid (show orL A B = T.toks from setL_of hok.ris fun x => by
    rw [← hA, ← hB, List.mem_append, List.mem_filter, List.mem_filter]
    cases decide ((cl x).held = ((cl x).n : Int)) <;> simp)
  have HLN := Lib.hid (show A.length ≤ 64 ∧ B.length ≤ 64 from ⟨by rw [← hA]; exact Nat.le_trans (List.length_filter_le _ _) hok.few, by rw [← hB]; exact Nat.le_trans (List.length_filter_le _ _) hok.few⟩)
  have HT := Lib.hid H
  have HT2 := Lib.hid H2
  clear h hok H H2 hA hB
  go_enter Try.func20, Try.ntmps20
  go_wp2_with (first
    | (go_at_call 47; (with_reducible refine HT.out.mono ?_); rintro e w1 ⟨v1, rfl, h1, _, b1⟩; have H1 := Lib.hid h1; have HB1 := Lib.hid b1; clear h1 b1)
    | (go_at_call 47; (with_reducible refine (HT2.out _ HB1.out).mono ?_); rintro e w2 ⟨v2, rfl, h2, _, b2⟩; have OR := Lib.hid (iOr_any v1 v2 A B w2 (H1.out.below b2) h2 (by have := HLN.out.1; omega) (by have := HLN.out.2; omega)); rw [HOR.out] at OR; have HB2 := Lib.hid (HB1.out.trans (b2.mono HB1.out.size)); clear h2 b2)
    | (go_at_call 46; (with_reducible refine OR.out.mono ?_); rintro e w3 ⟨v3, rfl, h3, b3⟩; have H3 := Lib.hid h3; have HB3 := Lib.hid (HB2.out.trans (b3.mono HB2.out.size)); clear h3 b3))
  go_ret
  exact ⟨_, rfl, H3.out, HB3.out⟩
end
set_option maxHeartbeats 1000000 in
theorem tThose_nil (f : Value) (w : World) : Calls Try.prog 47 #[.pointer none, f] w fun e w' => e = .returned (.slice none 0 0) ∧ Below w.heap.size w w' := by
  go_enter Try.func47, Try.ntmps47
  go_wp2
  go_ret
  exact ⟨rfl, Below.refl _ _⟩
set_option maxHeartbeats 1000000 in
theorem tTokens_nil (w : World) : Calls Try.prog 20 #[.pointer none] w fun e w' => ∃ v, e = .returned v ∧ IntsAt w' v [] ∧ Below w.heap.size w w' := by
  have HT := Lib.hid tThose_nil
  have HOR := Lib.hid fun w => iOr_any (.slice none 0 0) (.slice none 0 0) [] [] w (IntsAt.nil w) (IntsAt.nil w) (by simp) (by simp)
  have e0 : orL [] [] = [] := rfl
  rw [e0] at HOR
  clear e0
  go_enter Try.func20, Try.ntmps20
  go_wp2_with (first
    | (go_at_call 47; (with_reducible refine (HT.out (.func (.func 48) #[] #[]) _).mono ?_); rintro e w1 ⟨rfl, b1⟩; have HB1 := Lib.hid b1; clear b1)
    | (go_at_call 47; (with_reducible refine (HT.out (.func (.func 49) #[] #[]) _).mono ?_); rintro e w2 ⟨rfl, b2⟩; have HB2 := Lib.hid (HB1.out.trans (b2.mono HB1.out.size)); clear b2)
    | (go_at_call 46; (with_reducible refine (HOR.out _).mono ?_); rintro e w3 ⟨v3, rfl, h3, b3⟩; have H3 := Lib.hid h3; have HB3 := Lib.hid (HB2.out.trans (b3.mono HB2.out.size)); clear h3 b3))
  go_ret
  exact ⟨_, rfl, H3.out, HB3.out⟩
end Go.Proofs.Ytieopbeimcmheaa
/- Stage 20's program: what may be aisles; the next ask; one aisle more is held; all locks, one behind the other. -/
namespace Go.Proofs.Ytieopbeimcmheaa
open Go.RowKit Go.Maps

set_option maxHeartbeats 8000000 in
set_option maxRecDepth 100000 in
theorem tMay_any (va : Value) (l : List Int) (W : World) (ha : IntsAt W va l) (hl : l.length ≤ 1000) :
    Calls Try.prog 25 #[va] W fun e w' => e = .returned (.bool (mayB l)) ∧ Below W.heap.size W w' := by
  obtain ⟨r, hr⟩ : ∃ r, mayB l = r := ⟨_, rfl⟩
  rw [hr]
  have HR := Lib.hid hr
  have GR := Lib.hid (iRight_any va l W ha (by omega))
  have HA := Lib.hid ha
  obtain ⟨a, c, rfl⟩ := IntsAt.form ha
  have HL := Lib.hid hl
  clear hr ha
  by_cases h0 : l.length = 0
  · have HF := Lib.hid (show true = r by rw [← HR.out, List.eq_nil_of_length_eq_zero h0]; rfl)
    have k0 : ((l.length : Int) == 0) = true := by rw [h0]; rfl
    clear h0
    go_enter Try.func25, Try.ntmps25
    go_wp2
    go_ret
    exact ⟨ret_b HF.out, Below.refl _ _⟩
  have k0 : ((l.length : Int) == 0) = false := beq_noI (by omega)
  by_cases h1 : l.length ≤ 32
  · have k1 : (l.length : Int) ≤ 32 := by omega
    cases hq : rightB l with
    | false =>
      have HF := Lib.hid (show false = r by rw [← HR.out]; unfold mayB; rw [hq]; simp)
      rw [hq] at GR
      clear hq h0
      go_enter Try.func25, Try.ntmps25
      go_wp2_with (go_at_call 27; (with_reducible refine GR.out.mono ?_); rintro e w1 ⟨rfl, hb⟩; have HB := Lib.hid hb; clear hb)
      go_ret
      exact ⟨ret_b HF.out, HB.out⟩
    | true =>
      rw [hq] at GR
      obtain ⟨g, o, cc, e, _, _, p0⟩ := HA.out.spot 0 (by omega)
      cases e
      obtain ⟨g2, o2, cc2, e, _, _, p1⟩ := HA.out.spot (l.length - 1) (by omega)
      cases e
      have hR : (decide ((1 : Int) ≤ l[0]'(by omega)) && decide (l[l.length - 1]'(by omega) ≤ (999 : Int))) = r := by
        rw [← HR.out]
        unfold mayB
        rw [hq, decide_eq_true h1, decide_eq_false h0, List.getElem?_eq_getElem (by omega : 0 < l.length), List.getElem?_eq_getElem (by omega : l.length - 1 < l.length)]
        simp
      generalize l[0]'(by omega) = x at *
      generalize l[l.length - 1]'(by omega) = y at *
      rw [Nat.add_zero] at p0
      have HP0 := Lib.hid p0
      have HP1 := Lib.hid p1
      have k2 : (l.length : Int) - 1 = ((l.length - 1 : Nat) : Int) := by omega
      have k3 : (0 : Int) ≤ ((l.length - 1 : Nat) : Int) := by omega
      have k4 : ((l.length - 1 : Nat) : Int) < (l.length : Int) := by omega
      have k5 : (0 : Int) < (l.length : Int) := by omega
      clear hq p0 p1 h0
      by_cases hx : (1 : Int) ≤ x
      · by_cases hy : y ≤ (999 : Int)
        · have HF := Lib.hid (show true = r by rw [← hR, decide_eq_true hx, decide_eq_true hy]; rfl)
          clear hR
          go_enter Try.func25, Try.ntmps25
          go_wp2_with (go_at_call 27; (with_reducible refine GR.out.mono ?_); rintro e w1 ⟨rfl, hb⟩; have HB := Lib.hid hb; have q0 := (hb.cell (World.block_lt_of_cell? _ _ HP0.out)).trans HP0.out; have q1 := (hb.cell (World.block_lt_of_cell? _ _ HP1.out)).trans HP1.out; clear hb)
          go_ret
          exact ⟨ret_b HF.out, HB.out⟩
        · have HF := Lib.hid (show false = r by rw [← hR, decide_eq_true hx, decide_eq_false hy]; rfl)
          clear hR
          go_enter Try.func25, Try.ntmps25
          go_wp2_with (go_at_call 27; (with_reducible refine GR.out.mono ?_); rintro e w1 ⟨rfl, hb⟩; have HB := Lib.hid hb; have q0 := (hb.cell (World.block_lt_of_cell? _ _ HP0.out)).trans HP0.out; have q1 := (hb.cell (World.block_lt_of_cell? _ _ HP1.out)).trans HP1.out; clear hb)
          go_ret
          exact ⟨ret_b ((decide_eq_false (by omega)).trans HF.out), HB.out⟩
      · have HF := Lib.hid (show false = r by rw [← hR, decide_eq_false hx]; rfl)
        have hx2 : x < 1 := by omega
        clear hR
        go_enter Try.func25, Try.ntmps25
        go_wp2_with (go_at_call 27; (with_reducible refine GR.out.mono ?_); rintro e w1 ⟨rfl, hb⟩; have HB := Lib.hid hb; have q0 := (hb.cell (World.block_lt_of_cell? _ _ HP0.out)).trans HP0.out; have q1 := (hb.cell (World.block_lt_of_cell? _ _ HP1.out)).trans HP1.out; clear hb)
        go_ret
        exact ⟨ret_b HF.out, HB.out⟩
  · have k1 : ¬ (l.length : Int) ≤ 32 := by omega
    have HF := Lib.hid (show false = r by rw [← HR.out]; unfold mayB; rw [decide_eq_false h1]; rfl)
    clear h0
    go_enter Try.func25, Try.ntmps25
    go_wp2
    go_ret
    exact ⟨ret_b HF.out, Below.refl _ _⟩

theorem upF_self {α : Type} (f : Int → α) (k : Int) : upF f k (f k) = f := by
  funext x
  unfold upF
  split
  · rename_i h
    rw [h]
  · rfl
section
variable {b ml mc : Nat} {pt : Int → Nat} {Gf : Int → Nat → Prop} {cl : Int → Cl} {F : Nat → Prop} {w : World} {T : Tb}
set_option maxHeartbeats 8000000 in
set_option maxRecDepth 100000 in
theorem tAskNext_any (h : TbR b ml mc pt Gf cl F w T) {t : Int} (hok : OkX T (some t)) : Calls Try.prog 31 #[ptr18 b, .int .i64 t] w fun e w' => e = .returned (.tuple #[]) ∧ ∃ Gf' F', TbR b ml mc pt Gf' cl F' w' (T.ask t) ∧ Mv F F' w w' := by
  obtain ⟨htk, _⟩ := hok.off t rfl
  have h64 := hok.tok64 htk
  obtain ⟨h1, h2, h3⟩ := h.ch t htk
  have hlk := MapC.look1 h.cm h64
  rw [(clG_at cl htk).1] at hlk
  obtain ⟨x, hx⟩ : ∃ x, cl t = x := ⟨_, rfl⟩
  rw [hx] at h1 h2 h3 hlk
  have hal := (Below.refl w.heap.size w).alloc (Nat.le_refl _) (.cells #[x.v, .int .i64 x.held] 73)
  have hwt := tWaits_any x (w.alloc (.cells #[x.v, .int .i64 x.held] 73))
  have hX := Blk.new w [x.v, .int .i64 x.held] 73
  obtain ⟨xg, xn, xc, xd⟩ := x
  simp only at h1 h2
  have c1 := h.blk.cell 1 rfl
  replace hlk : (Instr.lookup 67 (.map (some mc)) (.int .i64 t) false).run Try.prog w = .ok (.agg #[.slice (xg.map fun b => ⟨b, 0, none⟩) xn xc, .int .i64 xd]) w := hlk
  replace hwt : Calls Try.prog 49 #[.agg #[.slice (xg.map fun b => ⟨b, 0, none⟩) xn xc, .int .i64 xd]] _ _ := hwt
  dsimp only [Cl.v] at hal hwt hX h3
  generalize xg.map (fun b => (⟨b, 0, none⟩ : Addr)) = xa at *
  have H := Lib.hid h
  have HAL := Lib.hid hal
  have HX := Lib.hid hX
  have HOK := Lib.hid hok
  have H3 := Lib.hid h3
  have HTK := Lib.hid htk
  obtain ⟨T', hT'⟩ : ∃ T', T.ask t = T' := ⟨_, rfl⟩
  rw [hT']
  have HT' := Lib.hid hT'
  cases hn : T.nx t with
  | none =>
    have hg : T.got t = (T.want t).length := by
      have h1 := hok.gl _ htk
      have h2 := List.getElem?_eq_none_iff.1 hn
      omega
    rw [show decide (xd = (xn : Int)) = true from decide_eq_true (by omega)] at hwt
    have HW := Lib.hid hwt
    have HTT := Lib.hid (show T = T' from (Tb.ask_none hn).symm.trans hT')
    clear h htk h64 h1 h2 h3 hx hal hwt hX hok hT' hn hg
    go_enter Try.func31, Try.ntmps31
    go_wp2_with (go_at_call 49; (with_reducible refine HW.out.mono ?_); rintro e w1 ⟨rfl, b1⟩; have HB1 := Lib.hid (HAL.out.trans (b1.mono HAL.out.size)); clear b1)
    go_end0
    exact ⟨rfl, Gf, F, by rw [← HTT.out]; exact H.out.kept HB1.out, Mv.of_below HB1.out⟩
  | some id =>
    obtain ⟨hg, hge⟩ := nx_at hn
    have hid := hok.nx_ids htk hn
    have hwl := hok.wantlen htk
    rw [show decide (xd = (xn : Int)) = false from decide_eq_false (by omega)] at hwt
    have HW := Lib.hid hwt
    subst h1 h2
    obtain ⟨g, o, cc, e, hcc, hgz, p0⟩ := h3.spot (T.got t) hg
    cases e
    rw [hge] at p0
    have HP0 := Lib.hid p0
    have HHN := Lib.hid hn
    have HID := Lib.hid hid
    have hli := MapL.look1 h.lm (hok.ids64 hid)
    rw [lkG_at pt hid] at hli
    have HLI := Lib.hid fun (w' : World) (hb : Below w.heap.size w w') => (show (Instr.lookup 66 (.map (some ml)) (.int .i64 id) false).run Try.prog w' = .ok (ptr18 (pt id)) w' from by
      have := MapL.look1 (h.kept hb).lm (hok.ids64 hid)
      rwa [lkG_at pt hid] at this)
    have HASK := Lib.hid fun (w' : World) (hb : Below w.heap.size w w') => lkAsk_any t ((h.kept hb).lk id hid) h64
    have k1 : (T.got t : Int) < ((T.want t).length : Int) := by omega
    have k2 : (0 : Int) ≤ (T.got t : Int) := by omega
    have k3 : (T.got t : Int) ≤ 32 := by omega
    have k4 : ((T.want t).length : Int) ≤ 32 := by omega
    obtain ⟨er, her⟩ : ∃ er, (askL (T.hd id) (T.wt id) t).2 = er := ⟨_, rfl⟩
    obtain ⟨L', hL'⟩ : ∃ L', (askL (T.hd id) (T.wt id) t).1 = L' := ⟨_, rfl⟩
    simp only [her, hL'] at HASK
    have HLL := Lib.hid hL'
    have c0' := h.blk.cell 0 rfl
    have HC0 := Lib.hid c0'
    clear h htk h64 h3 hx hal hwt hX hok hn hg hge hid hwl p0 hli her hL' c0'
    go_enter Try.func31, Try.ntmps31
    go_upto_region 2 with (go_at_call 49; (with_reducible refine HW.out.mono ?_); rintro e w1 ⟨rfl, b1⟩; have HX1 := Lib.hid (HX.out.kept b1); have HB1 := Lib.hid (HAL.out.trans (b1.mono HAL.out.size)); clear b1)
    have c0 := (HB1.out.cell (World.block_lt_of_cell? _ _ HC0.out)).trans HC0.out
    have p0 := (HB1.out.cell (World.block_lt_of_cell? _ _ HP0.out)).trans HP0.out
    have x0 := HX1.out.cell 0 rfl
    have x1 := HX1.out.cell 1 rfl
    have HLI2 := fun (w' : World) (hb : Below w1.heap.size w1 w') => HLI.out w' (HB1.out.trans (hb.mono HB1.out.size))
    clear hlk c1
    refine wp_region_calmT 12 (by kernel_rfl) (by simp) (by kernel_rfl) fun M => ?_
    simp only [List.take_succ_cons, List.take_zero, List.drop_succ_cons, List.drop_zero]
    have e0 := fun n : In M.w => n.cell (M.cell c0)
    have e1 := fun n : In M.w => n.cell (M.cell x0)
    have e2 := fun n : In M.w => n.cell (M.cell x1)
    have e3 := fun n : In M.w => n.cell (M.cell p0)
    have e4 := fun n : In M.w => HLI2 n.w (M.h.trans (n.h.mono M.h.size))
    repeat (go_big_quiet_step (fail))
    refine wpQuiet_nil ?_
    clear e0 e1 e2 e3 e4 M
    intro w2 hb2
    have HB2 := Lib.hid (HB1.out.trans (hb2.mono HB1.out.size))
    clear hb2 c0 p0 x0 x1 HLI2
    go_wp2_with (go_at_call 57; (with_reducible refine (HASK.out _ HB2.out).mono ?_); rintro e w3 ⟨rfl, G', q1, q2⟩; have HQ1 := Lib.hid q1; have HQ2 := Lib.hid q2; clear q1 q2)
    go_end0
    obtain ⟨r1, r2⟩ := (H.out.kept HB2.out).lock HID.out HQ1.out HQ2.out
    rw [upF_self] at r1
    refine ⟨rfl, upF Gf id G', fun k => F k ∨ G' k, ?_, (Mv.of_below HB2.out).trans r2⟩
    have : T' = { T with wt := upF T.wt id L' } := by rw [← HT'.out, Tb.ask_some HHN.out, HLL.out]
    rw [this]
    exact r1

set_option maxHeartbeats 8000000 in
set_option maxRecDepth 100000 in
theorem tGoOn_any (h : TbR b ml mc pt Gf cl F w T) {t : Int} (htk : t ∈ T.toks) (hg : T.got t < (T.want t).length) (h32 : (T.want t).length ≤ 32) (h64 : I64 t) (h64l : T.toks.length ≤ 64) (hok : OkX { T with got := upF T.got t (T.got t + 1) } (some t)) :
    Calls Try.prog 42 #[ptr18 b, .int .i64 t] w fun e w' => e = .returned (.tuple #[]) ∧ ∃ Gf' cl' F', TbR b ml mc pt Gf' cl' F' w' (({ T with got := upF T.got t (T.got t + 1) } : Tb).ask t) ∧ Mv F F' w w' := by
  obtain ⟨h1, h2, h3⟩ := h.ch t htk
  have hcf := h.cf t htk
  have hlk := MapC.look1 h.cm h64
  rw [(clG_at cl htk).1] at hlk
  obtain ⟨x, hx⟩ : ∃ x, cl t = x := ⟨_, rfl⟩
  rw [hx] at h1 h2 h3 hlk hcf
  obtain ⟨xg, xn, xc, xd⟩ := x
  simp only at h1 h2
  subst h1 h2
  have c1 := h.blk.cell 1 rfl
  have HC1 := Lib.hid c1
  replace hlk : (Instr.lookup 67 (.map (some mc)) (.int .i64 t) false).run Try.prog w = .ok (.agg #[.slice (xg.map fun b => ⟨b, 0, none⟩) (T.want t).length xc, .int .i64 (T.got t)]) w := hlk
  have hal := (Below.refl w.heap.size w).alloc (Nat.le_refl _) (.cells #[.slice (xg.map fun b => ⟨b, 0, none⟩) (T.want t).length xc, .int .i64 ((T.got t : Int) + 1)] 73)
  have hX := Blk.new w [.slice (xg.map fun b => ⟨b, 0, none⟩) (T.want t).length xc, .int .i64 ((T.got t : Int) + 1)] 73
  have HAL := Lib.hid hal
  have HX := Lib.hid hX
  have HPUT := Lib.hid fun (w' : World) (hb : Below w.heap.size w w') => (show ∃ w'', (Instr.mapUpdate 67 (.map (some mc)) (.int .i64 t) (.agg #[.slice (xg.map fun b => ⟨b, 0, none⟩) (T.want t).length xc, .int .i64 ((T.got t : Int) + 1)])).run Try.prog w' = .ok () w'' ∧ TbR b ml mc pt Gf (upF cl t ⟨xg, (T.want t).length, xc, (T.got t : Int) + 1⟩) (fun k => F k ∨ False) w'' { T with got := upF T.got t (T.got t + 1) } ∧ w'.grownBy w'' (some mc) from by
    have k := h.kept hb
    obtain ⟨w'', q1, q2, q3⟩ := MapC.put k.cm (by omega) h64 ⟨xg, (T.want t).length, xc, (T.got t : Int) + 1⟩
    rw [(clG_at cl htk).2, if_pos rfl] at q2
    refine ⟨w'', q1, k.claim (X := fun _ => False) rfl rfl rfl (fun x => ⟨.inr, fun h => h.elim (fun e => e ▸ htk) fun h => h⟩) (fun x hx => ⟨upF_ne _ _ hx, rfl⟩) ⟨?_, rfl, h3.below hb⟩ (fun h0 k hk => ?_) (fun _ h => h.elim) q3 q2, q3⟩
    · show (T.got t : Int) + 1 = ((upF T.got t (T.got t + 1) t : Nat) : Int)
      rw [upF_same]
      simp
    · obtain ⟨a1, a2⟩ := hcf h0 k hk
      exact ⟨.inl a1, a2⟩)
  have HFC := Lib.hid h.fc
  have HASK := Lib.hid fun (w' : World) (q : TbR b ml mc pt Gf (upF cl t ⟨xg, (T.want t).length, xc, (T.got t : Int) + 1⟩) (fun k => F k ∨ False) w' { T with got := upF T.got t (T.got t + 1) }) => tAskNext_any q hok
  obtain ⟨T2, hT2⟩ : ∃ T2, (({ T with got := upF T.got t (T.got t + 1) } : Tb)) = T2 := ⟨_, rfl⟩
  rw [hT2] at HPUT HASK ⊢
  obtain ⟨T3, hT3⟩ : ∃ T3, T2.ask t = T3 := ⟨_, rfl⟩
  rw [hT3] at HASK ⊢
  have k1 : (T.got t : Int) + 1 ≤ 32 := by omega
  have k2 : (0 : Int) ≤ (T.got t : Int) := by omega
  generalize hn : (T.want t).length = n at *
  generalize (T.got t : Int) = j at *
  have hwr : IntKind.i64.wrap (j + 1) = j + 1 := by rw [IntKind.wrap_i64]; omega
  generalize xg.map (fun b => (⟨b, 0, none⟩ : Addr)) = xa at *
  clear h htk hg h32 h64 h64l hok h3 hcf hx hal hX hT2 hT3 hn
  go_enter Try.func42, Try.ntmps42
  go_upto_region 2 with fail
  have c1 := (HAL.out.cell (World.block_lt_of_cell? _ _ HC1.out)).trans HC1.out
  have x0 := HX.out.cell 0 rfl
  have x1 := HX.out.cell 1 rfl
  generalize w.alloc (.cells #[.slice xa n xc, .int .i64 (j + 1)] 73) = w1 at *
  clear hlk
  refine wp_region_calmT 6 (by kernel_rfl) (by simp) (by kernel_rfl) fun M => ?_
  simp only [List.take_succ_cons, List.take_zero, List.drop_succ_cons, List.drop_zero]
  have e0 := fun n : In M.w => n.cell (M.cell c1)
  have e1 := fun n : In M.w => n.cell (M.cell x0)
  have e2 := fun n : In M.w => n.cell (M.cell x1)
  repeat (go_big_quiet_step (fail))
  refine wpQuiet_nil ?_
  clear e0 e1 e2 M
  intro w2 hb2
  have HB2 := Lib.hid (HAL.out.trans (hb2.mono HAL.out.size))
  obtain ⟨w3, hrun, q2, q3⟩ := HPUT.out w2 HB2.out
  have HQ2 := Lib.hid q2
  have HQ3 := Lib.hid q3
  clear hb2 c1 x0 x1 q2 q3
  go_upto_region 3 with fail
  clear hrun
  go_wp2_with (go_at_call 31; (with_reducible refine (HASK.out _ HQ2.out).mono ?_); rintro e w4 ⟨rfl, Gf4, F4, r1, r2⟩; have HR1 := Lib.hid r1; have HR2 := Lib.hid r2; clear r1 r2)
  go_end0
  have hmv : Mv F (fun k => F k ∨ False) w w3 := ⟨(Only.of_below HB2.out).trans (Only.grown HQ3.out fun k hk => by have := Option.some.inj hk; rw [← this]; exact HFC.out), fun k hk => .inl (hk.elim (fun h => h) fun h => h.elim)⟩
  exact ⟨rfl, Gf4, _, F4, HR1.out, hmv.trans HR2.out⟩

/-- all locks, by rising IDs: a function that is handed on (g) is told each -/
theorem tEach_any {J : Nat → (Nat → Prop) → World → Prop} (KJ : KeepJ J) (g : FuncId) (caps : Array Value) (eg : ∀ args w, (callFunc g args).run Try.prog w = .ok (.enter g args) w)
    (h : TbR b ml mc pt Gf cl F w T) (hok : T.Ok) (F0 : Nat → Prop) (hJ : J 0 F0 w) (hF0 : ∀ k, F0 k → k < w.heap.size)
    (hR : ∀ i F' w', J i F' w' → Blk w' b [.map (some ml), .map (some mc)] ∧ MapL w' ml T.ids.length (lkG T pt))
    (hT : ∀ i F' w' (hi : i < T.ids.length), J i F' w' → Calls Try.prog g (#[.int .i64 T.ids[i], ptr18 (pt T.ids[i])] ++ caps) w' fun e w'' => e = .returned (.tuple #[]) ∧ ∃ F'', J (i + 1) F'' w'' ∧ Mv F' F'' w' w'') :
    Calls Try.prog 39 #[ptr18 b, .func (.func g) #[] caps] w fun e w' => e = .returned (.tuple #[]) ∧ ∃ F', J T.ids.length F' w' ∧ Mv F0 F' w w' := by
  have HID := Lib.hid (tIds_any h hok)
  have HJ := Lib.hid hJ
  have HF0 := Lib.hid hF0
  have HT := Lib.hid hT
  have HR := Lib.hid hR
  have HI64 := Lib.hid (fun id (hi : id ∈ T.ids) => (show I64 id ∧ ptv ((lkG T pt id).getD none) = ptr18 (pt id) from ⟨hok.ids64 hi, lkG_at pt hi⟩))
  have HLEN := Lib.hid (may_len hok.may)
  clear h hok hJ hF0 hT hR
  go_enter Try.func39, Try.ntmps39
  go_wp2
  refine wp_scope_goto 0 (fun n a' w' => ∃ (j : Nat) (z : Int) (F1 : Nat → Prop) (la : Option Addr) (lc : Nat), n = T.ids.length - j ∧ z = j ∧ j ≤ T.ids.length ∧ IntsAt w' (.slice la T.ids.length lc) T.ids ∧ OffV F1 (.slice la T.ids.length lc) T.ids.length ∧ J j F1 w' ∧ Mv F0 F1 w w' ∧ ∃ u2 u3 u6 u7 u8 u9 u10 u11 u12 u13 u14 u15 u16 u17 u18 u19 u20 u21 u22 u23 u24 u25 u26 u27 u28, a' = { tmps := #[ptr18 b, .func (.func g) #[] caps, u2, u3, .slice la T.ids.length lc, .int .i64 z, u6, u7, u8, u9, u10, u11, u12, u13, u14, u15, u16, u17, u18, u19, u20, u21, u22, u23, u24, u25, u26, u27, u28], defers := [] }) rfl rfl ?_ ?_
  · rintro n a' w' ⟨j, _, F1, la, lc, rfl, rfl, hj, hli, hoff, hj2, hmv, u2, u3, u6, u7, u8, u9, u10, u11, u12, u13, u14, u15, u16, u17, u18, u19, u20, u21, u22, u23, u24, u25, u26, u27, u28, rfl⟩ K hK
    have HK := Lib.hid hK
    have HJ2 := Lib.hid hj2
    have HM := Lib.hid hmv
    have HLI := Lib.hid hli
    have HOFF := Lib.hid hoff
    obtain ⟨hblk, hlm⟩ := HR.out j F1 w' hj2
    have HJL := Lib.hid hj
    clear hK hj2 hmv hoff
    by_cases hlt : j < T.ids.length
    · obtain ⟨gb, o, cc, e, _, _, p0⟩ := hli.spot j hlt
      cases e
      have hm := List.getElem_mem hlt
      obtain ⟨h64, hpt⟩ := HI64.out _ hm
      have HCALL := Lib.hid fun (w2 : World) (hb : Below w'.heap.size w' w2) => HT.out j F1 w2 hlt (KJ.kept HJ2.out hb)
      generalize T.ids[j] = id at *
      have HLK := Lib.hid fun (w2 : World) (hb : Below w'.heap.size w' w2) => (show (Instr.lookup 66 (.map (some ml)) (.int .i64 id) false).run Try.prog w2 = .ok (ptr18 (pt id)) w2 from by
        have := MapL.look1 (MapG.kept hlm hb) h64
        rwa [hpt] at this)
      have c0 := hblk.cell 0 rfl
      have j0 : (0 : Int) ≤ (j : Int) := by omega
      have j1 : (j : Int) < (T.ids.length : Int) := by omega
      have j2 : (j : Int) ≤ 32 := by have := HLEN.out; omega
      have HLT := Lib.hid hlt
      clear hli hblk hlm hm h64 hpt
      go_upto_region 3 with fail
      refine wp_region_calmT 14 (by kernel_rfl) (by simp) (by kernel_rfl) fun M => ?_
      simp only [List.take_succ_cons, List.take_zero, List.drop_succ_cons, List.drop_zero]
      have e0 := fun n : In M.w => n.cell (M.cell c0)
      have e1 := fun n : In M.w => n.cell (M.cell p0)
      have e2 := fun n : In M.w => HLK.out n.w (M.h.trans (n.h.mono M.h.size))
      repeat (go_big_quiet_step (fail))
      refine wpQuiet_nil ?_
      clear e0 e1 e2 M
      intro w2 hb2
      have HB2 := Lib.hid hb2
      clear hb2 c0 p0
      go_wp2_with (go_at_fn g; (with_reducible refine (HCALL.out _ HB2.out).mono ?_); rintro e w3 ⟨rfl, F3, q1, q2⟩; have HQ1 := Lib.hid q1; have HQ2 := Lib.hid q2; clear q1 q2)
      go_step3
      have hli2 := HLI.out.below HB2.out
      exact ⟨rfl, HK.out (T.ids.length - (j + 1)) _ _ (by have := HLT.out; omega) ⟨j + 1, _, F3, _, _, rfl, by omega, by have := HLT.out; omega, (hli2.rows.only HQ2.out.only HOFF.out).ints, HOFF.out.mv hli2.rows HQ2.out, HQ1.out, (HM.out.trans (Mv.of_below HB2.out)).trans HQ2.out, _, _, _, _, _, _, _, _, _, _, _, _, _, _, _, _, _, _, _, _, _, _, _, _, _,  rfl⟩⟩
    · have e : j = T.ids.length := by omega
      subst e
      have g2 : ¬ (T.ids.length : Int) < (T.ids.length : Int) := by omega
      clear hlt hli hblk hlm
      go_wp2
      simp only [Exit.jump]
      go_end0
      exact ⟨rfl, F1, HJ2.out, HM.out⟩
  · intro K hpass
    go_wp2_with (go_at_call 29; (with_reducible refine HID.out.mono ?_); rintro e w1 ⟨v1, rfl, h1, n1, b1⟩; obtain ⟨la, lc, e1⟩ := h1.form; subst e1; have H1 := Lib.hid h1; have N1 := Lib.hid n1; have B1 := Lib.hid b1; clear h1 n1 b1)
    go_step3
    rename_i hback
    exact hback _ _ (hpass (T.ids.length - 0) _ _ ⟨0, _, F0, la, lc, rfl, rfl, by omega, H1.out, fun _ k hk hf => by have := N1.out k hk; have := HF0.out k hf; omega, KJ.kept HJ.out B1.out, Mv.of_below B1.out, _, _, _, _, _, _, _, _, _, _, _, _, _, _, _, _, _, _, _, _, _, _, _, _, _,  rfl⟩)
end
end Go.Proofs.Ytieopbeimcmheaa
/- Stage 20's program: Scan. -/
namespace Go.Proofs.Ytieopbeimcmheaa
open Go.RowKit Go.Maps

/-- the first i locks have granted: the box of the table, the box of the grants -/
structure ScJ (b ml mc : Nat) (pt : Int → Nat) (T : Tb) (q i : Nat) (FJ : Nat → Prop) (w : World) (Gf : Int → Nat → Prop) (cl : Int → Cl) (F : Nat → Prop) (vv : Value) : Prop where
  tb : TbR b ml mc pt Gf cl F w (T.scanL (T.ids.take i)).1
  b1 : Blk w q [ptr18 b]
  b2 : Blk w (q + 1) [vv]
  own : OwnR w (q + 2) 49 2 csG vv (T.scanL (T.ids.take i)).2
  few : (T.scanL (T.ids.take i)).2.length ≤ i
  nF : ∀ k, F k → k ≠ q ∧ k ≠ q + 1 ∧ vv.ownBlock ≠ some k
  fF : ∀ k, F k → FJ k
  fq : FJ q
  fr : FJ (q + 1)
  fo : ∀ k, vv.ownBlock = some k → FJ k
  lt : ∀ k, FJ k → k < w.heap.size
section
variable {b ml mc : Nat} {pt : Int → Nat} {Gf : Int → Nat → Prop} {cl : Int → Cl} {F : Nat → Prop} {w w' : World} {T : Tb} {q i : Nat} {FJ : Nat → Prop} {vv : Value}
theorem ScJ.keep : KeepJ (fun i FJ w => ∃ Gf cl F vv, ScJ b ml mc pt T q i FJ w Gf cl F vv) where
  lt := fun ⟨_, _, _, _, h⟩ => h.lt
  out := fun ⟨Gf, cl, F, vv, h⟩ hz he => ⟨Gf, cl, F, vv, { tb := h.tb.same hz fun k hk => he k (h.fF k hk), b1 := h.b1.same (he q h.fq), b2 := h.b2.same (he _ h.fr), own := OwnR.sameB h.own fun k hk => he k (h.fo k hk), few := h.few, nF := h.nF, fF := h.fF, fq := h.fq, fr := h.fr, fo := h.fo, lt := fun k hk => Nat.lt_of_lt_of_le (h.lt k hk) hz }⟩
theorem ScJ.next (h : ScJ b ml mc pt T q i FJ w Gf cl F vv) {w2 w3 : World} {Gf2 : Int → Nat → Prop} {cl2 : Int → Cl} {F2 : Nat → Prop} {vv' : Value} (ht : TbR b ml mc pt Gf2 cl2 F2 w2 (T.scanL (T.ids.take (i + 1))).1) (hm : Mv F F2 w w2) (ho : Only (fun k => k = q + 1 ∨ vv.ownBlock = some k) w2 w3)
    (hb : Blk w3 (q + 1) [vv']) (hw : OwnR w3 (q + 2) 49 2 csG vv' (T.scanL (T.ids.take (i + 1))).2) (hf : (T.scanL (T.ids.take (i + 1))).2.length ≤ i + 1) (hv : ∀ k, vv'.ownBlock = some k → vv.ownBlock = some k ∨ w2.heap.size ≤ k) :
    ∃ FJ', (∃ Gf cl F vv, ScJ b ml mc pt T q (i + 1) FJ' w3 Gf cl F vv) ∧ Mv FJ FJ' w w3 := by
  have hq := h.lt q h.fq
  have hr := h.lt _ h.fr
  have hvl : ∀ k, vv.ownBlock = some k → q + 2 ≤ k ∧ k < w.heap.size := h.own.lt
  have hz2 := hm.only.size
  have hz3 := ho.size
  have hF2 : ∀ k, F2 k → k ≠ q ∧ k ≠ q + 1 ∧ vv.ownBlock ≠ some k := fun k hk => by
    rcases hm.sub k hk with hk | hk
    · exact h.nF k hk
    · exact ⟨by omega, by omega, fun e => by have := hvl k e; omega⟩
  refine ⟨fun k => FJ k ∨ (w.heap.size ≤ k ∧ k < w3.heap.size), ⟨Gf2, cl2, F2, vv', { tb := ht.same hz3 fun k hk => ho.block k (ht.lt k hk) (fun e => e.elim (hF2 k hk).2.1 (hF2 k hk).2.2), b1 := ?_, b2 := hb, own := hw, few := hf, nF := fun k hk => ⟨(hF2 k hk).1, (hF2 k hk).2.1, fun e => ?_⟩, fF := fun k hk => ?_, fq := .inl h.fq, fr := .inl h.fr, fo := fun k hk => ?_, lt := fun k hk => ?_ }⟩, ?_, fun k hk => hk.imp (fun h => h) fun h => h.1⟩
  · refine (h.b1.same (hm.only.block q hq fun hf => (h.nF q hf).1 rfl)).same (ho.block q (by omega) fun e => ?_)
    rcases e with e | e
    · omega
    · have := hvl q e
      omega
  · rcases hv k e with e | e
    · exact (hF2 k hk).2.2 e
    · have := ht.lt k hk
      omega
  · rcases hm.sub k hk with h1 | h1
    · exact .inl (h.fF k h1)
    · have := ht.lt k hk
      exact .inr ⟨h1, by omega⟩
  · rcases hv k hk with e | e
    · exact .inl (h.fo k e)
    · have := (hw.lt k hk).2
      exact .inr ⟨by omega, this⟩
  · rcases hk with hk | hk
    · have := h.lt k hk
      omega
    · exact hk.2
  · exact (hm.only.mono h.fF).trans (ho.mono fun k hk => hk.elim (fun e => e ▸ h.fr) (h.fo k))

theorem info_grantA : (Try.prog.info? 49).map (fun i => (i.zero, i.size, i.bytes)) = some (some (.agg #[.int .i64 0, .int .i64 0]), 2, 16) := by kernel_rfl
theorem appA {ops : Array Oper} {rest : List Oper} {o : Oper} {a : Act} {Q : Exit → Act → World → Prop} {B : Nat} {w : World} (t id : Int) {v : Value} {l : List (Int × Int)} (hown : OwnR w B 49 2 csG v l) (hB : B ≤ w.heap.size) (hl : l.length ≤ 1000000)
    (hgd : o.guard = none) (s y : Operand) (ho : o.op = .call { callee := .builtin .append, args := #[s, y], argTypes := #[43, 43] }) (hs : a.eval s = v) (hx : a.eval y = .slice (some ⟨w.heap.size, 0, none⟩) 1 1)
    (hK : ∀ v' w', OwnR w' B 49 2 csG v' (l ++ [(t, id)]) → Below B w w' → Only (fun k => v.ownBlock = some k) w w' → (∀ k, v'.ownBlock = some k → v.ownBlock = some k ∨ w.heap.size ≤ k) → wpList Try.prog ops Q rest (a.put o.dst v') w') : wpList Try.prog ops Q (o :: rest) a (w.alloc (.cells #[.int .i64 t, .int .i64 id] 49)) := by
  obtain ⟨i, hi, hz, hs1, hb1⟩ := info_parts info_grantA
  exact appK csG_len (by decide) csG_one 49 43 i _ 16 Try.underlying43 hi hz hs1 hb1 rfl (by decide) hown hB hl hgd s y ho hs hx hK

set_option maxHeartbeats 8000000 in
set_option maxRecDepth 100000 in
theorem tScan1_any (h : ScJ b ml mc pt T q i FJ w Gf cl F vv) (hok : T.Ok) (hi : i < T.ids.length) :
    Calls Try.prog 40 #[.int .i64 T.ids[i], ptr18 (pt T.ids[i]), .pointer (some ⟨q, 0, none⟩), .pointer (some ⟨q + 1, 0, none⟩)] w fun e w' => e = .returned (.tuple #[]) ∧ ∃ FJ', (∃ Gf cl F vv, ScJ b ml mc pt T q (i + 1) FJ' w' Gf cl F vv) ∧ Mv FJ FJ' w w' := by
  have hnx := scanL_next T T.ids i hi
  have hTi := scanL_ids T (T.ids.take i)
  have hok2 := scanL_ok hok (T.ids.take i) fun x hx => List.mem_of_mem_take hx
  have h32 := may_len hok.may
  have HNEXT := Lib.hid fun (w2 w3 : World) (Gf2 : Int → Nat → Prop) (cl2 : Int → Cl) (F2 : Nat → Prop) (vv' : Value) => h.next (w2 := w2) (w3 := w3) (Gf2 := Gf2) (cl2 := cl2) (F2 := F2) (vv' := vv')
  have htb := h.tb
  have hown := h.own
  have hfew := h.few
  obtain ⟨P, gs, hP⟩ : ∃ P gs, T.scanL (T.ids.take i) = (P, gs) := ⟨_, _, rfl⟩
  rw [hP] at hnx hTi hok2 htb hown hfew
  simp only at hnx hTi hok2 htb hown hfew
  have hm : T.ids[i] ∈ P.ids := by rw [hTi.1]; exact List.getElem_mem hi
  generalize T.ids[i] = id at *
  have hg := lkGrant_any (htb.lk id hm)
  simp only at hg
  have HNX := Lib.hid hnx
  have HTB := Lib.hid htb
  have HM := Lib.hid hm
  have HB2 := Lib.hid h.b2
  have HOWN := Lib.hid hown
  have HFEW := Lib.hid hfew
  have HNF := Lib.hid h.nF
  have HQZ := Lib.hid (And.intro (h.lt q h.fq) (h.lt _ h.fr))
  have HB1 := Lib.hid h.b1
  have H32 := Lib.hid (show i < 32 by omega)
  have hGF : ∀ k, Gf id k → F k := htb.fg id hm
  obtain ⟨va, vc, ev⟩ := RowsAt.form (OwnR.rows csG_len hown)
  rcases step_cases P id with hno | ⟨t, r, h0, hw⟩
  · have hgr : grantL (P.hd id) (P.wt id) = (P.hd id, P.wt id, 0, false) := by
      unfold grantL
      rcases hno with h | h
      · rw [if_neg h]
      · rw [h]; split <;> rfl
    rw [step_none hno, List.append_nil] at HNX
    rw [hgr] at hg
    simp only at hg
    have HG := Lib.hid hg
    have HGF := Lib.hid hGF
    clear h htb hown hfew hnx hTi hok2 hm hg hok h32 hi hP hGF hgr hno
    go_enter Try.func40, Try.ntmps40
    go_wp2_with (go_at_call 41; (with_reducible refine HG.out.mono ?_); rintro e w1 ⟨rfl, G', g1, g2⟩; have G1 := Lib.hid g1; have G2 := Lib.hid g2; clear g1 g2)
    go_end0
    obtain ⟨r1, r2⟩ := HTB.out.lock HM.out G1.out G2.out
    rw [upF_self, upF_self] at r1
    refine ⟨rfl, HNEXT.out w1 w1 _ _ _ vv (by rw [HNX.out]; exact r1) r2 (Only.refl _ _) (HB2.out.same (r2.only.block _ HQZ.out.2 fun hf => (HNF.out _ hf).2.1 rfl)) (by rw [HNX.out]; exact OwnR.sameB HOWN.out fun k hk => r2.only.block k (HOWN.out.lt k hk).2 fun hf => (HNF.out _ hf).2.2 hk) (by rw [HNX.out]; have := HFEW.out; simp only; omega) (fun k hk => .inl hk)⟩
  · have hmt : t ∈ P.wt id := by rw [hw]; simp
    obtain ⟨htk, hnt⟩ := hok2.wait id hm t hmt
    obtain ⟨hgt, hge⟩ := nx_at hnt
    clear hge
    have hgo := give_ok hok2 hm h0 hw
    have hgr : grantL (P.hd id) (P.wt id) = (t, r, t, true) := by
      unfold grantL
      rw [if_pos h0, hw]
    rw [step_some h0 hw] at HNX
    rw [hgr] at hg
    simp only at hg
    have HG := Lib.hid hg
    have HGF := Lib.hid hGF
    have HGO := Lib.hid fun (w1 : World) (Gf1 : Int → Nat → Prop) (F1 : Nat → Prop) (q1 : TbR b ml mc pt Gf1 cl F1 w1 { P with hd := upF P.hd id t, wt := upF P.wt id r }) => tGoOn_any q1 (t := t) htk hgt (hok2.wantlen htk) (hok2.tok64 htk) hok2.few hgo
    have HTOK := Lib.hid htk
    clear h htb hown hfew hnx hTi hok2 hm hg hok h32 hi hP hGF hgr h0 hw hmt htk hnt hgt hgo
    subst ev
    go_enter Try.func40, Try.ntmps40
    go_upto_region 2 with (go_at_call 41; (with_reducible refine HG.out.mono ?_); rintro e w1 ⟨rfl, G', g1, g2⟩; have G1 := Lib.hid g1; have G2 := Lib.hid g2; clear g1 g2)
    obtain ⟨r1, r2⟩ := HTB.out.lock HM.out G1.out G2.out
    have R1 := Lib.hid r1
    have R2 := Lib.hid r2
    have c0 := (HB1.out.same (r2.only.block _ HQZ.out.1 fun hf => (HNF.out _ hf).1 rfl)).cell 0 rfl
    have hgo := HGO.out w1 _ _ R1.out
    have HGN := Lib.hid hgo
    clear r1 r2 hgo
    go_upto_region 3 with (go_at_call 42; (with_reducible refine HGN.out.mono ?_); rintro e w2 ⟨rfl, Gf2, cl2, F2, s1, s2⟩; have S1 := Lib.hid s1; have S2 := Lib.hid (R2.out.trans s2); clear s1 s2)
    clear c0
    have hb2 := HB2.out.same (S2.out.only.block _ HQZ.out.2 fun hf => (HNF.out _ hf).2.1 rfl)
    have hown2 : OwnR w2 (q + 2) 49 2 csG (.slice va gs.length vc) gs := OwnR.sameB HOWN.out fun k hk => S2.out.only.block k (HOWN.out.lt k hk).2 fun hf => (HNF.out _ hf).2.2 hk
    have HB22 := Lib.hid hb2
    have HOWN2 := Lib.hid hown2
    have HZ2 := Lib.hid (show q + 2 ≤ w2.heap.size by have := HQZ.out.2; have := S2.out.only.size; omega)
    have c1 := hb2.cell 0 rfl
    clear hb2 hown2
    go_upto_region 4 with (at_builtin; refine appA t id HOWN2.out HZ2.out (by have := HFEW.out; have := H32.out; omega) rfl _ _ rfl rfl rfl ?_; intro v8 w8 o8 b8 m8 n8; obtain ⟨a8, c8, e8⟩ := RowsAt.form (OwnR.rows csG_len o8); simp only [List.length_append, List.length_singleton] at e8; subst e8; have HO8 := Lib.hid o8; have HM8 := Lib.hid m8; have HN8 := Lib.hid n8; have hb8 := HB22.out.same (m8.block _ HZ2.out fun e => by have := (HOWN2.out.lt _ e).1; omega); have HB8 := Lib.hid hb8; have d0 := hb8.cell 0 rfl; have d1 := hb8.free 0 rfl; clear o8 b8 m8 n8 hb8 c1)
    have hb9 := HB8.out.set 0 (.slice a8 (gs.length + 1) c8)
    have HB9 := Lib.hid hb9
    have HO9 := Lib.hid (OwnR.away HO8.out ⟨q + 1, 0, none⟩ (.slice a8 (gs.length + 1) c8) (fun e => by have := (HO8.out.lt (q + 1) e).1; omega))
    have HM9 := Lib.hid ((HM8.out.mono (F' := fun k => k = q + 1 ∨ (Value.slice va gs.length vc).ownBlock = some k) (fun k hk => .inr hk)).set ⟨q + 1, 0, none⟩ (.slice a8 (gs.length + 1) c8) (.inl rfl))
    clear hb9
    go_wp2
    go_end0
    exact ⟨rfl, HNEXT.out w2 _ _ _ _ (.slice a8 (gs.length + 1) c8) (by rw [HNX.out]; exact S1.out) S2.out HM9.out HB9.out (by rw [HNX.out]; exact HO9.out) (by rw [HNX.out]; have := HFEW.out; simp only [List.length_append, List.length_singleton]; omega) HN8.out⟩

set_option maxHeartbeats 8000000 in
set_option maxRecDepth 100000 in
theorem tScan_any (h : TbR b ml mc pt Gf cl F w T) (hok : T.Ok) : Calls Try.prog 14 #[ptr18 b] w fun e w' => ∃ v, e = .returned v ∧ RowsAt w' 2 csG v T.scan.2 ∧ (∀ k, v.ownBlock = some k → w.heap.size ≤ k) ∧ ∃ F', TbAt F' w' (ptr18 b) T.scan.1 ∧ Mv F F' w w' := by
  have hmf : ∀ (fn : Fn) (first cap : Array Value) (w : World), (Instr.makeFunc fn first cap).run Try.prog w = .ok (.func fn first cap) w := fun _ _ _ _ => rfl
  have hal1 := (Below.refl w.heap.size w).alloc (Nat.le_refl _) (.cells #[ptr18 b] 26)
  have hX0 := Blk.new w [ptr18 b] 26
  have hal2 := (Below.refl (w.alloc (.cells #[ptr18 b] 26)).heap.size _).alloc (Nat.le_refl _) (.cells #[.slice none 0 0] 43)
  have hY := Blk.new (w.alloc (.cells #[ptr18 b] 26)) [.slice none 0 0] 43
  rw [show (w.alloc (.cells #[ptr18 b] 26)).heap.size = w.heap.size + 1 by simp] at hY
  have hX := hX0.kept hal2
  have hal := hal1.trans (hal2.mono hal1.size)
  have hsz : ((w.alloc (.cells #[ptr18 b] 26)).alloc (.cells #[.slice none 0 0] 43)).heap.size = w.heap.size + 2 := by simp
  have h1 := h.kept hal
  have hJ : ScJ b ml mc pt T w.heap.size 0 (fun k => F k ∨ k = w.heap.size ∨ k = w.heap.size + 1) ((w.alloc (.cells #[ptr18 b] 26)).alloc (.cells #[.slice none 0 0] 43)) Gf cl F (.slice none 0 0) :=
    { tb := h1, b1 := hX, b2 := hY, own := OwnR.nil _ _ _ _ _, few := Nat.zero_le _, nF := fun k hk => by have := h.lt k hk; exact ⟨by omega, by omega, by simp [Value.ownBlock]⟩, fF := fun k hk => .inl hk, fq := .inr (.inl rfl), fr := .inr (.inr rfl), fo := fun k hk => by simp [Value.ownBlock] at hk, lt := fun k hk => by rcases hk with hk | hk | hk; { exact h1.lt k hk }; { omega }; { omega } }
  have HE := Lib.hid (tEach_any (ScJ.keep (b := b) (ml := ml) (mc := mc) (pt := pt) (T := T) (q := w.heap.size)) 40 #[.pointer (some ⟨w.heap.size, 0, none⟩), .pointer (some ⟨w.heap.size + 1, 0, none⟩)] (fun _ _ => by kernel_rfl) h1 hok _ ⟨_, _, _, _, hJ⟩ hJ.lt
    (fun i F' w' ⟨_, _, _, _, h⟩ => ⟨h.tb.blk, by
      have h9 := h.tb.lm
      have e := (scanL_ids T (T.ids.take i)).1
      have e2 : lkG (T.scanL (T.ids.take i)).1 pt = lkG T pt := by unfold lkG; rw [e]
      rw [e, e2] at h9
      exact h9⟩) (fun i F' w' hi ⟨_, _, _, _, h⟩ => tScan1_any h hok hi))
  have HAL := Lib.hid hal
  have HSZ := Lib.hid hsz
  have HLT := Lib.hid h.lt
  have hok9 := scan_ok hok
  have e9 : T.scanL (T.ids.take T.ids.length) = T.scan := by rw [List.take_length]; rfl
  have HOK := Lib.hid hok9
  have HE9 := Lib.hid e9
  have c0 := hX.cell 0 rfl
  clear h hok hal1 hX0 hal2 hY hX hal hsz h1 hJ hok9 e9
  go_enter Try.func14, Try.ntmps14
  go_upto_region 3 with (go_at_call 39; (with_reducible refine HE.out.mono ?_); rintro e w1 ⟨rfl, FJ', ⟨Gf2, cl2, F2, vv, hj⟩, hm⟩; have HJ2 := Lib.hid hj; have HM2 := Lib.hid hm; have c1 := hj.b2.cell 0 rfl; clear hj hm)
  go_wp2
  go_ret
  have hj := HJ2.out
  have htb := hj.tb
  have how := OwnR.rows csG_len hj.own
  rw [HE9.out] at htb how
  have ho := HM2.out.only
  have ha := HAL.out
  refine ⟨_, rfl, how, fun k hk => (by have := (OwnR.lt hj.own k hk).1; omega), F2, ⟨HOK.out, b, ml, mc, pt, Gf2, cl2, rfl, htb⟩, ⟨ho.os.trans ha.os, ho.tape.trans ha.tape, ho.output.trans ha.output, Nat.le_trans ha.size ho.size, fun k hk hf => (ho.block k (by rw [HSZ.out]; omega) fun h => ?_).trans (ha.block k hk)⟩, fun k hk => ?_⟩
  · rcases h with h | h | h
    · exact hf h
    · omega
    · omega
  · rcases HM2.out.sub k (hj.fF k hk) with h | h
    · rcases h with h | h | h
      · exact .inl h
      · exact .inr (by omega)
      · exact .inr (by omega)
    · rw [HSZ.out] at h
      exact .inr (by omega)
end
end Go.Proofs.Ytieopbeimcmheaa
