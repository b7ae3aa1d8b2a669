/- Texts of this proof, joined: TbE; TbI; AisRefE; AisRefD; AisLawA; AisLawB; AisSafeM; AisLawG. -/
import Derived.Test.YtjmgokjljmmmgaaGreatBun21
import Derived.Deep.RegionLaw
import Derived.BigRegion
import Derived.Deep.AppendLies
import Derived.Deep.RegionHeld3
import Derived.Deep.DeepCutAuto
/- Stage 20's program: View. -/
namespace Go.Proofs.YtjmgokjljmmmgaaGreat
open Go.RowKit Go.Maps

/-- the first i locks have been shown: the box p, the row in it -/
structure VwJ (b ml mc : Nat) (pt : Int → Nat) (Gf : Int → Nat → Prop) (cl : Int → Cl) (F : Nat → Prop) (T : Tb) (w0 : World) (p : Nat) (i : Nat) (FJ : Nat → Prop) (w : World) (vv : Value) (Vs : List Lr) : Prop where
  tb : TbR b ml mc pt Gf cl F w T
  box : Blk w p [vv]
  own : OwnR w (p + 1) 50 3 csL vv Vs
  eq : Vs.map lkp = T.lks.take i
  ea : ∀ x ∈ Vs, IntsAt w x.v x.wait ∧ (0 < x.wait.length → ∀ k, x.v.ownBlock = some k → FJ k ∧ p < k ∧ vv.ownBlock ≠ some k)
  fb : ∀ k, k < p → FJ k
  old : ∀ k, k < p → w.heap[k]? = w0.heap[k]?
  fp : FJ p
  fo : ∀ k, vv.ownBlock = some k → FJ k
  bF : ∀ k, F k → k < p
  lt : ∀ k, FJ k → k < w.heap.size
section
variable {b ml mc : Nat} {pt : Int → Nat} {Gf : Int → Nat → Prop} {cl : Int → Cl} {F : Nat → Prop} {w0 w w' : World} {T : Tb} {p i : Nat} {FJ : Nat → Prop}
theorem VwJ.keep : KeepJ (fun i FJ w => ∃ vv Vs, VwJ b ml mc pt Gf cl F T w0 p i FJ w vv Vs) where
  lt := fun ⟨_, _, h⟩ => h.lt
  out := fun ⟨vv, Vs, h⟩ hz he => ⟨vv, Vs, { tb := h.tb.same hz fun k hk => he k (h.fb k (h.bF k hk)), box := h.box.same (he p h.fp), own := OwnR.sameB h.own fun k hk => he k (h.fo k hk), eq := h.eq, ea := fun x hx => ⟨(h.ea x hx).1.same hz fun h0 k hk => he k ((h.ea x hx).2 h0 k hk).1, (h.ea x hx).2⟩, fb := h.fb, old := fun k hk => (he k (h.fb k hk)).trans (h.old k hk), fp := h.fp, fo := h.fo, bF := h.bF, lt := fun k hk => Nat.lt_of_lt_of_le (h.lt k hk) hz }⟩
theorem VwJ.more {vv : Value} {Vs : List Lr} (h : VwJ b ml mc pt Gf cl F T w0 p i FJ w vv Vs) {w5 w6 w9 : World} (hb5 : Below w.heap.size w w5) (hb6 : Below w5.heap.size w5 w6) (hg : w6.grownBy w9 vv.ownBlock) (x : Lr) (hx : IntsAt w5 x.v x.wait) (nx : ∀ k, x.v.ownBlock = some k → w.heap.size ≤ k) {v' : Value} (ho : OwnR w9 (p + 1) 50 3 csL v' (Vs ++ [x])) (hv : ∀ k, v'.ownBlock = some k → vv.ownBlock = some k ∨ k = w5.heap.size + 1) (he : T.lks.take (i + 1) = T.lks.take i ++ [lkp x]) :
    ∃ FJ', (∃ vv' Vs', VwJ b ml mc pt Gf cl F T w0 p (i + 1) FJ' (w9.setCell ⟨p, 0, none⟩ v') vv' Vs') ∧ Mv FJ FJ' w (w9.setCell ⟨p, 0, none⟩ v') := by
  have hpz := h.lt p h.fp
  have hvl : ∀ k, vv.ownBlock = some k → p < k ∧ k < w.heap.size := fun k hk => ⟨(h.own.lt k hk).1, (h.own.lt k hk).2⟩
  have hz5 := hb5.size
  have hz6 := hb6.size
  have hz9 := hg.size
  have hzF : (w9.setCell ⟨p, 0, none⟩ v').heap.size = w9.heap.size := size_setCell _ _ _
  have h6 : Below w.heap.size w w6 := hb5.trans (hb6.mono hz5)
  have hun : ∀ k, k < w.heap.size → k ≠ p → vv.ownBlock ≠ some k → (w9.setCell ⟨p, 0, none⟩ v').heap[k]? = w.heap[k]? := fun k h1 h2 h3 => by
    rw [Below.heap_setCell _ _ _ _ h2, hg.block k (by omega) (fun e => h3 e.symm), h6.block k h1]
  refine ⟨fun k => FJ k ∨ (w.heap.size ≤ k ∧ k < (w9.setCell ⟨p, 0, none⟩ v').heap.size), ⟨v', Vs ++ [x], { tb := h.tb.same (by omega) (fun k hk => hun k (h.tb.lt k hk) (by have := h.bF k hk; omega) fun e => by have := hvl k e; have := h.bF k hk; omega), box := ?_, own := OwnR.away ho ⟨p, 0, none⟩ v' (fun e => by have := (ho.lt p e).1; omega), eq := by rw [List.map_append, h.eq, he]; rfl, ea := fun y hy => ?_, fb := fun k hk => .inl (h.fb k hk), old := fun k hk => (hun k (by omega) (by omega) (fun e => by have := hvl k e; omega)).trans (h.old k hk), fp := .inl h.fp, fo := fun k hk => ?_, bF := h.bF, lt := fun k hk => ?_ }⟩, ?_, fun k hk => hk.imp (fun h => h) fun h => h.1⟩
  · exact ((h.box.kept h6).grown hg (fun e => by have := hvl p e.symm; omega)).set 0 v'
  · rcases List.mem_append.1 hy with hy | hy
    · obtain ⟨e1, e2⟩ := h.ea y hy
      refine ⟨e1.same (by omega) fun h0 k hk => ?_, fun h0 k hk => ?_⟩
      · obtain ⟨f1, f2, f3⟩ := e2 h0 k hk
        exact hun k (h.lt k f1) (by omega) f3
      · obtain ⟨f1, f2, f3⟩ := e2 h0 k hk
        refine ⟨.inl f1, f2, fun e => ?_⟩
        rcases hv k e with h7 | h7
        · exact f3 h7
        · have := h.lt k f1
          omega
    · rw [List.mem_singleton.1 hy]
      have hlt : 0 < x.wait.length → ∀ k, x.v.ownBlock = some k → w.heap.size ≤ k ∧ k < w5.heap.size := fun h0 k hk => ⟨nx k hk, hx.lt h0 k hk⟩
      refine ⟨hx.same (by omega) fun h0 k hk => ?_, fun h0 k hk => ?_⟩
      · obtain ⟨f1, f2⟩ := hlt h0 k hk
        rw [Below.heap_setCell _ _ _ _ (by show k ≠ p; omega), hg.block k (by omega) (fun e => by have := hvl k e.symm; omega), hb6.block k f2]
      · obtain ⟨f1, f2⟩ := hlt h0 k hk
        refine ⟨.inr ⟨f1, by omega⟩, by omega, fun e => ?_⟩
        rcases hv k e with h7 | h7
        · have := hvl k h7
          omega
        · omega
  · rcases hv k hk with h7 | h7
    · exact .inl (h.fo k h7)
    · have := (ho.lt k hk).2
      exact .inr ⟨by omega, by omega⟩
  · rcases hk with hk | hk
    · have := h.lt k hk
      omega
    · exact hk.2
  · exact ((Only.of_below h6).trans (Only.grown hg fun k hk => h.fo k hk)).set ⟨p, 0, none⟩ v' h.fp

set_option maxHeartbeats 8000000 in
set_option maxRecDepth 100000 in
theorem tView1_any {vv : Value} {Vs : List Lr} (h : VwJ b ml mc pt Gf cl F T w0 p i FJ w vv Vs) (hi : i < T.ids.length) (h32 : T.ids.length ≤ 32) :
    Calls Tryz.prog 42 #[.int .i64 T.ids[i], ptr18 (pt T.ids[i]), .pointer (some ⟨p, 0, none⟩)] w fun e w' => e = .returned (.tuple #[]) ∧ ∃ FJ', (∃ vv' Vs', VwJ b ml mc pt Gf cl F T w0 p (i + 1) FJ' w' vv' Vs') ∧ Mv FJ FJ' w w' := by
  have hm := List.getElem_mem hi
  have hlks : T.lks.take (i + 1) = T.lks.take i ++ [(T.ids[i], T.hd T.ids[i], T.wt T.ids[i])] := by
    have hl : i < T.lks.length := by simpa [Tb.lks] using hi
    rw [List.take_succ_eq_append_getElem hl]
    simp [Tb.lks]
  have HV := Lib.hid fun (w' : World) (hb : Below w.heap.size w w') => lkViewN_any ((h.tb.kept hb).lk _ hm)
  generalize T.ids[i] = id at *
  obtain ⟨hd, hhd⟩ : ∃ hd, T.hd id = hd := ⟨_, rfl⟩
  obtain ⟨L, hL⟩ : ∃ L, T.wt id = L := ⟨_, rfl⟩
  simp only [hhd, hL] at HV
  rw [hhd, hL] at hlks
  obtain ⟨n, hn⟩ : ∃ n, Vs.length = n := ⟨_, rfl⟩
  have hni : n ≤ 32 := by
    have := congrArg List.length h.eq
    rw [List.length_map, List.length_take] at this
    omega
  obtain ⟨a, c, e⟩ := RowsAt.form (OwnR.rows csL_len h.own)
  rw [hn] at e
  subst e
  obtain ⟨m, hmm⟩ : ∃ m, L.length = m := ⟨_, rfl⟩
  have HM := Lib.hid hmm
  have H := Lib.hid h
  have HN := Lib.hid hn
  have HLK := Lib.hid hlks
  have c0 := h.box.cell 0 rfl
  have z0 := h.box.free 0 rfl
  have HDR := Lib.hid (Below.refl w.heap.size w).drew
  have hpz : p < w.heap.size := h.lt p h.fp
  have hnp : some p ≠ (Value.slice a n c).ownBlock := fun e => by have := (h.own.lt p e.symm).1; omega
  have HNP := Lib.hid hnp
  have HPZ := Lib.hid hpz
  have c0d := (HDR.out.cell (World.block_lt_of_cell? _ _ c0)).trans c0
  obtain ⟨i1, hi1, hz1, hs1, hb1⟩ := info_parts info_lock20
  have HOW := Lib.hid fun (w5 : World) (hb : Below w.heap.size w w5) (sa : Option Addr) (sc : Nat) => (show (w5.alloc (.cells #[.int .i64 id, .int .i64 hd, .slice sa m sc] 50)).ownsRow (p + 1) 50 3 (.slice a n c) n (flats csL Vs) from by
    have h9 := OwnR.alloc (OwnR.kept h.own hb) (.cells #[.int .i64 id, .int .i64 hd, .slice sa m sc] 50)
    unfold OwnR at h9
    rwa [hn] at h9)
  clear h hi hm hlks hn hmm hhd hL hnp hpz
  go_enter Tryz.func42, Tryz.ntmps42
  go_upto_region 0 with fail
  go_region_law (first
    | (go_simp; go_at_call 43; (with_reducible refine (HV.out _ HDR.out).mono ?_); rintro e w5 ⟨v5, rfl, h5, n5, b5⟩; obtain ⟨sa, sc, e5⟩ := h5.form; simp only [HM.out] at e5; subst e5; have hb5 := HDR.out.trans b5; have HB5 := Lib.hid hb5; have H5 := Lib.hid h5; have N5 := Lib.hid n5
       have c5 := (hb5.cell (World.block_lt_of_cell? _ _ c0)).trans c0
       have hal := (Below.refl w5.heap.size w5).alloc (Nat.le_refl _) (.cells #[.int .i64 id, .int .i64 hd, .slice sa m sc] 50)
       have HAL := Lib.hid hal
       have c6 := (hal.cell (World.block_lt_of_cell? _ _ c5)).trans c5
       have HPB := Lib.hid (show p + 1 ≤ w5.heap.size from Nat.le_trans HPZ.out hb5.size)
       clear h5 n5 b5 hb5 hal)
    | (refine step_append_lies _ (by rfl) _ _ _ (by rfl) (p + 1) 50 i1 _ 3 40 Tryz.underlying45 hi1 hz1 hs1 hb1 rfl (by omega) (.slice a n c) n (flats csL Vs) (by rfl) (HOW.out w5 HB5.out sa sc)
                    ⟨w5.heap.size, 0, none⟩ 1 1 [.int .i64 id, .int .i64 hd, .slice sa m sc] (by rfl) (by rfl) (World.news_of_block (cs := #[.int .i64 id, .int .i64 hd, .slice sa m sc]) (t := 50) (fr := (0, 0)) (heap_alloc_new w5 _)) (by simp [Value.oneCell'])
                    (by omega) (by unfold maxLen; omega) (by omega) (by have := HPB.out; simp; omega) (w5.heap.size + 1) (by simp) ?_
       intro gg cap w9 ho9 hg9 hat9 hlt9
       have hY9 := (((H.out.box.kept HB5.out).kept HAL.out).grown hg9 HNP.out)
       have c9 := hY9.cell 0 rfl
       have z9 := hY9.free 0 rfl))
  all_goals (
    have hor : OwnR w9 (p + 1) 50 3 csL (.slice (some ⟨gg, 0, none⟩) (n + 1) cap) (Vs ++ [⟨id, hd, sa, sc, L⟩]) := OwnR.snoc ho9 (by rw [HN.out]) (by rw [show csL ⟨id, hd, sa, sc, L⟩ = [.int .i64 id, .int .i64 hd, .slice sa m sc] from by unfold csL; dsimp only [Lr.v]; rw [HM.out]])
    go_end0
    exact ⟨rfl, H.out.more HB5.out HAL.out hg9 ⟨id, hd, sa, sc, L⟩ (by dsimp only [Lr.v]; rw [HM.out]; exact H5.out) (fun k hk => Nat.le_trans HDR.out.size (N5.out k (by dsimp only [Lr.v] at hk; rw [HM.out] at hk; exact hk))) hor (fun k hk => by
      simp [Value.ownBlock] at hk
      subst hk
      exact hat9) HLK.out⟩)

set_option maxHeartbeats 8000000 in
set_option maxRecDepth 100000 in
theorem tView_any (h : TbR b ml mc pt Gf cl F w T) (hok : T.Ok) : Calls Tryz.prog 14 #[ptr18 b] w fun e w' => ∃ v Vs, e = .returned v ∧ LocksAt w' v Vs ∧ Vs.map lkp = T.lks ∧ Below w.heap.size w w' := by
  have hmf : ∀ (fn : Fn) (first cap : Array Value) (w : World), (Instr.makeFunc fn first cap).run Tryz.prog w = .ok (.func fn first cap) w := fun _ _ _ _ => rfl
  have hal := (Below.refl w.heap.size w).alloc (Nat.le_refl _) (.cells #[.slice none 0 0] 45)
  have hX := Blk.new w [.slice none 0 0] 45
  have hsz : (w.alloc (.cells #[.slice none 0 0] 45)).heap.size = w.heap.size + 1 := by simp
  have h1 := h.kept hal
  have hlen := may_len hok.may
  have hJ : VwJ b ml mc pt Gf cl F T w w.heap.size 0 (fun k => k < w.heap.size ∨ k = w.heap.size) (w.alloc (.cells #[.slice none 0 0] 45)) (.slice none 0 0) [] :=
    { tb := h1, box := hX, own := OwnR.nil _ _ _ _ _, eq := rfl, ea := fun x hx => (by cases hx), fb := fun k hk => .inl hk, old := fun k hk => hal.block k hk, fp := .inr rfl, fo := fun k hk => by simp [Value.ownBlock] at hk, bF := h.lt, lt := fun k hk => by rw [hsz]; omega }
  have HE := Lib.hid (tEach_any (VwJ.keep (b := b) (ml := ml) (mc := mc) (pt := pt) (Gf := Gf) (cl := cl) (F := F) (T := T) (w0 := w) (p := w.heap.size)) 42 #[.pointer (some ⟨w.heap.size, 0, none⟩)] (fun _ _ => by kernel_rfl) h1 hok _ ⟨_, _, hJ⟩ hJ.lt (fun i F' w' ⟨_, _, h⟩ => ⟨h.tb.blk, h.tb.lm⟩) (fun i F' w' hi ⟨_, _, h⟩ => tView1_any h hi hlen))
  have HAL := Lib.hid hal
  have HF := Lib.hid h.lt
  have HLL := Lib.hid (show T.lks.take T.ids.length = T.lks from by rw [show T.ids.length = T.lks.length by simp [Tb.lks], List.take_length])
  clear h hok hal hX hsz h1 hJ hlen
  go_enter Tryz.func14, Tryz.ntmps14
  go_upto_region 3 with (go_at_call 30; (with_reducible refine HE.out.mono ?_); rintro e w1 ⟨rfl, FJ', ⟨vv, Vs, hj⟩, hm⟩; have HJ2 := Lib.hid hj; have HM2 := Lib.hid hm; have c0 := hj.box.cell 0 rfl; clear hj hm)
  go_wp2
  go_ret
  refine ⟨_, Vs, rfl, ⟨OwnR.rows csL_len HJ2.out.own, fun x hx => (HJ2.out.ea x hx).1⟩, by rw [HJ2.out.eq, HLL.out], ?_⟩
  have ho := HM2.out.only
  have ha := HAL.out
  exact ⟨ho.os.trans ha.os, ho.tape.trans ha.tape, ho.output.trans ha.output, Nat.le_trans ha.size ho.size, HJ2.out.old⟩
end
end Go.Proofs.YtjmgokjljmmmgaaGreat
/- Stage 20's program: New; what a nil table tells. -/
namespace Go.Proofs.YtjmgokjljmmmgaaGreat
open Go.RowKit Go.Maps

/-- a lock that a call has made, in blocks from B on -/
def lkLock (B : Nat) (id : Int) : Lk := ⟨Nat, ⟨0⟩, fun x => ptr18 x, fun x w => ∃ F, LkAt F w (ptr18 x) ⟨id, 0, []⟩ ∧ ∀ k, F k → B ≤ k⟩
theorem lkLock_at {P : Program} {o : Oper} {a : Act} {W : World} {G : World → Prop} {B : Nat} {id : Int} {f : FuncId} {args : Array Value} (hB : B ≤ W.heap.size) (he : ∀ k : In W, (execOp a.eval o).run P k.w = .ok (.enter f args) k.w)
    (hc : ∀ k : In W, Calls P f args k.w fun e w' => ∃ p F, e = .returned p ∧ LkAt F w' p ⟨id, 0, []⟩ ∧ (∀ j, F j → k.w.heap.size ≤ j) ∧ Below k.w.heap.size k.w w') : (lkLock B id).at P o a W G :=
  ⟨fun _ _ _ ⟨F, h, hn⟩ hb => ⟨F, h.kept hb, hn⟩, fun k _ => by
    rw [he k]
    refine ⟨rfl, (hc k).mono ?_⟩
    rintro e w' ⟨p, F, rfl, h1, h2, h3⟩
    have hp := h1
    obtain ⟨x, m, G', rfl, _⟩ := hp
    exact ⟨x, rfl, ⟨F, h1, fun j hj => Nat.le_trans hB (Nat.le_trans k.h.size (h2 j hj))⟩, h3.mono k.h.size⟩⟩
/-- a lock more -/
theorem TbR.more {b ml mc : Nat} {pt : Int → Nat} {Gf : Int → Nat → Prop} {cl : Int → Cl} {F : Nat → Prop} {w w2 : World} {L : List Int} (h : TbR b ml mc pt Gf cl F w (Tb.new L)) (hb : Below w.heap.size w w2) {id : Int} (h64 : I64 id) (hm : id ∉ L) (hf : L.length ≤ 64) {x : Nat} {F1 : Nat → Prop} (hl : LkAt F1 w2 (ptr18 x) ⟨id, 0, []⟩) (hn : ∀ k, F1 k → w.heap.size ≤ k) :
    ∃ w3, (Instr.mapUpdate 57 (.map (some ml)) (.int .i64 id) (ptr18 x)).run Tryz.prog w2 = .ok () w3 ∧ ∃ F', TbR b ml mc (upF pt id x) (upF Gf id F1) cl F' w3 (Tb.new (L ++ [id])) ∧ Mv F F' w w3 := by
  have k := h.kept hb
  obtain ⟨w3, q1, q2, q3⟩ := MapL.put k.lm (by show L.length ≤ 1000000; omega) h64 (some x)
  obtain ⟨n1, n2⟩ := h.bne
  have l1 := h.lt b h.fb
  have l2 := h.lt ml h.fl
  have l3 := h.lt mc h.fc
  have hz := q3.size
  have hz2 := hb.size
  have hnone : lkG (Tb.new L) pt id = none := if_neg hm
  rw [hnone, if_neg (by simp)] at q2
  have hun : ∀ k, k < w2.heap.size → k ≠ ml → w3.heap[k]? = w2.heap[k]? := fun k hk hne => q3.block k hk fun e => hne (Option.some.inj e)
  have hmem : ∀ i, i ∈ (Tb.new (L ++ [id])).ids ↔ i ∈ L ∨ i = id := fun i => by show i ∈ L ++ [id] ↔ _; simp
  have hF1 : ∀ k, F1 k → k < w2.heap.size := hl.lt
  refine ⟨w3, q1, fun k => F k ∨ F1 k, { blk := k.blk.same (hun b k.blt (fun e => n1 e.symm)), lm := ?_, cm := MapG.same k.cm (hun mc (MapG.lt k.cm) (fun e => h.ne e.symm)), lk := fun i hi => ?_, ch := fun t ht => (by cases ht), cf := fun t ht => (by cases ht), ap := fun i hi => ?_, di := fun i hi j hj hne k => ?_, ne := h.ne, fb := .inl h.fb, fl := .inl h.fl, fc := .inl h.fc, fg := fun i hi k hk => ?_, lt := fun k hk => ?_ }, ⟨(Only.of_below hb).trans (Only.grown q3 fun j hj => by rw [← Option.some.inj hj]; exact h.fl), fun j hj => hj.imp (fun h => h) (hn j)⟩⟩
  · have e : lkG (Tb.new (L ++ [id])) (upF pt id x) = updG (lkG (Tb.new L) pt) id (some (some x)) := by
      funext i
      show (if i ∈ L ++ [id] then some (some (upF pt id x i)) else none) = (if i = id then some (some x) else (if i ∈ L then some (some (pt i)) else none))
      by_cases e : i = id
      · rw [if_pos (by simp [e]), if_pos e, e, upF_same]
      · rw [if_neg e, upF_ne _ _ e]
        by_cases hi : i ∈ L
        · rw [if_pos (by simp [hi]), if_pos hi]
        · rw [if_neg (by simp [hi, e]), if_neg hi]
    rw [e]
    show MapL w3 ml (L ++ [id]).length _
    rw [List.length_append]
    exact q2
  · show LkAt (upF Gf id F1 i) w3 (ptr18 (upF pt id x i)) ⟨i, 0, []⟩
    by_cases e : i = id
    · subst e
      rw [upF_same, upF_same]
      exact hl.same hz fun k hk => hun k (hF1 k hk) (by have := hn k hk; omega)
    · rw [upF_ne _ _ e, upF_ne _ _ e]
      have hi2 : i ∈ L := ((hmem i).1 hi).resolve_right e
      exact (k.lk i hi2).same hz fun j hj => hun j ((k.lk i hi2).lt j hj) fun e => (h.ap i hi2).2.1 (e ▸ hj)
  · by_cases e : i = id
    · subst e
      rw [upF_same]
      exact ⟨fun h => by have := hn b h; omega, fun h => by have := hn ml h; omega, fun h => by have := hn mc h; omega⟩
    · rw [upF_ne _ _ e]
      exact h.ap i (((hmem i).1 hi).resolve_right e)
  · by_cases e : i = id
    · subst e
      rw [upF_same, upF_ne _ _ (fun e => hne e.symm)]
      intro h1 h2
      have := hn k h1
      have := h.lt k (h.fg j (((hmem j).1 hj).resolve_right fun e => hne e.symm) k h2)
      omega
    · have hi2 := ((hmem i).1 hi).resolve_right e
      rw [upF_ne _ _ e]
      by_cases e2 : j = id
      · subst e2
        rw [upF_same]
        intro h1 h2
        have := hn k h2
        have := h.lt k (h.fg i hi2 k h1)
        omega
      · rw [upF_ne _ _ e2]
        exact h.di i hi2 j (((hmem j).1 hj).resolve_right e2) hne k
  · by_cases e : i = id
    · subst e
      rw [upF_same] at hk
      exact .inr hk
    · rw [upF_ne _ _ e] at hk
      exact .inl (h.fg i (((hmem i).1 hi).resolve_right e) k hk)
  · rcases hk with hk | hk
    · have := h.lt k hk
      omega
    · have := hF1 k hk
      omega

set_option maxHeartbeats 4000000 in
set_option maxRecDepth 100000 in
theorem tNewNo_any (va : Value) (l : List Int) (w : World) (ha : IntsAt w va l) (hl : l.length ≤ 1000) (hm : mayB l = false) : Calls Tryz.prog 7 #[va] w fun e w' => e = .returned (.tuple #[.pointer none, .int .i64 1]) ∧ Below w.heap.size w w' := by
  have GM := Lib.hid (tMay_any va l w ha hl)
  rw [hm] at GM
  obtain ⟨a, c, rfl⟩ := ha.form
  clear ha hl hm
  go_enter Tryz.func7, Tryz.ntmps7
  go_wp2_with (go_at_call 21; (with_reducible refine GM.out.mono ?_); rintro e w1 ⟨rfl, b1⟩; have HB1 := Lib.hid b1; clear b1)
  exact bodyPost_ret (v := .tuple #[.pointer none, .int .i64 1]) (by simp [results, Tryz.results7, go_sem]) rfl ⟨rfl, HB1.out⟩

set_option maxHeartbeats 16000000 in
set_option maxRecDepth 100000 in
theorem tNew_any (va : Value) (l : List Int) (w : World) (ha : IntsAt w va l) (hm : mayB l = true) : Calls Tryz.prog 7 #[va] w fun e w' => ∃ p, e = .returned (.tuple #[p, .int .i64 0]) ∧ ∃ F, TbAt F w' p (Tb.new l) ∧ (∀ k, F k → w.heap.size ≤ k) ∧ Below w.heap.size w w' := by
  have h32 := may_len hm
  have GM := Lib.hid (tMay_any va l w ha (by omega))
  rw [hm] at GM
  have HOK := Lib.hid (new_ok hm)
  have HA := Lib.hid ha
  have HLN := Lib.hid h32
  have HIDS := Lib.hid (show l.Nodup ∧ ∀ x ∈ l, I64 x from ⟨ris_nodup (may_ris hm), fun x hx => (new_ok hm).ids64 hx⟩)
  obtain ⟨a, c, rfl⟩ := ha.form
  have hmk1 : ∀ w : World, (Instr.makeMap 57 none).run Tryz.prog w = .ok (.map (some w.heap.size)) (w.alloc (.map #[] 0)) := fun w => by kernel_rfl
  have hmk2 : ∀ w : World, (Instr.makeMap 58 none).run Tryz.prog w = .ok (.map (some w.heap.size)) (w.alloc (.map #[] 0)) := fun w => by kernel_rfl
  clear ha h32 hm
  go_enter Tryz.func7, Tryz.ntmps7
  go_upto_region 4 with (go_at_call 21; (with_reducible refine GM.out.mono ?_); rintro e w1 ⟨rfl, b1⟩; have HB1 := Lib.hid b1; clear b1)
  have a1 := (Below.refl w1.heap.size w1).alloc (Nat.le_refl _) (.map #[] 0)
  have a2 := (Below.refl (w1.alloc (.map #[] 0)).heap.size (w1.alloc (.map #[] 0))).alloc (Nat.le_refl _) (.map #[] 0)
  have a3 := (Below.refl ((w1.alloc (.map #[] 0)).alloc (.map #[] 0)).heap.size ((w1.alloc (.map #[] 0)).alloc (.map #[] 0))).alloc (Nat.le_refl _) (.cells #[.map (some w1.heap.size), .map (some (w1.heap.size + 1))] 60)
  have s1 : (w1.alloc (.map #[] 0)).heap.size = w1.heap.size + 1 := by simp
  have s2 : ((w1.alloc (.map #[] 0)).alloc (.map #[] 0)).heap.size = w1.heap.size + 1 + 1 := by simp
  have m1 : MapL (w1.alloc (.map #[] 0)) w1.heap.size 0 (fun _ => none) := MapG.new w1
  have m2 : MapC ((w1.alloc (.map #[] 0)).alloc (.map #[] 0)) (w1.heap.size + 1) 0 (fun _ => none) := s1 ▸ MapG.new (w1.alloc (.map #[] 0))
  have hX := Blk.new ((w1.alloc (.map #[] 0)).alloc (.map #[] 0)) [.map (some w1.heap.size), .map (some (w1.heap.size + 1))] 60
  rw [s2] at hX
  have ht : TbR (w1.heap.size + 1 + 1) w1.heap.size (w1.heap.size + 1) (fun _ => 0) (fun _ _ => False) (fun _ => cl0) (fun k => w1.heap.size ≤ k ∧ k < w1.heap.size + 3) (((w1.alloc (.map #[] 0)).alloc (.map #[] 0)).alloc (.cells #[.map (some w1.heap.size), .map (some (w1.heap.size + 1))] 60)) (Tb.new []) :=
    { blk := hX, lm := MapG.kept (MapG.kept m1 a2) a3, cm := MapG.kept m2 a3, lk := fun _ h => (by cases h), ch := fun _ h => (by cases h), cf := fun _ h => (by cases h), ap := fun _ h => (by cases h), di := fun _ h => (by cases h), ne := by omega, fb := by omega, fl := by omega, fc := by omega, fg := fun _ h => (by cases h), lt := fun k hk => by simp; omega }
  have HT := Lib.hid ht
  have HB2 := Lib.hid (HB1.out.trans ((a1.trans ((a2.trans (a3.mono a2.size)).mono a1.size)).mono HB1.out.size))
  have HW1 := Lib.hid HB1.out.size
  generalize ((w1.alloc (.map #[] 0)).alloc (.map #[] 0)).alloc (.cells #[.map (some w1.heap.size), .map (some (w1.heap.size + 1))] 60) = w2 at *
  obtain ⟨b, hb⟩ : ∃ b, w1.heap.size + 1 + 1 = b := ⟨_, rfl⟩
  rw [hb] at HT ⊢
  obtain ⟨ml, hml⟩ : ∃ ml, w1.heap.size = ml := ⟨_, rfl⟩
  obtain ⟨mc, hmc⟩ : ∃ mc, w1.heap.size + 1 = mc := ⟨_, rfl⟩
  have HT := Lib.hid (show TbR b ml mc (fun _ => 0) (fun _ _ => False) (fun _ => cl0) (fun k => w1.heap.size ≤ k ∧ k < w1.heap.size + 3) w2 (Tb.new []) from by rw [← hml, ← hmc]; exact HT.out)
  clear a1 a2 a3 s1 s2 m1 m2 hX ht hmk1 hmk2 hb hml hmc
  go_wp2
  go_loopw [16] (fun iv wr => ∃ (k : Nat) (pt : Int → Nat) (Gf : Int → Nat → Prop) (F : Nat → Prop), k ≤ l.length ∧ iv = .int .i64 k ∧ TbR b ml mc pt Gf (fun _ => cl0) F wr (Tb.new (l.take k)) ∧ (∀ j, F j → w.heap.size ≤ j) ∧ Below w.heap.size w wr) (fun iv _ => l.length - (intOf iv).toNat)
  case atStart => exact ⟨0, _, _, _, by omega, rfl, HT.out, fun j hj => by have := HW1.out; omega, HB2.out⟩
  case round =>
    clear HT
    obtain ⟨k, pt, Gf, F, hk, rfl, htb, hF, hB⟩ := hrel
    have HTB := Lib.hid htb
    have HF := Lib.hid hF
    have HB := Lib.hid hB
    by_cases hlt : k < l.length
    · obtain ⟨g, o, cc, e, _, _, p0⟩ := (HA.out.below hB).spot k hlt
      cases e
      have HLT := Lib.hid hlt
      have hno := not_take HIDS.out.1 k hlt
      have h64 := HIDS.out.2 _ (List.getElem_mem hlt)
      have htk : l.take (k + 1) = l.take k ++ [l[k]] := List.take_succ_eq_append_getElem hlt
      generalize l[k] = id at *
      have HMORE := Lib.hid fun (w5 : World) (hb : Below wr.heap.size wr w5) (x : Nat) (F1 : Nat → Prop) (hl : LkAt F1 w5 (ptr18 x) ⟨id, 0, []⟩) (hn : ∀ j, F1 j → wr.heap.size ≤ j) => htb.more hb h64 hno (by rw [List.length_take]; have := HLN.out; omega) hl hn
      have HTK := Lib.hid htk
      have HNW := Lib.hid fun (w' : World) => lkNew_any id w'
      have c0 := htb.blk.cell 0 rfl
      have k2 : (0 : Int) ≤ (k : Int) := by omega
      have k3 : (k : Int) < (l.length : Int) := by omega
      have k4 : (k : Int) ≤ 32 := by have := HLN.out; omega
      clear htb hF hB hno htk hk h64
      go_upto_region 7 with fail
      refine wp_region_chain 7 [.calm 6, .own (lkLock wr.heap.size id)] [6] rfl (by kernel_rfl) (by simp) (by kernel_rfl) (by kernel_rfl) ?_
      simp only [List.take_succ_cons, List.take_zero, List.drop_succ_cons, List.drop_zero]
      refine ⟨by simp, fun M => ?_⟩
      simp only [List.take_succ_cons, List.take_zero, List.drop_succ_cons, List.drop_zero]
      have e1 := fun n : In M.w => n.cell (M.cell c0)
      repeat (go_big_quiet_step (fail))
      refine wpQuiet_nil ?_
      clear e1 M
      refine ⟨rfl, lkLock_at (f := 22) (args := #[.int .i64 id]) (Nat.le_refl _) (fun k => by simp [go_sem]) (fun k => HNW.out k.w), fun y A hA => ?_⟩
      simp [Act.put, lkLock] at hA
      subst hA
      refine ⟨rfl, fun w7 hb7 h7 => ?_⟩
      obtain ⟨F1, q1, q2⟩ := h7
      obtain ⟨w8, hrun, F8, s1, s2⟩ := HMORE.out w7 hb7 y F1 q1 q2
      have S1 := Lib.hid s1
      have S2 := Lib.hid s2
      clear hb7 q1 q2 s1 s2 c0 p0
      go_wp2
      clear hrun
      go_roundw
      case rel => exact ⟨k + 1, _, _, F8, by have := HLT.out; omega, by go_num, by rw [HTK.out]; exact S1.out, S2.out.from_ HF.out HB.out.size, HB.out.trans (S2.out.only.below HF.out HB.out.size)⟩
      case measure => have := HLT.out; simp [intOf] <;> omega
    · have hke : k = l.length := by omega
      subst hke
      rw [List.take_length] at HTB
      have g2 : ¬ (l.length : Int) < (l.length : Int) := by omega
      clear htb hF hB hlt hk
      go_wp2
      exact bodyPost_ret (v := .tuple #[ptr18 b, .int .i64 0]) (by simp [results, Tryz.results7, go_sem]) rfl ⟨_, rfl, F, ⟨HOK.out, b, ml, mc, pt, Gf, _, rfl, HTB.out⟩, HF.out, HB.out⟩

/-! ### A nil table -/
theorem tEnter_nil (t : Int) (v : Value) (w : World) : Calls Tryz.prog 8 #[.pointer none, .int .i64 t, v] w fun e w' => e = .returned (.int .i64 9) ∧ Below w.heap.size w w' := by
  go_enter Tryz.func8, Tryz.ntmps8
  go_wp2
  go_ret
  exact ⟨rfl, Below.refl _ _⟩
theorem tLeave_nil (t : Int) (w : World) : Calls Tryz.prog 9 #[.pointer none, .int .i64 t] w fun e w' => e = .returned (.bool false) ∧ Below w.heap.size w w' := by
  have HF := Lib.hid (show Calls Tryz.prog 28 #[.pointer none, .int .i64 t] w fun e w' => e = .returned (.tuple #[.agg #[.slice none 0 0, .int .i64 0], .bool false]) ∧ Below w.heap.size w w' from tFind_nil t w)
  go_enter Tryz.func9, Tryz.ntmps9
  go_wp2_with (go_at_call 28; (with_reducible refine HF.out.mono ?_); rintro e w1 ⟨rfl, b1⟩; have HB1 := Lib.hid b1; clear b1)
  go_ret
  exact ⟨rfl, HB1.out.alloc HB1.out.size _⟩
theorem tGot_nil (t : Int) (w : World) : Calls Tryz.prog 12 #[.pointer none, .int .i64 t] w fun e w' => e = .returned (.tuple #[.int .i64 0, .int .i64 0, .bool false]) ∧ Below w.heap.size w w' := tGotC_any (.pointer none) t cl0 false w (tFind_nil t w)
theorem tIds_nil (w : World) : Calls Tryz.prog 25 #[.pointer none] w fun e w' => e = .returned (.slice none 0 0) ∧ Below w.heap.size w w' := by
  go_enter Tryz.func25, Tryz.ntmps25
  go_wp2
  go_ret
  exact ⟨rfl, Below.refl _ _⟩
set_option maxHeartbeats 1000000 in
theorem tEach_nil (f : Value) (w : World) : Calls Tryz.prog 30 #[.pointer none, f] w fun e w' => e = .returned (.tuple #[]) ∧ Below w.heap.size w w' := by
  have HID := Lib.hid (tIds_nil w)
  go_enter Tryz.func30, Tryz.ntmps30
  go_wp2
  refine wp_scope_goto 0 (fun _ a' w' => Below w.heap.size w w' ∧ ∃ u2 u3 u6 u7 u8 u9 u10 u11 u12 u13 u14 u15 u16 u17 u18 u19 u20 u21 u22 u23 u24 u25 u26 u27 u28, a' = { tmps := #[.pointer none, f, u2, u3, .slice none 0 0, .int .i64 0, u6, u7, u8, u9, u10, u11, u12, u13, u14, u15, u16, u17, u18, u19, u20, u21, u22, u23, u24, u25, u26, u27, u28], defers := [] }) rfl rfl ?_ ?_
  · rintro n a' w' ⟨hb, u2, u3, u6, u7, u8, u9, u10, u11, u12, u13, u14, u15, u16, u17, u18, u19, u20, u21, u22, u23, u24, u25, u26, u27, u28, rfl⟩ K _
    have HB := Lib.hid hb
    clear hb
    go_wp2
    simp only [Exit.jump]
    go_end0
    exact ⟨rfl, HB.out⟩
  · intro K hpass
    go_wp2_with (go_at_call 25; (with_reducible refine HID.out.mono ?_); rintro e w1 ⟨rfl, b1⟩; have HB1 := Lib.hid b1; clear b1)
    go_step3
    rename_i hback
    exact hback _ _ (hpass 0 _ _ ⟨HB1.out, _, _, _, _, _, _, _, _, _, _, _, _, _, _, _, _, _, _, _, _, _, _, _, _, _,  rfl⟩)
set_option maxHeartbeats 1000000 in
theorem tScan_nil (w : World) : Calls Tryz.prog 10 #[.pointer none] w fun e w' => e = .returned (.slice none 0 0) ∧ Below w.heap.size w w' := by
  have hmf : ∀ (fn : Fn) (first cap : Array Value) (w : World), (Instr.makeFunc fn first cap).run Tryz.prog w = .ok (.func fn first cap) w := fun _ _ _ _ => rfl
  have hal1 := (Below.refl w.heap.size w).alloc (Nat.le_refl _) (.cells #[.pointer none] 27)
  have hal2 := (Below.refl (w.alloc (.cells #[.pointer none] 27)).heap.size _).alloc (Nat.le_refl _) (.cells #[.slice none 0 0] 36)
  have hY := Blk.new (w.alloc (.cells #[.pointer none] 27)) [.slice none 0 0] 36
  rw [show (w.alloc (.cells #[.pointer none] 27)).heap.size = w.heap.size + 1 by simp] at hY
  have HE := Lib.hid (tEach_nil (.func (.func 31) #[] #[.pointer (some ⟨w.heap.size, 0, none⟩), .pointer (some ⟨w.heap.size + 1, 0, none⟩)]) ((w.alloc (.cells #[.pointer none] 27)).alloc (.cells #[.slice none 0 0] 36)))
  have HAL := Lib.hid (hal1.trans (hal2.mono hal1.size))
  have HY := Lib.hid hY
  clear hal1 hal2 hY
  go_enter Tryz.func10, Tryz.ntmps10
  go_upto_region 3 with (go_at_call 30; (with_reducible refine HE.out.mono ?_); rintro e w1 ⟨rfl, b1⟩; have HB1 := Lib.hid (HAL.out.trans (b1.mono HAL.out.size)); have c1 := (HY.out.kept b1).cell 0 rfl; clear b1)
  go_wp2
  go_ret
  exact ⟨rfl, HB1.out⟩
set_option maxHeartbeats 1000000 in
theorem tView_nil (w : World) : Calls Tryz.prog 14 #[.pointer none] w fun e w' => e = .returned (.slice none 0 0) ∧ Below w.heap.size w w' := by
  have hmf : ∀ (fn : Fn) (first cap : Array Value) (w : World), (Instr.makeFunc fn first cap).run Tryz.prog w = .ok (.func fn first cap) w := fun _ _ _ _ => rfl
  have hal := (Below.refl w.heap.size w).alloc (Nat.le_refl _) (.cells #[.slice none 0 0] 45)
  have hY := Blk.new w [.slice none 0 0] 45
  have HE := Lib.hid (tEach_nil (.func (.func 42) #[] #[.pointer (some ⟨w.heap.size, 0, none⟩)]) (w.alloc (.cells #[.slice none 0 0] 45)))
  have HAL := Lib.hid hal
  have HY := Lib.hid hY
  clear hal hY
  go_enter Tryz.func14, Tryz.ntmps14
  go_upto_region 3 with (go_at_call 30; (with_reducible refine HE.out.mono ?_); rintro e w1 ⟨rfl, b1⟩; have HB1 := Lib.hid (HAL.out.trans (b1.mono HAL.out.size)); have c1 := (HY.out.kept b1).cell 0 rfl; clear b1)
  go_wp2
  go_ret
  exact ⟨rfl, HB1.out⟩
end Go.Proofs.YtjmgokjljmmmgaaGreat
/- Stage 20: the document's Enter. -/
namespace Go.Proofs.YtjmgokjljmmmgaaGreat
open Go.RowKit

theorem insR_len {α : Type} (f : α → Int) (s : α) (l : List α) : (insR f s l).1.length ≤ l.length + 1 := by
  obtain ⟨h1, h2⟩ := insR_perm f s l
  cases h : (insR f s l).2 with
  | true => rw [(h1 h).length_eq]; simp
  | false => rw [h2 h]; omega
theorem sts_put {T : Tb} {Ss : List Sr} (h : Ss.map stp = T.sts) {t : Int} (hn : t ∉ T.toks) (w : List Int) (s : Sr) (hs : stp s = (t, (0 : Int), w)) : (insG Sr.token s Ss).map stp = (T.put t w).sts := by
  rw [insG_map stp Sr.token Prod.fst (fun _ => rfl), h, hs]
  unfold Tb.sts
  have e : T.toks.map (fun x => (x, (T.got x : Int), T.want x)) = T.toks.map (fun x => (x, ((T.put t w).got x : Int), (T.put t w).want x)) := by
    refine List.map_congr_left fun x hx => ?_
    have hxt : x ≠ t := fun e => hn (e ▸ hx)
    show _ = (x, ((upF T.got t 0 x : Nat) : Int), upF T.want t w x)
    rw [upF_ne _ _ hxt, upF_ne _ _ hxt]
  have e2 : (t, (0 : Int), w) = (fun x => (x, ((T.put t w).got x : Int), (T.put t w).want x)) t := by
    show _ = (t, ((upF T.got t 0 t : Nat) : Int), upF T.want t w t)
    rw [upF_same, upF_same]
    rfl
  rw [e, e2, ← insG_map (fun x => (x, ((T.put t w).got x : Int), (T.put t w).want x)) (fun x => x) Prod.fst (fun _ => rfl)]
  rfl
theorem enter_no {T : Tb} {t : Int} {l : List Int} {er : Int} (h : T.enterE t l = er) (h0 : er ≠ 0) : T.enter t l = T := by
  unfold Tb.enter
  rw [if_neg (by rw [h]; exact h0)]
end Go.Proofs.YtjmgokjljmmmgaaGreat
/- Stage 20: the document's Scan. -/
namespace Go.Proofs.YtjmgokjljmmmgaaGreat
open Go.RowKit

end Go.Proofs.YtjmgokjljmmmgaaGreat
/- Stage 20: what the laws lean on: the table as an object with state, the document's table beside it; are two lists of locks alike; same. -/
namespace Go.Proofs.YtjmgokjljmmmgaaGreat
open Go.RowKit

def tbObj : ObjK Tb := ⟨TbAt, TbAt.same, TbAt.lt⟩
def Bes.doc (G : Nat → Prop) (vl vs : Value) (T : Tb) : Bes := ⟨fun w => DocAt G w vl vs T, G, fun h hz he => h.same hz he, fun h => by obtain ⟨_, _, h⟩ := h; exact h.lt⟩

theorem keep_call20 {w3 q w1 : World} (h : Below w3.heap.size w3 q) (hb : Below q.heap.size q w1) : Below w3.heap.size w3 w1 := h.trans (hb.mono h.size)
theorem lks_small {La : List Lr} {T : Tb} (h : La.map lkp = T.lks) (hok : T.Ok) : La.length ≤ 1000 ∧ ∀ x ∈ La, x.wait.length ≤ 2000 := by
  refine ⟨by have := lks_len h; have := may_len hok.may; omega, fun x hx => ?_⟩
  have h1 : lkp x ∈ T.lks := by rw [← h]; exact List.mem_map_of_mem hx
  obtain ⟨id, hid, e⟩ := List.mem_map.1 h1
  simp only [lkp, Prod.mk.injEq] at e
  have := hok.wlen hid
  rw [← e.2.2]
  omega
end Go.Proofs.YtjmgokjljmmmgaaGreat
/- Stage 20: the program's calls beside what is kept; alive. -/
namespace Go.Proofs.YtjmgokjljmmmgaaGreat
open Go.RowKit

section
variable {w w1 : World} {p : Value} {T : Tb} {bs : List Bes}
theorem sNew (hb : Below w.heap.size w w1) (va : Value) (l : List Int) (ha : IntsAt w1 va l) (hm : mayB l = true) : Calls Tryz.prog 7 #[va] w1 fun e w' => ∃ b, e = .returned (.tuple #[ptr18 b, .int .i64 0]) ∧ SideG tbObj w w' (ptr18 b) (Tb.new l) [] := by
  refine (tNew_any va l w1 ha hm).mono ?_
  rintro e w' ⟨p, rfl, F, h1, h2, h3⟩
  have h1' := h1
  obtain ⟨_, b, _, _, _, _, _, rfl, _⟩ := h1'
  exact ⟨b, rfl, SideG.start h1 (fun k hk => Nat.le_trans hb.size (h2 k hk)) (hb.trans (h3.mono hb.size))⟩
theorem sEnter (h : SideG tbObj w w1 p T bs) (t : Int) (ht : In18 t) (va : Value) (l : List Int) (hi : IntsAt w1 va l) (hl : l.length ≤ 1000) : Calls Tryz.prog 8 #[p, .int .i64 t, va] w1 fun e w' => e = .returned (.int .i64 (T.enterE t l)) ∧ SideG tbObj w w' p (T.enter t l) bs :=
  h.step fun _ h0 => tEnter_any h0 t ht va l hi hl
theorem sLeave (h : SideG tbObj w w1 p T bs) (t : Int) (ht : In18 t) : Calls Tryz.prog 9 #[p, .int .i64 t] w1 fun e w' => e = .returned (.bool (decide (t ∈ T.toks))) ∧ SideG tbObj w w' p (T.leave t) bs :=
  h.step fun _ h0 => tLeave_any h0 t ht
theorem sScan (h : SideG tbObj w w1 p T bs) : Calls Tryz.prog 10 #[p] w1 fun e w' => ∃ v, e = .returned v ∧ RowsAt w' 2 csG v T.scan.2 ∧ (∀ k, v.ownBlock = some k → w1.heap.size ≤ k) ∧ SideG tbObj w w' p T.scan.1 bs := by
  obtain ⟨F, h0, h1, h2, h3⟩ := h
  obtain ⟨hok, b, _, _, _, _, _, rfl, hR⟩ := h0
  refine (tScan_any hR hok).mono ?_
  rintro e w' ⟨v, rfl, hv, hn, F', h4, h5⟩
  exact ⟨v, rfl, hv, hn, SideG.mv h1 h2 h3 h4 h5⟩
/-- what Got tells -/
def gotR (T : Tb) (t : Int) : Int × Int := if t ∈ T.toks then ((T.got t : Int), ((T.want t).length : Int)) else (0, 0)
theorem sGot (h : SideG tbObj w w1 p T bs) (t : Int) (ht : I64 t) : Calls Tryz.prog 12 #[p, .int .i64 t] w1 fun e w' => e = .returned (.tuple #[.int .i64 (gotR T t).1, .int .i64 (gotR T t).2, .bool (decide (t ∈ T.toks))]) ∧ Below w1.heap.size w1 w' := by
  obtain ⟨F, h0, h1, h2, h3⟩ := h
  obtain ⟨hok, b, ml, mc, pt, Gf, cl, rfl, hR⟩ := h0
  have := tGotC_any (ptr18 b) t ((clG T cl t).getD cl0) (clG T cl t).isSome w1 (tFind_any hR t ht)
  unfold clG gotR at *
  by_cases hm : t ∈ T.toks
  · have hc := hR.ch t hm
    simp only [hm, if_true, decide_true, Option.getD_some, Option.isSome_some] at this ⊢
    rw [hc.1, hc.2.1] at this
    exact this
  · simp only [hm, if_false, decide_false, Option.getD_none, Option.isSome_none] at this ⊢
    exact this
theorem sTokens (h : SideG tbObj w w1 p T bs) : Calls Tryz.prog 11 #[p] w1 fun e w' => ∃ v, e = .returned v ∧ IntsAt w' v T.toks ∧ Below w1.heap.size w1 w' := by
  obtain ⟨F, h0, h1, h2, h3⟩ := h
  obtain ⟨hok, b, ml, mc, pt, Gf, cl, rfl, hR⟩ := h0
  exact tTokens_any hR hok
theorem sView (h : SideG tbObj w w1 p T bs) : Calls Tryz.prog 14 #[p] w1 fun e w' => ∃ v Vs, e = .returned v ∧ LocksAt w' v Vs ∧ Vs.map lkp = T.lks ∧ Below w1.heap.size w1 w' := by
  obtain ⟨F, h0, h1, h2, h3⟩ := h
  obtain ⟨hok, b, ml, mc, pt, Gf, cl, rfl, hR⟩ := h0
  exact tView_any hR hok
theorem SideG.ok (h : SideG tbObj w w1 p T bs) : T.Ok := by
  obtain ⟨F, h0, _⟩ := h
  exact h0.1
theorem SideG.ptr (h : SideG tbObj w w1 p T bs) : ∃ b, p = ptr18 b := by
  obtain ⟨F, ⟨_, b, _, _, _, _, _, e, _⟩, _⟩ := h
  exact ⟨b, e⟩
end

def tA0 : Tb := Tb.new [1, 2]
def tA1 : Tb := tA0.enter 5 [1, 2]
def tA2 : Tb := tA1.enter 6 [2]
def tA3 : Tb := tA2.scan.1
def tA4 : Tb := tA3.leave 6
def tA5 : Tb := tA4.scan.1
set_option maxRecDepth 100000 in
theorem tA_all : mayB [1, 2] = true ∧ tA0.enterE 5 [1, 2] = 0 ∧ tA1.enterE 6 [2] = 0 ∧ tA2.scan.2 = [(5, 1), (6, 2)] ∧ gotR tA3 5 = (1, 2) ∧ 5 ∈ tA3.toks ∧ tA3.fullL = [6] ∧ 6 ∈ tA3.toks ∧ tA4.scan.2 = [(5, 2)] := by
  refine ⟨by decide +kernel, by decide +kernel, by decide +kernel, by decide +kernel, by decide +kernel, by decide +kernel, by decide +kernel, by decide +kernel, by decide +kernel⟩
end Go.Proofs.YtjmgokjljmmmgaaGreat
/- Stage 20: what AislesSafe asks of a table. -/
namespace Go.Proofs.YtjmgokjljmmmgaaGreat
open Go.RowKit Go.Maps

def Bes.map (b m : Nat) (g : Int → Option Ah) : Bes := ⟨fun w => MapA w b m g, fun k => k = b, fun h _ he => h.same (he b rfl), fun h k hk => by rw [hk]; exact h.lt⟩
section
variable {w w1 w2 : World} {p : Value} {T : Tb} {bs : List Bes}
theorem SideG.mput {b m m' : Nat} {g g' : Int → Option Ah} (h : SideG tbObj w w1 p T (Bes.map b m g :: bs)) (hb : w.heap.size ≤ b) (ho : ∀ s ∈ bs, ¬ s.foot b) (hg : w1.grownBy w2 (some b)) (hm : MapA w2 b m' g') : SideG tbObj w w2 p T (Bes.map b m' g' :: bs) := by
  obtain ⟨F, h0, h1, h2, h3⟩ := h
  have hnF := (h2 _ List.mem_cons_self).2 b rfl
  have hbk : ∀ k, k < w1.heap.size → k ≠ b → w2.heap[k]? = w1.heap[k]? := fun k hk hn => hg.block k hk fun e => hn (Option.some.inj e)
  refine ⟨F, tbObj.same h0 hg.size fun k hk => hbk k (tbObj.lt h0 k hk) fun e => hnF (e ▸ hk), h1, fun x hx => ?_, h3.grown hg h3.size fun k hk => by rw [← Option.some.inj hk]; exact hb⟩
  rcases List.mem_cons.1 hx with rfl | hx
  · exact ⟨hm, fun k hk => (by rw [show k = b from hk]; exact hnF)⟩
  · obtain ⟨k1, k2⟩ := h2 x (List.mem_cons_of_mem _ hx)
    exact ⟨x.same k1 hg.size fun k hk => hbk k (x.lt k1 k hk) fun e => ho x hx (e ▸ hk), k2⟩
end
/-- the map has what each token in the table wants -/
def Wants (W : World) (g : Int → Option Ah) (T : Tb) : Prop := ∀ t ∈ T.toks, ∃ x, g t = some x ∧ x.n = (T.want t).length ∧ IntsAt W (ahv x) (T.want t)
theorem enterE_out {T : Tb} {t : Int} {l : List Int} (he : T.enterE t l = 0) : t ∉ T.toks := (enterE_ok he).2.2.2.1
theorem Wants.enter {W : World} {g : Int → Option Ah} {T : Tb} {t : Int} {l : List Int} (h : Wants W g T) (he : T.enterE t l = 0) {x : Ah} (hn : x.n = l.length) (hi : IntsAt W (ahv x) l) : Wants W (updG g t (some x)) (T.enter t l) := by
  have e1 : (T.enter t l).toks = insI t T.toks ∧ (T.enter t l).want = upF T.want t l := by
    unfold Tb.enter
    rw [if_pos he]
    have := ask_ids (T.put t l) t
    exact ⟨this.2.1, this.2.2.1⟩
  intro t' ht'
  rw [e1.1] at ht'
  rw [e1.2]
  by_cases e : t' = t
  · subst e
    exact ⟨x, updG_same _ _ _, by rw [upF_same]; exact hn, by rw [upF_same]; exact hi⟩
  · rcases insI_mem.1 ht' with h1 | h1
    · exact (e h1).elim
    · obtain ⟨y, h2, h3, h4⟩ := h t' h1
      exact ⟨y, by rw [updG_other _ _ e]; exact h2, by rw [upF_ne _ _ e]; exact h3, by rw [upF_ne _ _ e]; exact h4⟩
theorem Wants.leave {W : World} {g : Int → Option Ah} {T : Tb} (h : Wants W g T) (t : Int) : Wants W g (T.leave t) := by
  unfold Tb.leave
  split
  · intro t' ht'
    exact h t' (List.mem_filter.1 ht').1
  · exact h
theorem Wants.scan {W : World} {g : Int → Option Ah} {T : Tb} (h : Wants W g T) : Wants W g T.scan.1 := by
  have e := scanL_ids T T.ids
  intro t ht
  rw [show T.scan.1.toks = T.toks from e.2.1] at ht
  rw [show T.scan.1.want = T.want from e.2.2]
  exact h t ht
/-- who holds an aisle holds it rightly -/
theorem held_iff {T : Tb} (hok : T.Ok) {t id : Int} (ht : t ∈ T.toks) (hi : id ∈ T.ids) : (T.hd id == t) = inL ((T.want t).take (T.got t)) id := by
  have h1 := (hok.pos t ht).1
  by_cases e : id ∈ (T.want t).take (T.got t)
  · have h2 := hok.held t ht id e
    unfold inL
    simp [h2, e]
  · have h2 : T.hd id ≠ t := fun h3 => by
      have := (hok.hold id hi (by omega)).2
      rw [h3] at this
      exact e this
    unfold inL
    simp [h2, e]
end Go.Proofs.YtjmgokjljmmmgaaGreat
/- Stage 20: the law AislesGoes. -/
namespace Go.Proofs.YtjmgokjljmmmgaaGreat
open Go.RowKit

theorem few_all20 {l : List Ac} {m : Int} (h : fewB l m = true) : (l.length : Int) ≤ m ∧ ∀ x ∈ l, x.want.length ≤ 40 := by
  unfold fewB at h
  simp only [Bool.and_eq_true, decide_eq_true_eq, List.all_eq_true] at h
  exact h
theorem SideG.sub21 {w w1 : World} {p : Value} {T : Tb} {bs bs' : List Bes} (h : SideG tbObj w w1 p T bs) (hs : ∀ b ∈ bs', b ∈ bs) : SideG tbObj w w1 p T bs' := by
  obtain ⟨F, h0, h1, h2, h3⟩ := h
  exact ⟨F, h0, h1, fun b hb => h2 b (hs b hb), h3⟩
set_option maxHeartbeats 4000000 in
set_option maxRecDepth 100000 in
theorem refMayN_any (va : Value) (l : List Int) (W : World) (ha : IntsAt W va l) :
    Calls Tryz.prog 4 #[va] W fun e w' => e = .returned (.bool (mayB l)) ∧ Below W.heap.size W w' := by
  by_cases h : l.length ≤ 1000
  · exact refMay20_any va l W ha h
  · have hm : mayB l = false := by
      unfold mayB
      rw [decide_eq_false (by omega), Bool.false_and]
    rw [hm]
    obtain ⟨a, c, rfl⟩ := ha.form
    have k1 : (32 : Int) < (l.length : Int) := by omega
    have hB := Below.refl W.heap.size W
    clear h hm ha
    go_enter Tryz.func4, Tryz.ntmps4
    go_wp2
    go_ret
    exact ⟨rfl, hB⟩

end Go.Proofs.YtjmgokjljmmmgaaGreat
