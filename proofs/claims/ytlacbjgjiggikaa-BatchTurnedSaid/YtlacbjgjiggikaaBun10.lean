/- Texts of this proof, joined: GrB; BtB. -/
import Derived.Test.YtlacbjgjiggikaaBun9
import Derived.Deep.RegionHeld3
import Derived.Deep.AppendLies
import Derived.Deep.DeepCutAuto
/- Stage 16's program: graphOf. -/
namespace Go.Proofs.Ytlacbjgjiggikaa
open Go.RowKit

theorem Blk.only {w w' : World} {F : Nat → Prop} {b : Nat} {v : Value} {vs : List Value} (h : Blk w b (v :: vs)) (ho : Only F w w') (hf : ¬ F b) : Blk w' b (v :: vs) := h.same (ho.block b h.lt hf)
theorem OwnI.same {w w' : World} {B : Nat} {v : Value} {l : List Int} (h : OwnI w B v l) (he : ∀ k, v.ownBlock = some k → w'.heap[k]? = w.heap[k]?) : OwnI w' B v l := by
  refine ⟨h.1, ?_⟩
  rcases h.2 with h0 | ⟨g, cap, cur, rfl, hg, hh, rest⟩
  · exact .inl h0
  · exact .inr ⟨g, cap, cur, rfl, hg, (he g rfl).trans hh, rest⟩
theorem OwnI.cells {w : World} {B : Nat} {v : Value} {l : List Int} (h : OwnI w B v l) : ∀ k, v.ownBlock = some k → B ≤ k ∧ k < w.heap.size ∧ ∃ cur, w.heap[k]? = some (.cells cur 3) := by
  intro k hk
  rcases h.2 with ⟨rfl, _⟩ | ⟨g, cap, cur, rfl, hg, hh, _⟩
  · simp [Value.ownBlock] at hk
  · simp [Value.ownBlock] at hk
    subst hk
    exact ⟨hg, lt_of_block hh, cur, hh⟩
/-- the lists of heads, each in a block of its own -/
structure RowsI (B : Nat) (w : World) (gh : Int → Option Hd) (H : Int → List Int) : Prop where
  own : ∀ n, I64 n → OwnI w B (hat gh n) (H n)
  dis : ∀ n m, I64 n → I64 m → n ≠ m → ∀ g, (hat gh n).ownBlock = some g → (hat gh m).ownBlock ≠ some g
section
variable {B : Nat} {w w' : World} {gh : Int → Option Hd} {H H' : Int → List Int}
theorem RowsI.same (h : RowsI B w gh H) (he : ∀ n, I64 n → ∀ k, (hat gh n).ownBlock = some k → w'.heap[k]? = w.heap[k]?) : RowsI B w' gh H := ⟨fun n hn => (h.own n hn).same (he n hn), h.dis⟩
theorem RowsI.kept (h : RowsI B w gh H) (hb : Below w.heap.size w w') : RowsI B w' gh H := h.same fun n hn k hk => hb.block k ((h.own n hn).cells k hk).2.1
theorem RowsI.none (w : World) (h : ∀ n, H n = []) : RowsI B w (fun _ => Option.none) H := ⟨fun n _ => by rw [h]; exact OwnR.nil _ _ _ _ _, fun n m _ _ _ g hg => by simp [hat, hdv, hd0, Value.ownBlock] at hg⟩
theorem RowsI.put (h : RowsI B w gh H) {s d : Int} (hs : I64 s) {y : Hd} (hg : w.grownBy w' (hat gh s).ownBlock) (ho : OwnI w' B (hdv y) (H s ++ [d])) (hy : ∀ k, (hdv y).ownBlock = some k → (hat gh s).ownBlock = some k ∨ w.heap.size ≤ k)
    (hH : ∀ n, H' n = if n = s then H n ++ [d] else H n) : RowsI B w' (updG gh s (some y)) H' := by
  have e1 : hat (updG gh s (some y)) s = hdv y := by unfold hat; rw [updG_same]; rfl
  have e2 : ∀ n, n ≠ s → hat (updG gh s (some y)) n = hat gh n := fun n hn => by unfold hat; rw [updG_other _ _ hn]
  refine ⟨fun n hn => ?_, fun n m hn hm hne g hg1 hg2 => ?_⟩
  · by_cases e : n = s
    · subst e
      rw [e1, hH, if_pos rfl]
      exact ho
    · rw [e2 n e, hH, if_neg e]
      exact (h.own n hn).same fun k hk => hg.block k ((h.own n hn).cells k hk).2.1 fun e3 => h.dis s n hs hn (Ne.symm e) k e3.symm hk
  · by_cases en : n = s
    · subst en
      rw [e1] at hg1
      rw [e2 m (Ne.symm hne)] at hg2
      rcases hy g hg1 with h1 | h1
      · exact h.dis n m hn hm hne g h1 hg2
      · have := ((h.own m hm).cells g hg2).2.1; omega
    · rw [e2 n en] at hg1
      by_cases em : m = s
      · subst em
        rw [e1] at hg2
        rcases hy g hg2 with h1 | h1
        · exact h.dis n m hn hm hne g hg1 h1
        · have := ((h.own n hn).cells g hg1).2.1; omega
      · rw [e2 m em] at hg2
        exact h.dis n m hn hm hne g hg1 hg2
theorem RowsI.grown {b : Nat} (h : RowsI B w gh H) (hg : w.grownBy w' (some b)) (u : (∃ m g, MapH w b m g) ∨ ∃ m g, MapI w b m g) : RowsI B w' gh H := h.same fun n hn k hk => by
  obtain ⟨_, h1, cur, h2⟩ := (h.own n hn).cells k hk
  refine hg.block k h1 fun e => ?_
  injection e with e
  rcases u with ⟨m, g, u⟩ | ⟨m, g, u⟩
  · exact MapG.ne u h2 e.symm
  · exact MapG.ne u h2 e.symm
end
theorem Only.grownN {F : Nat → Prop} {w0 w w' : World} {row : Option Nat} (h : Only F w0 w) (hg : w.grownBy w' row) (hr : ∀ k, row = some k → F k ∨ w0.heap.size ≤ k) : Only F w0 w' :=
  ⟨hg.os.trans h.os, hg.tape.trans h.tape, hg.output.trans h.output, Nat.le_trans h.size hg.size, fun k hk hf => (hg.block k (Nat.lt_of_lt_of_le hk h.size) fun e => (hr k e.symm).elim hf fun h2 => by omega).trans (h.block k hk hf)⟩
theorem set_sorted (l : List Int) : Lib.compact (l.mergeSort fun x y => decide (x ≤ y)) = setL l := by
  refine risL.eq (compact_rise (sorted_ms l)) (setL_ris l) fun x => ?_
  rw [compact_mem, List.mem_mergeSort, setL_mem]

theorem gOf_start (w1 : World) (a : Option Addr) (n c : Nat) :
    Blk (((w1.alloc (Obj.map #[] 0)).alloc (Obj.map #[] 0)).alloc (Obj.cells #[.slice a n c, .map (some w1.heap.size), .map (some (w1.heap.size + 1))] 61)) (w1.heap.size + 1 + 1) (grc a n c w1.heap.size (w1.heap.size + 1)) ∧
    MapH (((w1.alloc (Obj.map #[] 0)).alloc (Obj.map #[] 0)).alloc (Obj.cells #[.slice a n c, .map (some w1.heap.size), .map (some (w1.heap.size + 1))] 61)) w1.heap.size 0 (fun _ => none) ∧
    MapI (((w1.alloc (Obj.map #[] 0)).alloc (Obj.map #[] 0)).alloc (Obj.cells #[.slice a n c, .map (some w1.heap.size), .map (some (w1.heap.size + 1))] 61)) (w1.heap.size + 1) 0 (fun _ => none) ∧
    Below w1.heap.size w1 (((w1.alloc (Obj.map #[] 0)).alloc (Obj.map #[] 0)).alloc (Obj.cells #[.slice a n c, .map (some w1.heap.size), .map (some (w1.heap.size + 1))] 61)) := by
  have h1 := MapH.new w1
  have h2 := MapI.new (w1.alloc (Obj.map #[] 0))
  have h3 := Blk.new ((w1.alloc (Obj.map #[] 0)).alloc (Obj.map #[] 0)) [.slice a n c, .map (some w1.heap.size), .map (some (w1.heap.size + 1))] 61
  rw [show (w1.alloc (Obj.map #[] 0)).heap.size = w1.heap.size + 1 by simp] at h2
  rw [show ((w1.alloc (Obj.map #[] 0)).alloc (Obj.map #[] 0)).heap.size = w1.heap.size + 1 + 1 by simp] at h3
  have b1 := (Below.refl (w1.alloc (Obj.map #[] 0)).heap.size (w1.alloc (Obj.map #[] 0))).alloc (Nat.le_refl _) (Obj.map #[] 0)
  have b2 := (Below.refl ((w1.alloc (Obj.map #[] 0)).alloc (Obj.map #[] 0)).heap.size ((w1.alloc (Obj.map #[] 0)).alloc (Obj.map #[] 0))).alloc (Nat.le_refl _) (Obj.cells #[.slice a n c, .map (some w1.heap.size), .map (some (w1.heap.size + 1))] 61)
  exact ⟨h3, (h1.kept b1).kept b2, h2.kept b2, (((Below.refl _ _).alloc (Nat.le_refl _) _).alloc (by simp) _).alloc (by simp; omega) _⟩

set_option maxHeartbeats 4000000 in
set_option maxRecDepth 100000 in
theorem gOf_any (va vb : Value) (l : List Int) (arcs : List Arc16) (w : World) (ha : IntsAt w va l) (hb : ArcsAt w vb arcs) (hl : l.length ≤ 640) (hal : arcs.length ≤ 640) (hB : B64 l) (hBa : B64a arcs) :
    Calls Try.prog 25 #[va, vb] w fun e w' => ∃ a c hb ab hm gh, e = .returned (grv a (setL l).length c hb ab) ∧ w.heap.size ≤ ab ∧
      GrAt (fun k => w.heap.size ≤ k ∧ k < w'.heap.size ∧ k ≠ ab) w' (.slice a (setL l).length c) hb hm gh (setL l) (hdsL (setL l) arcs) ∧ MapI w' ab (setL l).length (gA (setL l) (awL (setL l) arcs [])) ∧ Below w.heap.size w w' := by
  have hset := set_sorted l
  have hN : (setL l).length ≤ 640 := Nat.le_trans (setL_le l) hl
  have hri := setL_ris l
  have hBN : ∀ n ∈ setL l, I64 n := fun n hn => hB n ((setL_mem l n).1 hn)
  generalize setL l = N at *
  have HRI := Lib.hid hri
  have HBN := Lib.hid hBN
  have HSET := Lib.hid hset
  have HBA := Lib.hid hBa
  obtain ⟨av, cv, ev⟩ := RowsAt.form hb
  subst ev
  clear hri hBN hset hB hBa
  have hZ := Blk.new w [.slice none 0 0, .map none, .map none] 61
  have hal0 := (Below.refl w.heap.size w).alloc (Nat.le_refl _) (.cells #[.slice none 0 0, .map none, .map none] 61)
  have CL := Lib.hid (cloneI_any va l _ (ha.below hal0) (by omega))
  have hmk1 : ∀ w : World, (Instr.makeMap 59 none).run Try.prog w = .ok (.map (some w.heap.size)) (w.alloc (.map #[] 0)) := fun w => by kernel_rfl
  have hmk2 : ∀ w : World, (Instr.makeMap 39 none).run Try.prog w = .ok (.map (some w.heap.size)) (w.alloc (.map #[] 0)) := fun w => by kernel_rfl
  have HZ := Lib.hid hZ
  have HAL := Lib.hid hal0
  have HVB := Lib.hid hb
  clear hZ hal0 ha hb
  go_enter Try.func25, Try.ntmps25
  go_upto_region 2 with (go_at_call 33; (with_reducible refine CL.out.mono ?_); rintro e w1 ⟨v1, rfl, ho, hb⟩; have HO1 := Lib.hid ho; have HB1 := Lib.hid hb; obtain ⟨a1, c1, e1⟩ := (OwnI.ints ho).form; subst e1; clear ho hb)
  obtain ⟨hG, hH, hI, hb2⟩ := gOf_start w1 a1 l.length c1
  generalize ((w1.alloc (Obj.map #[] 0)).alloc (Obj.map #[] 0)).alloc (Obj.cells #[.slice a1 l.length c1, .map (some w1.heap.size), .map (some (w1.heap.size + 1))] 61) = W2 at *
  have hsz1 : (w.alloc (Obj.cells #[.slice none 0 0, .map none, .map none] 61)).heap.size = w.heap.size + 1 := by simp
  have hb02 : Below (w.heap.size + 1) (w.alloc (Obj.cells #[.slice none 0 0, .map none, .map none] 61)) W2 := by
    have := HB1.out.trans (hb2.mono HB1.out.size)
    rwa [hsz1] at this
  have HZ2 := Lib.hid (HZ.out.kept (by rw [hsz1]; exact hb02))
  have HB2 := Lib.hid (HAL.out.trans (hb02.mono (by omega)))
  have hs1 : w.heap.size + 1 ≤ w1.heap.size := by have := HB1.out.size; rwa [hsz1] at this
  have hvk : ∀ k, (Value.slice a1 l.length c1).ownBlock = some k → k < w1.heap.size ∧ w.heap.size + 1 ≤ k := fun k hk => by
    have h3 := OwnI.cells HO1.out k hk
    rw [hsz1] at h3
    exact ⟨h3.2.1, h3.1⟩
  have hne : ∀ k, w1.heap.size ≤ k → ¬ (Value.slice a1 l.length c1).ownBlock = some k := fun k h1 h2 => by have := (hvk k h2).1; omega
  have hzk : ¬ (Value.slice a1 l.length c1).ownBlock = some w.heap.size := fun h2 => by have := (hvk _ h2).2; omega
  have SO := Lib.hid (sortI_any W2 _ _ l (OwnR.kept HO1.out hb2) (by omega))
  obtain ⟨gx, hgx⟩ : ∃ gx, gx = w1.heap.size + 1 + 1 := ⟨_, rfl⟩
  obtain ⟨ab, hab⟩ : ∃ ab, ab = w1.heap.size + 1 := ⟨_, rfl⟩
  obtain ⟨mb, hmb⟩ : ∃ mb, mb = w1.heap.size := ⟨_, rfl⟩
  rw [← hgx, ← hab, ← hmb] at hG
  rw [← hmb] at hH
  rw [← hab] at hI
  rw [← hgx, ← hab, ← hmb]
  have hnx : ¬ (Value.slice a1 l.length c1).ownBlock = some gx := hne gx (by omega)
  have hna : ¬ (Value.slice a1 l.length c1).ownBlock = some ab := hne ab (by omega)
  have hnm : ¬ (Value.slice a1 l.length c1).ownBlock = some mb := hne mb (by omega)
  have HWM := Lib.hid (show w.heap.size < mb ∧ w.heap.size < ab ∧ w.heap.size < gx ∧ ab ≠ mb ∧ gx ≠ mb ∧ gx ≠ ab by omega)
  have g0 := hG.cell 0 rfl
  have HNN := Lib.hid (And.intro hnx (And.intro hna (And.intro hnm hzk)))
  have HG := Lib.hid hG
  have HH := Lib.hid hH
  have HI := Lib.hid hI
  have HVK := Lib.hid hvk
  clear hG hH hI hb2 hb02 hne hgx hab hmb hnx hna hnm hzk hvk hs1 hsz1 HO1 HB1 HZ HAL hmk1 hmk2
  go_upto_region 4 with (first
    | (go_at_call 34; (with_reducible refine SO.out.mono ?_); rintro e w3 ⟨rfl, h3, o3, k3⟩; have q0 := (HG.out.only o3 HNN.out.1).cell 0 rfl; have CO := Lib.hid k3; clear h3 o3 k3 g0)
    | (go_at_call 35; (with_reducible refine CO.out.mono ?_); rintro e w4 ⟨u4, rfl, h4, e4, o4⟩; rw [HSET.out] at h4; have HX4 := Lib.hid (HG.out.only o4 HNN.out.1); have r0 := HX4.out.cell 0 rfl; have f0 := HX4.out.free 0 rfl; have HU := Lib.hid h4; have HO4 := Lib.hid o4; have HE4 := Lib.hid e4; obtain ⟨a4, c4, e5⟩ := h4.form; subst e5; clear h4 e4 o4 q0))
  have hW4 : Only (fun k => w.heap.size ≤ k) W2 (w4.setCell ⟨gx, 0, none⟩ (.slice a4 N.length c4)) := (HO4.out.mono fun k hk => by have := (HVK.out k hk).2; omega).set _ _ (by have := HWM.out; simp; omega)
  have hG5 : Blk (w4.setCell ⟨gx, 0, none⟩ (.slice a4 N.length c4)) gx (grc a4 N.length c4 mb ab) := by
    have := HX4.out.set 0 (.slice a4 N.length c4)
    simpa using this
  have hO5 : Only (fun k => (Value.slice a1 l.length c1).ownBlock = some k ∨ k = gx) W2 (w4.setCell ⟨gx, 0, none⟩ (.slice a4 N.length c4)) := (HO4.out.mono fun k hk => .inl hk).set _ _ (.inr rfl)
  have hH5 := HH.out.same (hO5.block mb HH.out.lt fun h => h.elim HNN.out.2.2.1 fun e => HWM.out.2.2.2.2.1 e.symm)
  have hI5 := HI.out.same (hO5.block ab HI.out.lt fun h => h.elim HNN.out.2.1 fun e => HWM.out.2.2.2.2.2 e.symm)
  have hZ5 := HZ2.out.only hO5 fun h => h.elim HNN.out.2.2.2 fun e => by have := HWM.out; omega
  have hB5 : Below w.heap.size w (w4.setCell ⟨gx, 0, none⟩ (.slice a4 N.length c4)) := HB2.out.trans ((hW4.below (fun k hk => hk) HB2.out.size))
  have hU5 : IntsAt (w4.setCell ⟨gx, 0, none⟩ (.slice a4 N.length c4)) (.slice a4 N.length c4) N := (RowsAt.awayV HU.out.rows _ _ fun _ g hg e => HNN.out.1 (by rw [← HE4.out, hg]; exact congrArg some e)).ints
  have huk : ∀ k, (Value.slice a4 N.length c4).ownBlock = some k → w.heap.size < k ∧ k ≠ mb ∧ k ≠ ab ∧ k ≠ gx := fun k hk => by
    rw [HE4.out] at hk
    refine ⟨by have := (HVK.out k hk).2; omega, fun e => HNN.out.2.2.1 (e ▸ hk), fun e => HNN.out.2.1 (e ▸ hk), fun e => HNN.out.1 (e ▸ hk)⟩
  generalize w4.setCell ⟨gx, 0, none⟩ (.slice a4 N.length c4) = w5 at *
  have HG5 := Lib.hid hG5
  have HH5 := Lib.hid hH5
  have HI5 := Lib.hid hI5
  have HZ5 := Lib.hid hZ5
  have HB5 := Lib.hid hB5
  have HU5 := Lib.hid hU5
  have HUK := Lib.hid huk
  have g0 := hG5.cell 0 rfl
  clear hW4 hO5 hG5 hH5 hI5 hZ5 hB5 hU5 huk HX4 r0 f0 HO4 HE4 HU HB2 HZ2 SO CO HNN HG HH HI HVK hl
  go_wp2
  clear g0
  go_loopw [25] (fun i wr => ∃ k : Nat, k ≤ N.length ∧ i = .int .i64 k ∧ MapI wr ab k (gA (N.take k) fun _ => 0) ∧ Only (fun x => x = ab) w5 wr) (fun i _ => N.length - (intOf i).toNat)
  case atStart => exact ⟨0, Nat.zero_le _, rfl, by have := HI5.out; have e : (gA (N.take 0) fun _ => 0) = fun _ => none := by funext n; simp [gA]
                                                   rw [e]; exact this, Only.refl _ _⟩
  case round =>
    obtain ⟨k, hk, rfl, hmi, ho⟩ := hrel
    have HMI := Lib.hid hmi
    have HO := Lib.hid ho
    have HGr := Lib.hid (HG5.out.only ho fun e => HWM.out.2.2.2.2.2 e)
    have HUr := Lib.hid (RowsAt.only HU5.out.rows ho fun _ g hg e => (HUK.out g hg).2.2.1 e).ints
    by_cases hlt : k < N.length
    · obtain ⟨g, o, cc, e, hlc, _, p0⟩ := HUr.out.spot k hlt
      cases e
      have g2 := HGr.out.cell 2 rfl
      have j1 : (k : Int) < (N.length : Int) := by omega
      have j0 : (0 : Int) ≤ (k : Int) := by omega
      have hnk : (gA (N.take k) (fun _ => 0) N[k]).isSome = false := by
        rw [gA_some, inL_not]
        intro hm
        obtain ⟨i, hi, e⟩ := List.getElem_of_mem hm
        rw [List.length_take] at hi
        rw [List.getElem_take] at e
        have := List.pairwise_iff_getElem.1 HRI.out i k (by omega) hlt (by omega)
        omega
      have hup : updG (gA (N.take k) fun _ => 0) N[k] (some 0) = gA (N.take (k + 1)) fun _ => 0 := by
        funext n
        unfold updG gA
        have hm : n ∈ N.take (k + 1) ↔ n ∈ N.take k ∨ n = N[k] := by rw [List.take_succ_eq_append_getElem hlt, List.mem_append, List.mem_singleton]
        by_cases e : n = N[k]
        · rw [if_pos e, if_pos (hm.2 (.inr e))]; rfl
        · rw [if_neg e]
          by_cases e2 : n ∈ N.take k
          · rw [if_pos e2, if_pos (hm.2 (.inl e2))]
          · rw [if_neg e2, if_neg fun h => (hm.1 h).elim e2 e]
      have HX := Lib.hid (HBN.out _ (List.getElem_mem hlt))
      have HNK := Lib.hid hnk
      have HUP := Lib.hid hup
      generalize N[k] = x at *
      clear hnk hup hmi ho
      go_wp2_with (at_mapUpdate; refine wpList_putI rfl rfl _ _ _ rfl rfl HMI.out (by omega) x HX.out rfl 0 (by unfold I64; omega) rfl ?_; intro w7 h7 g7; rw [HNK.out, HUP.out] at h7; have H7 := Lib.hid h7; have O7 := Lib.hid (HO.out.trans (Only.grown g7 fun k e => by injection e with e; exact e.symm)); clear h7 g7)
      go_roundw
      case rel => exact ⟨k + 1, by omega, by go_num, H7.out, O7.out⟩
      case measure => simp [intOf]; omega
    · have hke : k = N.length := by omega
      subst hke
      rw [List.take_length] at HMI
      have hgz : (gA N fun _ => 0) = gA N (awL N (arcs.take 0) []) := by funext n; simp [gA, awL, vaL, cnA]
      rw [hgz] at HMI
      have hH6 := HH5.out.same (ho.block mb HH5.out.lt fun e => HWM.out.2.2.2.1 e.symm)
      have hZ6 := HZ5.out.only ho fun e => by have := HWM.out; omega
      have hB6 : Below w.heap.size w wr := HB5.out.trans ((ho.mono (F' := fun k => w.heap.size ≤ k) fun k e => by have := HWM.out; omega).below (fun k hk => hk) HB5.out.size)
      generalize wr = w6 at *
      have HH6 := Lib.hid hH6
      have HZ6 := Lib.hid hZ6
      have HB6 := Lib.hid hB6
      have hmx : mb < w6.heap.size ∧ ab < w6.heap.size ∧ gx < w6.heap.size := ⟨hH6.lt, hmi.lt, HGr.out.lt⟩
      have HMX := Lib.hid hmx
      clear hmi ho hgz hH6 hZ6 hB6 hlt hk hmx HG5 HH5 HI5 HZ5 HB5 HU5
      go_wp2
      go_loopw [35] (fun i wr => ∃ (k hm : Nat) (gh : Int → Option Hd), k ≤ arcs.length ∧ hm ≤ k ∧ i = .int .i64 k ∧ MapH wr mb hm gh ∧ RowsI w6.heap.size wr gh (hdsL N (arcs.take k)) ∧ MapI wr ab N.length (gA N (awL N (arcs.take k) [])) ∧ Only (fun x => x = mb ∨ x = ab) w6 wr) (fun i _ => arcs.length - (intOf i).toNat)
      case atStart => exact ⟨0, 0, fun _ => none, Nat.zero_le _, Nat.le_refl _, rfl, HH6.out, RowsI.none _ fun n => by simp [hdsL, vaL], HMI.out, Only.refl _ _⟩
      case round =>
        obtain ⟨k, hm, gh, hk, hmk, rfl, hmh, hrw, hmi, ho⟩ := hrel
        have HMH := Lib.hid hmh
        have HRW := Lib.hid hrw
        have HMJ := Lib.hid hmi
        have HO := Lib.hid ho
        have HGq := Lib.hid (HGr.out.only ho fun e => e.elim HWM.out.2.2.2.2.1 HWM.out.2.2.2.2.2)
        have HUq := Lib.hid (RowsAt.only HUr.out.rows ho fun _ g hg e => e.elim (HUK.out g hg).2.1 (HUK.out g hg).2.2.1).ints
        have hBq : Below w.heap.size w wr := HB6.out.trans ((ho.mono (F' := fun k => w.heap.size ≤ k) fun k e => by have := HWM.out; omega).below (fun k hk => hk) HB6.out.size)
        have HBq := Lib.hid hBq
        by_cases hlt : k < arcs.length
        · obtain ⟨g, o, cc, e, hlc, _, p0, p1⟩ := ArcsAt.at (RowsAt.kept HVB.out hBq) k hlt
          cases e
          have hxa := HBA.out _ (List.getElem_mem hlt)
          have hy := fun h => hdL_yes (nodes := N) hlt h
          have hn := fun h => hdL_not (nodes := N) hlt h
          have hya := fun h => awL_yes (nodes := N) hlt h
          have hna := fun h => awL_not (nodes := N) hlt h
          have hvb : vaB N arcs[k] = (inL N arcs[k].src && inL N arcs[k].dst) := rfl
          have hrl := fun n => hdL_len N (arcs.take k) n
          generalize arcs[k] = x at *
          obtain ⟨s, d⟩ := x
          simp only at hxa hy hn hya hna hvb p0 p1
          have hs64 : I64 s := hxa.1
          have hd64 : I64 d := hxa.2
          have hal := (Below.refl wr.heap.size wr).alloc (Nat.le_refl _) (.cells #[.int .i64 s, .int .i64 d] 53)
          have hAX := Blk.new wr [.int .i64 s, .int .i64 d] 53
          have H1 := Lib.hid (fun (w' : World) (hb : Below wr.heap.size wr w') => by
            have := gHas_any a4 N.length c4 mb ab N.length _ s w' (HMJ.out.kept hb) hs64
            rwa [gA_some] at this)
          have H2 := Lib.hid (fun (w' : World) (hb : Below wr.heap.size wr w') => by
            have := gHas_any a4 N.length c4 mb ab N.length _ d w' (HMJ.out.kept hb) hd64
            rwa [gA_some] at this)
          have HAL := Lib.hid hal
          have HAX := Lib.hid hAX
          have g5 := HGq.out.kept hal
          have g0 := g5.cell 0 rfl
          have g1 := g5.cell 1 rfl
          have g2 := g5.cell 2 rfl
          have x0 := hAX.cell 0 rfl
          have j0 : (0 : Int) ≤ (k : Int) := by omega
          have j1 : (k : Int) < (arcs.length : Int) := by omega
          have HS64 := Lib.hid hs64
          have HD64 := Lib.hid hd64
          obtain ⟨t1, ht1⟩ : ∃ t, inL N s = t := ⟨_, rfl⟩
          obtain ⟨t2, ht2⟩ : ∃ t, inL N d = t := ⟨_, rfl⟩
          rw [ht1] at H1 hvb
          rw [ht2] at H2 hvb
          have HT1 := Lib.hid ht1
          have HT2 := Lib.hid ht2
          have HRL := Lib.hid hrl
          have HY := Lib.hid hy
          have HN := Lib.hid hn
          have HYA := Lib.hid hya
          have HNA := Lib.hid hna
          have HVV := Lib.hid hvb
          clear hxa hy hn hya hna hvb hrl hs64 hd64 hal hAX g5 hBq hmh hrw hmi ho ht1 ht2
          cases t1
          · have hv := HVV.out
            simp only [Bool.false_and] at hv
            have HH7 := Lib.hid (HN.out hv)
            have HA7 := Lib.hid (HNA.out hv)
            clear hv H2 HY HN HYA HNA HVV
            go_wp2_with (go_at_call 36; (with_reducible refine (H1.out _ HAL.out).mono ?_); rintro e w7 ⟨rfl, hb⟩; have HB7 := Lib.hid (HAL.out.trans (hb.mono HAL.out.size)); clear hb)
            go_roundw
            case rel => exact ⟨k + 1, hm, gh, by omega, by omega, by go_num, HMH.out.kept HB7.out, (by
              rw [show hdsL N (arcs.take (k + 1)) = hdsL N (arcs.take k) from funext HH7.out]; exact HRW.out.kept HB7.out), (by
              rw [show awL N (arcs.take (k + 1)) [] = awL N (arcs.take k) [] from funext HA7.out]; exact HMJ.out.kept HB7.out), HO.out.trans (Only.of_below HB7.out)⟩
            case measure => simp [intOf]; omega
          · cases t2
            · have hv := HVV.out
              simp only [Bool.and_false] at hv
              have HH7 := Lib.hid (HN.out hv)
              have HA7 := Lib.hid (HNA.out hv)
              clear hv HY HN HYA HNA HVV
              go_wp2_with (first
                | (go_at_call 36; (with_reducible refine (H1.out _ HAL.out).mono ?_); rintro e w7 ⟨rfl, hb⟩; have HB7 := Lib.hid (HAL.out.trans (hb.mono HAL.out.size)); have g5 := HGq.out.kept HB7.out; have q0 := g5.cell 0 rfl; have q1 := g5.cell 1 rfl; have q2 := g5.cell 2 rfl; have y1 := (HAX.out.kept hb).cell 1 rfl; clear hb g5 g0 g1 g2 x0 H1)
                | (go_at_call 36; (with_reducible refine (H2.out _ HB7.out).mono ?_); rintro e w8 ⟨rfl, hb⟩; have HB8 := Lib.hid (HB7.out.trans (hb.mono HB7.out.size)); clear hb))
              go_roundw
              case rel => exact ⟨k + 1, hm, gh, by omega, by omega, by go_num, HMH.out.kept HB8.out, (by
                rw [show hdsL N (arcs.take (k + 1)) = hdsL N (arcs.take k) from funext HH7.out]; exact HRW.out.kept HB8.out), (by
                rw [show awL N (arcs.take (k + 1)) [] = awL N (arcs.take k) [] from funext HA7.out]; exact HMJ.out.kept HB8.out), HO.out.trans (Only.of_below HB8.out)⟩
              case measure => simp [intOf]; omega
            · have hv := HVV.out
              simp only [Bool.and_self] at hv
              have HH7 := Lib.hid (HY.out hv)
              have HA7 := Lib.hid (HYA.out hv)
              clear hv HY HN HYA HNA HVV
              go_upto_region 13 with (first
                | (go_at_call 36; (with_reducible refine (H1.out _ HAL.out).mono ?_); rintro e w7 ⟨rfl, hb⟩; have HB7 := Lib.hid (HAL.out.trans (hb.mono HAL.out.size)); have g5 := HGq.out.kept HB7.out; have q0 := g5.cell 0 rfl; have q1 := g5.cell 1 rfl; have q2 := g5.cell 2 rfl; have hy1 := HAX.out.kept hb; have HAY := Lib.hid hy1; have y1 := hy1.cell 1 rfl; clear hb hy1 g5 g0 g1 g2 x0 H1)
                | (go_at_call 36; (with_reducible refine (H2.out _ HB7.out).mono ?_); rintro e w8 ⟨rfl, hb⟩; have HB8 := Lib.hid (HB7.out.trans (hb.mono HB7.out.size)); have HA8 := Lib.hid (HAY.out.kept hb); clear hb q0 q1 q2 y1 H2))
              obtain ⟨L, hL⟩ : ∃ L, hdsL N (arcs.take k) s = L := ⟨_, rfl⟩
              have hg8 := HGq.out.kept HB8.out
              have hr8 := HRW.out.kept HB8.out
              have hm8 := HMH.out.kept HB8.out
              have hro := hr8.own s HS64.out
              rw [hL] at hro
              obtain ⟨ra, rc, re⟩ := hro.ints.form
              rw [re] at hro
              have hlk : ∀ w', Below w8.heap.size w8 w' → (Instr.lookup 59 (.map (some mb)) (.int .i64 s) false).run Try.prog w' = .ok (.slice ra L.length rc) w' := fun w' hb => by
                have := (hm8.kept hb).look1 HS64.out
                rwa [re] at this
              have hl0 := hlk w8.drew (Below.refl _ _).drew
              have hl1 := hlk (w8.alloc (.cells #[.int .i64 d] 3)).drew ((Below.refl _ _).alloc (Nat.le_refl _) _).drew
              have hB6 : w6.heap.size ≤ wr.heap.size := HO.out.size
              have hB8 : wr.heap.size ≤ w8.heap.size := HB8.out.size
              have hrb : ∀ b, (Value.slice ra L.length rc).ownBlock = some b → w6.heap.size ≤ b ∧ b < wr.heap.size := fun b hb => by
                have h1 := OwnI.cells (HRW.out.own s HS64.out) b (by rw [re]; exact hb)
                exact ⟨h1.1, h1.2.1⟩
              have n1 : some gx ≠ (Value.slice ra L.length rc).ownBlock := fun e => by have := (hrb gx e.symm).1; have := HMX.out; omega
              have n2 : some wr.heap.size ≠ (Value.slice ra L.length rc).ownBlock := fun e => by have := (hrb _ e.symm).2; omega
              have n3 : some mb ≠ (Value.slice ra L.length rc).ownBlock := fun e => by have := (hrb mb e.symm).1; have := HMX.out; omega
              have n4 : gx ≠ mb := HWM.out.2.2.2.2.1
              have n5 : wr.heap.size ≠ mb := fun e => by have := HMX.out; omega
              have lg : gx < w8.heap.size := hg8.lt
              have la : wr.heap.size < w8.heap.size := HA8.out.lt
              have hLl : L.length ≤ 1000 := by
                have h1 := HRL.out s
                rw [hL] at h1
                have h2 : (arcs.take k).length ≤ 640 := by rw [List.length_take]; omega
                omega
              obtain ⟨i0, hi, hz0, hz1, hz2⟩ := info_parts info_int
              have c1 := hg8.cell 1 rfl
              have c2 := HA8.out.cell 0 rfl
              have c3 := HA8.out.cell 1 rfl
              have HPUT := Lib.hid (fun (w' : World) (hh : MapH w' mb hm gh) (y : Hd) => MapH.put hh (by omega) HS64.out y)
              have HM8 := Lib.hid hm8
              have HL := Lib.hid hL
              have HRE := Lib.hid re
              have HRO := Lib.hid hro
              have HR8 := Lib.hid hr8
              clear hg8 hr8 hm8 hro hlk hrb hL re
              go_region_held3 (fun w' => w'.cell? ⟨gx, 1, none⟩ = some (.map (some mb)) ∧ w'.cell? ⟨wr.heap.size, 0, none⟩ = some (.int .i64 s) ∧ w'.cell? ⟨wr.heap.size, 1, none⟩ = some (.int .i64 d))
                (first
                  | (go_split_ands; exact ⟨by assumption, by assumption, by assumption⟩)
                  | (go_split_ands; exact ⟨by go_keep, by go_keep, by go_keep⟩)
                  | (go_split_ands
                     exact ⟨(hg9.cell_far _ (by simp; omega) n1).trans (by assumption), (hg9.cell_far _ (by simp; omega) n2).trans (by assumption), (hg9.cell_far _ (by simp; omega) n2).trans (by assumption)⟩)
                  | (go_split_ands
                     exact ⟨(hg10.cell_far _ (by have := hg9.size; simp at this ⊢; omega) (by simpa using n4)).trans (by assumption), (hg10.cell_far _ (by have := hg9.size; simp at this ⊢; omega) (by simpa using n5)).trans (by assumption), (hg10.cell_far _ (by have := hg9.size; simp at this ⊢; omega) (by simpa using n5)).trans (by assumption)⟩))
                ((refine step_append_lies _ (by rfl) _ _ _ (by rfl) w6.heap.size 3 i0 (.int .i64 0) 1 8 Try.underlying29 hi hz0 hz1 hz2 rfl (by omega) (.slice ra L.length rc) L.length (flats csI L) (by rfl) ((World.ownsRow.alloc HRO.out _).drew)
                    ⟨w8.heap.size, 0, none⟩ 1 1 [.int .i64 d] (by rfl) (by rfl) (World.news_of_block (cs := #[.int .i64 d]) (t := 3) (fr := (0, 0)) (heap_alloc_new w8 _)) (by simp [Value.oneCell'])
                    (by omega) (by unfold maxLen; omega) (by omega) (by simp; omega) (w8.heap.size + 1) (by simp) ?_
                  intro gg cap w9 ho9 hg9 hat9 hlt9
                  obtain ⟨w10, hrun10, hm10, hg10⟩ := HPUT.out w9 (MapH.same (MapH.kept HM8.out (((Below.refl w8.heap.size w8).alloc (Nat.le_refl _) (.cells #[.int .i64 d] 3)).drew)) (hg9.block mb (by have := HM8.out.lt; simp; omega) n3)) ⟨some gg, L.length + 1, cap⟩
                  have hrun11 : (Instr.mapUpdate 59 (.map (some mb)) (.int .i64 s) (.slice (some ⟨gg, 0, none⟩) (L.length + 1) cap)).run Try.prog w9 = .ok () w10 := hrun10
                  clear hrun10))
              all_goals (
                have k8 := ((Below.refl w8.heap.size w8).alloc (Nat.le_refl _) (.cells #[.int .i64 d] 3)).drew
                have m9 := MapH.same (MapH.kept HM8.out k8) (hg9.block mb (by have := HM8.out.lt; simp; omega) n3)
                have na : some ab ≠ (Value.slice ra L.length rc).ownBlock := fun e => by
                  have h1 := OwnI.cells (HRW.out.own s HS64.out) ab (by rw [HRE.out]; exact e.symm)
                  have := HMX.out; omega
                have i8 := HMJ.out.kept HB8.out
                have i9 := (i8.kept k8).same (hg9.block ab (by have := i8.lt; simp; omega) na)
                have i10 := i9.same (hg10.block ab i9.lt (by simpa using HWM.out.2.2.2.1))
                have r9 : RowsI w6.heap.size w9 (updG gh s (some ⟨some gg, L.length + 1, cap⟩)) (hdsL N (arcs.take (k + 1))) := RowsI.put (HR8.out.kept k8) HS64.out (by rw [HRE.out]; exact hg9) (by rw [HL.out]; exact OwnR.snoc ho9 rfl rfl) (fun b hb => by
                  rw [HRE.out]
                  simp [hdv, Value.ownBlock] at hb
                  subst hb
                  rcases hat9 with h | h
                  · exact .inl h
                  · exact .inr (by simp; omega)) HH7.out
                have r10 := r9.grown hg10 (.inl ⟨_, _, m9⟩)
                have gb := ((((HGq.out.kept HB8.out).kept k8).grown hg9 n1).grown hg10 (by simpa using n4))
                have gt := (((HA8.out.kept k8).grown hg9 n2).grown hg10 (by simpa using n5))
                have o10 := (((HO.out.trans (Only.of_below HB8.out)).trans (Only.of_below k8)).grownN hg9 (fun b e => by
                  have h1 := OwnI.cells (HRW.out.own s HS64.out) b (by rw [HRE.out]; exact e)
                  exact .inr h1.1)).grownN hg10 (fun b e => by injection e with e; exact .inl (.inl e.symm))
                obtain ⟨q, hq⟩ : ∃ q, awL N (arcs.take k) [] d = q := ⟨_, rfl⟩
                have hdN : d ∈ N := inL_iff.1 HT2.out
                have lk := i10.look1 HD64.out
                rw [gA_getD hdN, hq] at lk
                have hq60 : q ≤ 640 := by
                  have h1 := awL_len N (arcs.take k) [] d
                  rw [hq, List.length_take] at h1
                  omega
                have hA := gA_upd (nodes := N) (A := awL N (arcs.take k) []) (A' := awL N (arcs.take (k + 1)) []) (k := q + 1) hdN (fun n => by
                  rw [HA7.out]
                  by_cases e : n = d
                  · rw [if_pos e, if_pos e, e, hq]
                  · rw [if_neg e, if_neg e])
                have hso : (gA N (awL N (arcs.take k) []) d).isSome = true := by rw [gA_some, HT2.out]
                have q1 : (q : Int) ≤ 640 := by omega
                have q0 : (0 : Int) ≤ (q : Int) := by omega
                have s2 := gb.cell 2 rfl
                have s3 := gt.cell 1 rfl
                have HI10 := Lib.hid i10
                have HR10 := Lib.hid r10
                have HO10 := Lib.hid o10
                have HM10 := Lib.hid hm10
                have HAA := Lib.hid hA
                have HSO := Lib.hid hso
                clear hA hso i8 i9 i10 r9 r10 o10 m9 gb gt hm10 k8 hq na ho9 hg9 hat9 hlt9 hg10 hrun11 c1 c2 c3 hl0 hl1
                obtain ⟨w11, hrun, h11, g11⟩ := HI10.out.put (by omega) HD64.out ((q : Int) + 1) (by unfold I64; omega)
                rw [HSO.out, if_pos rfl, show ((q : Int) + 1) = ((q + 1 : Nat) : Int) by omega, HAA.out] at h11
                have H11 := Lib.hid h11
                have G11 := Lib.hid g11
                clear h11 g11
                go_wp2
                go_roundw
                case rel => exact ⟨k + 1, _, _, by omega, by split <;> omega, by go_num, HM10.out.same (G11.out.block mb HM10.out.lt (by simpa using HWM.out.2.2.2.1.symm)), HR10.out.grown G11.out (.inr ⟨_, _, HI10.out⟩), H11.out, HO10.out.grownN G11.out (fun b e => by injection e with e; exact .inl (.inr e.symm))⟩
                case measure => simp [intOf]; omega)
        · have hke : k = arcs.length := by omega
          subst hke
          rw [List.take_length] at HRW HMJ
          have hZq := HZ6.out.only ho fun e => by have := HWM.out; omega
          have z0 := hZq.cell 0 rfl
          have z1 := hZq.cell 1 rfl
          have z2 := hZq.cell 2 rfl
          have y0 := hZq.free 0 rfl
          have y1 := hZq.free 1 rfl
          have y2 := hZq.free 2 rfl
          have g0 := HGq.out.cell 0 rfl
          have g1 := HGq.out.cell 1 rfl
          have g2 := HGq.out.cell 2 rfl
          have HZq := Lib.hid hZq
          have HM := Lib.hid hmh
          clear hk hlt hmh hrw hmi ho hBq hZq
          go_wp2
          have hF := ((HZq.out.set 0 (.slice a4 N.length c4)).set 1 (.map (some mb))).set 2 (.map (some ab))
          simp only [List.set_cons_zero, List.set_cons_succ] at hF
          have f0 := hF.cell 0 rfl
          have f1 := hF.cell 1 rfl
          have f2 := hF.cell 2 rfl
          have he : ∀ b, b ≠ w.heap.size → (((wr.setCell ⟨w.heap.size, 0, none⟩ (.slice a4 N.length c4)).setCell ⟨w.heap.size, 1, none⟩ (.map (some mb))).setCell ⟨w.heap.size, 2, none⟩ (.map (some ab))).heap[b]? = wr.heap[b]? := fun b hb => by
            rw [Below.heap_setCell _ _ _ _ (by exact hb), Below.heap_setCell _ _ _ _ (by exact hb), Below.heap_setCell _ _ _ _ (by exact hb)]
          have hsz : (((wr.setCell ⟨w.heap.size, 0, none⟩ (.slice a4 N.length c4)).setCell ⟨w.heap.size, 1, none⟩ (.map (some mb))).setCell ⟨w.heap.size, 2, none⟩ (.map (some ab))).heap.size = wr.heap.size := by simp [World.setCell]
          have hbz := ((HBq.out.setCell (p := ⟨w.heap.size, 0, none⟩) (Nat.le_refl _) (.slice a4 N.length c4)).setCell (p := ⟨w.heap.size, 1, none⟩) (Nat.le_refl _) (.map (some mb))).setCell (p := ⟨w.heap.size, 2, none⟩) (Nat.le_refl _) (.map (some ab))
          have hrl : ∀ n, I64 n → ∀ b, (hat gh n).ownBlock = some b → w6.heap.size ≤ b ∧ b < wr.heap.size := fun n hn b hb => ⟨((HRW.out.own n hn).cells b hb).1, ((HRW.out.own n hn).cells b hb).2.1⟩
          refine bodyPost_ret (v := grv a4 N.length c4 mb ab) (by simp [results, Try.results25, go_sem, f0, f1, f2]) rfl ⟨a4, c4, mb, ab, hm, gh, rfl, by have := HWM.out; omega, ⟨?_, ?_, ?_, ?_, ?_, ?_⟩, ?_, hbz⟩
          · exact (RowsAt.same HUq.out.rows (Nat.le_of_eq hsz.symm) fun _ g hg => he g (by have := (HUK.out g hg).1; omega)).ints
          · exact HM.out.same (he mb (by have := HWM.out; omega))
          · exact fun n hn => (RowsAt.same (OwnI.ints (HRW.out.own n hn)).rows (Nat.le_of_eq hsz.symm) fun _ g hg => he g (by have := hrl n hn g hg; have := HMX.out; have := HWM.out; omega)).ints
          · exact fun h0 g hg => ⟨by have := (HUK.out g hg).1; omega, by rw [hsz]; exact RowsAt.lt HUq.out.rows h0 g hg, (HUK.out g hg).2.2.1⟩
          · exact ⟨by have := HWM.out; omega, by rw [hsz]; exact HM.out.lt, HWM.out.2.2.2.1.symm⟩
          · exact fun n hn _ g hg => ⟨by have := hrl n hn g hg; have := HMX.out; have := HWM.out; omega, by rw [hsz]; exact (hrl n hn g hg).2, by have := hrl n hn g hg; have := HMX.out; omega⟩
          · exact HMJ.out.same (he ab (by have := HWM.out; omega))
end Go.Proofs.Ytlacbjgjiggikaa
/- Stage 23's program: namesOf: who has which ID. -/
namespace Go.Proofs.Ytlacbjgjiggikaa
open Go.RowKit Go.Maps

/-- who has which ID: the maps' blocks -/
abbrev nmv (bk bs : Nat) : Value := .agg #[.map (some bk), .map (some bs)]
structure NmAt (w : World) (bk bs : Nat) (K : List Tk) (L : List Sp) : Prop where
  kn : ∃ m, MapI w bk m (stO K)
  sp : ∃ m, MapI w bs m (cntG (idsO L))
theorem NmAt.kept {w w' : World} {bk bs : Nat} {K : List Tk} {L : List Sp} (h : NmAt w bk bs K L) (hb : Below w.heap.size w w') : NmAt w' bk bs K L := by
  obtain ⟨⟨m, h1⟩, ⟨m2, h2⟩⟩ := h
  exact ⟨⟨m, h1.kept hb⟩, ⟨m2, h2.kept hb⟩⟩
theorem tks_spot {w : World} {v : Value} {K : List Tk} (h : RowsAt w 14 csTk v K) (k : Nat) (hk : k < K.length) : ∃ g o cc id prio sk ge fx fy tx ty a c l st seq si lo ba bc bu, K[k] = ⟨⟨id, prio, sk, ge, fx, fy, tx, ty, a, c, l⟩, st, seq, si, lo, ba, bc, bu⟩ ∧ v = .slice (some ⟨g, o, none⟩) K.length cc ∧ K.length ≤ cc ∧
    w.cell? ⟨g, o + k * 14, none⟩ = some (.int .i64 id) ∧ w.cell? ⟨g, o + k * 14 + 1, none⟩ = some (.int .i64 prio) ∧ w.cell? ⟨g, o + k * 14 + 2, none⟩ = some (.int .u64 sk) ∧ w.cell? ⟨g, o + k * 14 + 3, none⟩ = some (.int .u64 ge) ∧ w.cell? ⟨g, o + k * 14 + 4, none⟩ = some (.int .i64 fx) ∧ w.cell? ⟨g, o + k * 14 + 5, none⟩ = some (.int .i64 fy) ∧ w.cell? ⟨g, o + k * 14 + 6, none⟩ = some (.int .i64 tx) ∧ w.cell? ⟨g, o + k * 14 + 7, none⟩ = some (.int .i64 ty) ∧ w.cell? ⟨g, o + k * 14 + 8, none⟩ = some (.slice a l.length c) ∧ w.cell? ⟨g, o + k * 14 + 9, none⟩ = some (.int .i64 st) ∧ w.cell? ⟨g, o + k * 14 + 10, none⟩ = some (.int .i64 seq) ∧ w.cell? ⟨g, o + k * 14 + 11, none⟩ = some (.int .i64 si) ∧ w.cell? ⟨g, o + k * 14 + 12, none⟩ = some (.int .i64 lo) ∧ w.cell? ⟨g, o + k * 14 + 13, none⟩ = some (.slice ba bu.length bc) := by
  obtain ⟨g, o, cc, e, hc, _, hx⟩ := RowsAt.spot h k hk
  generalize K[k] = x at *
  obtain ⟨⟨id, prio, sk, ge, fx, fy, tx, ty, a, c, l⟩, st, seq, si, lo, ba, bc, bu⟩ := x
  exact ⟨g, o, cc, id, prio, sk, ge, fx, fy, tx, ty, a, c, l, st, seq, si, lo, ba, bc, bu, rfl, e, hc, hx 0 _ rfl, hx 1 _ rfl, hx 2 _ rfl, hx 3 _ rfl, hx 4 _ rfl, hx 5 _ rfl, hx 6 _ rfl, hx 7 _ rfl, hx 8 _ rfl, hx 9 _ rfl, hx 10 _ rfl, hx 11 _ rfl, hx 12 _ rfl, hx 13 _ rfl⟩
theorem nm_start (w : World) : Blk ((((w.alloc (.cells #[.map none, .map none] 45)).alloc (.map #[] 0)).alloc (.map #[] 0)).alloc (.cells #[.map (some (w.heap.size + 1)), .map (some (w.heap.size + 1 + 1))] 45)) (w.heap.size + 1 + 1 + 1) [.map (some (w.heap.size + 1)), .map (some (w.heap.size + 1 + 1))] ∧
    MapI ((((w.alloc (.cells #[.map none, .map none] 45)).alloc (.map #[] 0)).alloc (.map #[] 0)).alloc (.cells #[.map (some (w.heap.size + 1)), .map (some (w.heap.size + 1 + 1))] 45)) (w.heap.size + 1) 0 (fun _ => none) ∧
    MapI ((((w.alloc (.cells #[.map none, .map none] 45)).alloc (.map #[] 0)).alloc (.map #[] 0)).alloc (.cells #[.map (some (w.heap.size + 1)), .map (some (w.heap.size + 1 + 1))] 45)) (w.heap.size + 1 + 1) 0 (fun _ => none) ∧
    Blk ((((w.alloc (.cells #[.map none, .map none] 45)).alloc (.map #[] 0)).alloc (.map #[] 0)).alloc (.cells #[.map (some (w.heap.size + 1)), .map (some (w.heap.size + 1 + 1))] 45)) w.heap.size [.map none, .map none] ∧
    Below w.heap.size w ((((w.alloc (.cells #[.map none, .map none] 45)).alloc (.map #[] 0)).alloc (.map #[] 0)).alloc (.cells #[.map (some (w.heap.size + 1)), .map (some (w.heap.size + 1 + 1))] 45)) := by
  have b1 := (Below.refl w.heap.size w).alloc (Nat.le_refl _) (.cells #[.map none, .map none] 45)
  have f1 := Blk.new w [.map none, .map none] 45
  have s1 : (w.alloc (.cells #[.map none, .map none] 45)).heap.size = w.heap.size + 1 := by simp
  generalize w.alloc (.cells #[.map none, .map none] 45) = W1 at *
  generalize w.heap.size = n at *
  have b2 := (Below.refl W1.heap.size W1).alloc (Nat.le_refl _) (.map #[] 0)
  have f2 := MapI.new W1
  have s2 : (W1.alloc (.map #[] 0)).heap.size = n + 1 + 1 := by simp [s1]
  rw [s1] at f2
  generalize W1.alloc (.map #[] 0) = W2 at *
  have b3 := (Below.refl W2.heap.size W2).alloc (Nat.le_refl _) (.map #[] 0)
  have f3 := MapI.new W2
  have s3 : (W2.alloc (.map #[] 0)).heap.size = n + 1 + 1 + 1 := by simp [s2]
  rw [s2] at f3
  generalize W2.alloc (.map #[] 0) = W3 at *
  have b4 := (Below.refl W3.heap.size W3).alloc (Nat.le_refl _) (.cells #[.map (some (n + 1)), .map (some (n + 1 + 1))] 45)
  have f4 := Blk.new W3 [.map (some (n + 1)), .map (some (n + 1 + 1))] 45
  rw [s3] at f4
  have c3 := b3.trans (b4.mono b3.size)
  have c2 := b2.trans (c3.mono b2.size)
  have hs : n ≤ W1.heap.size := by omega
  exact ⟨f4, f2.kept c3, f3.kept b4, f1.kept c2, b1.trans (c2.mono hs)⟩

set_option maxHeartbeats 4000000 in
set_option maxRecDepth 100000 in
theorem namesOf_any (vk vl : Value) (K : List Tk) (L : List Sp) (w : World) (hk : RowsAt w 14 csTk vk K) (hl : SpsAt w vl L) (hkl : K.length ≤ 1000) (hll : L.length ≤ 1000) (hK : ∀ t ∈ K, I64 t.sp.id ∧ I64 t.st) (hL : ∀ x ∈ L, I64 x.id) :
    Calls Try.prog 12 #[vk, vl] w fun e w' => ∃ bk bs, e = .returned (nmv bk bs) ∧ NmAt w' bk bs K L ∧ Below w.heap.size w w' := by
  obtain ⟨va, vc, rfl⟩ := RowsAt.form hk
  obtain ⟨la, lc, rfl⟩ := hl.form
  have HK := Lib.hid hk
  have HL := Lib.hid hl
  have HK64 := Lib.hid hK
  have HL64 := Lib.hid hL
  obtain ⟨hN, hM1, hM2, hZ, hB⟩ := nm_start w
  have HN := Lib.hid hN
  have HM1 := Lib.hid hM1
  have HM2 := Lib.hid hM2
  have HZ := Lib.hid hZ
  have HB := Lib.hid hB
  have hmk : ∀ w : World, (Instr.makeMap 39 none).run Try.prog w = .ok (.map (some w.heap.size)) (w.alloc (.map #[] 0)) := fun w => by kernel_rfl
  clear hk hl hK hL hN hM1 hM2 hZ hB
  go_enter Try.func12, Try.ntmps12
  go_upto_region 2 with (fail)
  generalize (((w.alloc (.cells #[.map none, .map none] 45)).alloc (.map #[] 0)).alloc (.map #[] 0)).alloc (.cells #[.map (some (w.heap.size + 1)), .map (some (w.heap.size + 1 + 1))] 45) = W1 at *
  obtain ⟨nb, hnb⟩ : ∃ nb, nb = w.heap.size + 1 + 1 + 1 := ⟨_, rfl⟩
  obtain ⟨sb, hsb⟩ : ∃ sb, sb = w.heap.size + 1 + 1 := ⟨_, rfl⟩
  obtain ⟨mb, hmb⟩ : ∃ mb, mb = w.heap.size + 1 := ⟨_, rfl⟩
  rw [← hnb, ← hsb, ← hmb] at HN
  rw [← hmb] at HM1
  rw [← hsb] at HM2
  rw [← hnb]
  have HWM := Lib.hid (show w.heap.size < mb ∧ w.heap.size < sb ∧ w.heap.size < nb ∧ mb ≠ sb ∧ nb ≠ mb ∧ nb ≠ sb by omega)
  clear hnb hsb hmb hmk
  go_wp2
  go_loopw [17] (fun i wr => ∃ k m : Nat, k ≤ K.length ∧ m ≤ k ∧ i = .int .i64 k ∧ MapI wr mb m (stO (K.take k)) ∧ Only (fun x => x = mb) W1 wr) (fun i _ => K.length - (intOf i).toNat)
  case atStart => exact ⟨0, 0, Nat.zero_le _, Nat.le_refl _, rfl, HM1.out, Only.refl _ _⟩
  case round =>
    obtain ⟨k, m, hk, hmk, rfl, hmi, ho⟩ := hrel
    have hBr : Below w.heap.size w wr := HB.out.trans ((ho.mono (F' := fun k => w.heap.size ≤ k) fun k e => by have := HWM.out; omega).below (fun k hk => hk) HB.out.size)
    have hNr := HN.out.only ho (fun e => HWM.out.2.2.2.2.1 e)
    by_cases hlt : k < K.length
    · obtain ⟨g, o, cc, id, prio, sk, ge, fx, fy, tx, ty, a, c, l, st, seq, si, lo, ba, bc, bu, he, e, hlc, p0, p1, p2, p3, p4, p5, p6, p7, p8, p9, p10, p11, p12, p13⟩ := tks_spot (RowsAt.kept HK.out hBr) k hlt
      cases e
      have hx64 := HK64.out _ (List.getElem_mem hlt)
      have hst := stO_take K k hlt
      rw [he] at hx64 hst
      dsimp only at hx64 hst
      have hal := (Below.refl wr.heap.size wr).alloc (Nat.le_refl _) (.cells #[.int .i64 id, .int .i64 prio, .int .u64 sk, .int .u64 ge, .int .i64 fx, .int .i64 fy, .int .i64 tx, .int .i64 ty, .slice a l.length c, .int .i64 st, .int .i64 seq, .int .i64 si, .int .i64 lo, .slice ba bu.length bc] 41)
      have hX := Blk.new wr [.int .i64 id, .int .i64 prio, .int .u64 sk, .int .u64 ge, .int .i64 fx, .int .i64 fy, .int .i64 tx, .int .i64 ty, .slice a l.length c, .int .i64 st, .int .i64 seq, .int .i64 si, .int .i64 lo, .slice ba bu.length bc] 41
      have x0 := hX.cell 0 rfl
      have x9 := hX.cell 9 rfl
      have hN5 := hNr.kept hal
      have g0 := hN5.cell 0 rfl
      have hm5 := hmi.kept hal
      have hlk := hm5.look hx64.1
      have k1 : (k : Int) < (K.length : Int) := by omega
      have k0 : (0 : Int) ≤ (k : Int) := by omega
      have HMI := Lib.hid hmi
      have HM5 := Lib.hid hm5
      have HO := Lib.hid ho
      have HAL := Lib.hid hal
      have HX64 := Lib.hid hx64
      obtain ⟨so, hso⟩ : ∃ so, stO (K.take k) id = so := ⟨_, rfl⟩
      rw [hso] at hlk hst
      have HSO := Lib.hid hso
      cases so with
      | some s =>
        simp only [Option.getD_some, Option.isSome_some, if_true] at hlk hst
        have HST := Lib.hid hst
        clear hmi hm5 ho hal hX hN5 hNr hBr hst hx64 he hso
        go_wp2
        go_roundw
        case rel => exact ⟨k + 1, m, by omega, by omega, by go_num, by rw [HST.out]; exact HM5.out, HO.out.trans (Only.of_below HAL.out)⟩
        case measure => simp [intOf]; omega
      | none =>
        simp only [Option.getD_none, Option.isSome_none, if_false, Bool.false_eq_true] at hlk hst
        obtain ⟨w7, hrun, h7, g7⟩ := hm5.put (by omega) hx64.1 st hx64.2
        rw [hso, Option.isSome_none, if_neg (by decide), ← hst] at h7
        have H7 := Lib.hid h7
        have G7 := Lib.hid g7
        clear hmi hm5 ho hal hX hN5 hNr hBr hst hx64 he hso h7 g7
        go_wp2
        go_roundw
        case rel => exact ⟨k + 1, m + 1, by omega, by omega, by go_num, H7.out, (HO.out.trans (Only.of_below HAL.out)).grownN G7.out fun b e => by injection e with e; exact .inl e.symm⟩
        case measure => simp [intOf]; omega
    · have hke : k = K.length := by omega
      subst hke
      rw [List.take_length] at hmi
      have hsb2 := HM2.out.same (ho.block sb HM2.out.lt fun e => HWM.out.2.2.2.1 e.symm)
      have hZr := HZ.out.only ho (fun e => by have := HWM.out; omega)
      have HMI := Lib.hid hmi
      have HSB := Lib.hid hsb2
      have HZ2 := Lib.hid hZr
      have HN2 := Lib.hid hNr
      have HB2 := Lib.hid hBr
      generalize wr = W2 at *
      clear hmi ho hsb2 hZr hNr hBr HN HZ HB HM1 HM2 HK HK64 hlt hk
      go_wp2
      go_loopw [42] (fun i wr => ∃ k m : Nat, k ≤ L.length ∧ m ≤ k ∧ i = .int .i64 k ∧ MapI wr sb m (cntG (idsO (L.take k))) ∧ Only (fun x => x = sb) W2 wr) (fun i _ => L.length - (intOf i).toNat)
      case atStart => exact ⟨0, 0, Nat.zero_le _, Nat.le_refl _, rfl, HSB.out, Only.refl _ _⟩
      case round =>
        obtain ⟨k, m2, hk, hmk2, rfl, hmi, ho⟩ := hrel
        have hBr : Below w.heap.size w wr := HB2.out.trans ((ho.mono (F' := fun k => w.heap.size ≤ k) fun k e => by have := HWM.out; omega).below (fun k hk => hk) HB2.out.size)
        have hNr := HN2.out.only ho (fun e => HWM.out.2.2.2.2.2 e)
        by_cases hlt : k < L.length
        · obtain ⟨g, o, cc, id, prio, sk, ge, fx, fy, tx, ty, a, c, l, he, e, hlc, p0, p1, p2, p3, p4, p5, p6, p7, p8, hi8⟩ := (HL.out.kept hBr).spot k hlt
          cases e
          have hx64 := HL64.out _ (List.getElem_mem hlt)
          have hst := idsO_take L k hlt
          rw [he] at hx64 hst
          dsimp only at hx64 hst
          have hal := (Below.refl wr.heap.size wr).alloc (Nat.le_refl _) (.cells #[.int .i64 id, .int .i64 prio, .int .u64 sk, .int .u64 ge, .int .i64 fx, .int .i64 fy, .int .i64 tx, .int .i64 ty, .slice a l.length c] 37)
          have hX := Blk.new wr [.int .i64 id, .int .i64 prio, .int .u64 sk, .int .u64 ge, .int .i64 fx, .int .i64 fy, .int .i64 tx, .int .i64 ty, .slice a l.length c] 37
          have x0 := hX.cell 0 rfl
          have hN5 := hNr.kept hal
          have g1 := hN5.cell 1 rfl
          have hm5 := hmi.kept hal
          have hlk := hm5.look1 hx64
          rw [cntG_getD] at hlk
          have hc1 : (idsO (L.take k)).count id ≤ 1000 := by
            have := List.count_le_length (a := id) (l := idsO (L.take k))
            rw [idsO_len, List.length_take] at this
            omega
          have hup := cntG_snoc (idsO (L.take k)) id
          rw [← hst] at hup
          generalize (idsO (L.take k)).count id = q at *
          have q1 : (q : Int) ≤ 1000 := by omega
          have q0 : (0 : Int) ≤ (q : Int) := by omega
          have k1 : (k : Int) < (L.length : Int) := by omega
          have k0 : (0 : Int) ≤ (k : Int) := by omega
          obtain ⟨w7, hrun, h7, g7⟩ := hm5.put (by omega) hx64 ((q : Int) + 1) (by unfold I64; omega)
          rw [← hup] at h7
          have hm7 : (if (cntG (idsO (L.take k)) id).isSome then m2 else m2 + 1) ≤ k + 1 := by split <;> omega
          generalize (if (cntG (idsO (L.take k)) id).isSome then m2 else m2 + 1) = m3 at *
          have H7 := Lib.hid h7
          have G7 := Lib.hid g7
          have HO := Lib.hid ho
          have HAL := Lib.hid hal
          clear hmi hm5 ho hal hX hN5 hNr hBr hst hx64 he h7 g7 hup hi8 hc1
          go_wp2
          go_roundw
          case rel => exact ⟨k + 1, m3, by omega, by omega, by go_num, H7.out, (HO.out.trans (Only.of_below HAL.out)).grownN G7.out fun b e => by injection e with e; exact .inl e.symm⟩
          case measure => simp [intOf]; omega
        · have hke : k = L.length := by omega
          subst hke
          rw [List.take_length] at hmi
          have hZq := HZ2.out.only ho fun e => by have := HWM.out; omega
          have hkq := HMI.out.same (ho.block mb HMI.out.lt fun e => HWM.out.2.2.2.1 e)
          have z0 := hZq.cell 0 rfl
          have z1 := hZq.cell 1 rfl
          have y0 := hZq.free 0 rfl
          have y1 := hZq.free 1 rfl
          have g0 := hNr.cell 0 rfl
          have g1 := hNr.cell 1 rfl
          have HZq := Lib.hid hZq
          have HKQ := Lib.hid hkq
          have HSQ := Lib.hid hmi
          have HBq := Lib.hid hBr
          clear hk hlt hmi ho hBr hZq hkq hNr
          go_wp2
          have hF := (HZq.out.set 0 (.map (some mb))).set 1 (.map (some sb))
          simp only [List.set_cons_zero, List.set_cons_succ] at hF
          have f0 := hF.cell 0 rfl
          have f1 := hF.cell 1 rfl
          have he : ∀ b, b ≠ w.heap.size → ((wr.setCell ⟨w.heap.size, 0, none⟩ (.map (some mb))).setCell ⟨w.heap.size, 1, none⟩ (.map (some sb))).heap[b]? = wr.heap[b]? := fun b hb => by
            rw [Below.heap_setCell _ _ _ _ (by exact hb), Below.heap_setCell _ _ _ _ (by exact hb)]
          have hbz := (HBq.out.setCell (p := ⟨w.heap.size, 0, none⟩) (Nat.le_refl _) (.map (some mb))).setCell (p := ⟨w.heap.size, 1, none⟩) (Nat.le_refl _) (.map (some sb))
          exact bodyPost_ret (v := nmv mb sb) (by simp [results, Try.results12, go_sem, f0, f1]) rfl ⟨mb, sb, rfl, ⟨⟨_, HKQ.out.same (he mb (by have := HWM.out; omega))⟩, ⟨_, HSQ.out.same (he sb (by have := HWM.out; omega))⟩⟩, hbz⟩
end Go.Proofs.Ytlacbjgjiggikaa
