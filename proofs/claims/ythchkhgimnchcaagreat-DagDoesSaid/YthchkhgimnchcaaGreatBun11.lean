/- Texts of this proof, joined: GrB; DgR. -/
import Derived.Test.YthchkhgimnchcaaGreatBun10
import Derived.Deep.RegionHeld3
import Derived.Deep.AppendLies
import Derived.Deep.DeepCutAuto
/- Stage 16's program: graphOf. -/
namespace Go.Proofs.YthchkhgimnchcaaGreat
open Go.RowKit

theorem Blk.only {w w' : World} {F : Nat → Prop} {b : Nat} {v : Value} {vs : List Value} (h : Blk w b (v :: vs)) (ho : Only F w w') (hf : ¬ F b) : Blk w' b (v :: vs) := h.same (ho.block b h.lt hf)
theorem OwnI.same {w w' : World} {B : Nat} {v : Value} {l : List Int} (h : OwnI w B v l) (he : ∀ k, v.ownBlock = some k → w'.heap[k]? = w.heap[k]?) : OwnI w' B v l := by
  refine ⟨h.1, ?_⟩
  rcases h.2 with h0 | ⟨g, cap, cur, rfl, hg, hh, rest⟩
  · exact .inl h0
  · exact .inr ⟨g, cap, cur, rfl, hg, (he g rfl).trans hh, rest⟩
theorem OwnI.cells {w : World} {B : Nat} {v : Value} {l : List Int} (h : OwnI w B v l) : ∀ k, v.ownBlock = some k → B ≤ k ∧ k < w.heap.size ∧ ∃ cur, w.heap[k]? = some (.cells cur 3) := by
  intro k hk
  rcases h.2 with ⟨rfl, _⟩ | ⟨g, cap, cur, rfl, hg, hh, _⟩
  · simp [Value.ownBlock] at hk
  · simp [Value.ownBlock] at hk
    subst hk
    exact ⟨hg, lt_of_block hh, cur, hh⟩
/-- the lists of heads, each in a block of its own -/
structure RowsI (B : Nat) (w : World) (gh : Int → Option Hd) (H : Int → List Int) : Prop where
  own : ∀ n, I64 n → OwnI w B (hat gh n) (H n)
  dis : ∀ n m, I64 n → I64 m → n ≠ m → ∀ g, (hat gh n).ownBlock = some g → (hat gh m).ownBlock ≠ some g
section
variable {B : Nat} {w w' : World} {gh : Int → Option Hd} {H H' : Int → List Int}
theorem RowsI.same (h : RowsI B w gh H) (he : ∀ n, I64 n → ∀ k, (hat gh n).ownBlock = some k → w'.heap[k]? = w.heap[k]?) : RowsI B w' gh H := ⟨fun n hn => (h.own n hn).same (he n hn), h.dis⟩
theorem RowsI.kept (h : RowsI B w gh H) (hb : Below w.heap.size w w') : RowsI B w' gh H := h.same fun n hn k hk => hb.block k ((h.own n hn).cells k hk).2.1
theorem RowsI.none (w : World) (h : ∀ n, H n = []) : RowsI B w (fun _ => Option.none) H := ⟨fun n _ => by rw [h]; exact OwnR.nil _ _ _ _ _, fun n m _ _ _ g hg => by simp [hat, hdv, hd0, Value.ownBlock] at hg⟩
theorem RowsI.put (h : RowsI B w gh H) {s d : Int} (hs : I64 s) {y : Hd} (hg : w.grownBy w' (hat gh s).ownBlock) (ho : OwnI w' B (hdv y) (H s ++ [d])) (hy : ∀ k, (hdv y).ownBlock = some k → (hat gh s).ownBlock = some k ∨ w.heap.size ≤ k)
    (hH : ∀ n, H' n = if n = s then H n ++ [d] else H n) : RowsI B w' (updG gh s (some y)) H' := by
  have e1 : hat (updG gh s (some y)) s = hdv y := by unfold hat; rw [updG_same]; rfl
  have e2 : ∀ n, n ≠ s → hat (updG gh s (some y)) n = hat gh n := fun n hn => by unfold hat; rw [updG_other _ _ hn]
  refine ⟨fun n hn => ?_, fun n m hn hm hne g hg1 hg2 => ?_⟩
  · by_cases e : n = s
    · subst e
      rw [e1, hH, if_pos rfl]
      exact ho
    · rw [e2 n e, hH, if_neg e]
      exact (h.own n hn).same fun k hk => hg.block k ((h.own n hn).cells k hk).2.1 fun e3 => h.dis s n hs hn (Ne.symm e) k e3.symm hk
  · by_cases en : n = s
    · subst en
      rw [e1] at hg1
      rw [e2 m (Ne.symm hne)] at hg2
      rcases hy g hg1 with h1 | h1
      · exact h.dis n m hn hm hne g h1 hg2
      · have := ((h.own m hm).cells g hg2).2.1; omega
    · rw [e2 n en] at hg1
      by_cases em : m = s
      · subst em
        rw [e1] at hg2
        rcases hy g hg2 with h1 | h1
        · exact h.dis n m hn hm hne g hg1 h1
        · have := ((h.own n hn).cells g hg1).2.1; omega
      · rw [e2 m em] at hg2
        exact h.dis n m hn hm hne g hg1 hg2
theorem RowsI.grown {b : Nat} (h : RowsI B w gh H) (hg : w.grownBy w' (some b)) (u : (∃ m g, MapH w b m g) ∨ ∃ m g, MapI w b m g) : RowsI B w' gh H := h.same fun n hn k hk => by
  obtain ⟨_, h1, cur, h2⟩ := (h.own n hn).cells k hk
  refine hg.block k h1 fun e => ?_
  injection e with e
  rcases u with ⟨m, g, u⟩ | ⟨m, g, u⟩
  · exact MapG.ne u h2 e.symm
  · exact MapG.ne u h2 e.symm
end
theorem Only.grownN {F : Nat → Prop} {w0 w w' : World} {row : Option Nat} (h : Only F w0 w) (hg : w.grownBy w' row) (hr : ∀ k, row = some k → F k ∨ w0.heap.size ≤ k) : Only F w0 w' :=
  ⟨hg.os.trans h.os, hg.tape.trans h.tape, hg.output.trans h.output, Nat.le_trans h.size hg.size, fun k hk hf => (hg.block k (Nat.lt_of_lt_of_le hk h.size) fun e => (hr k e.symm).elim hf fun h2 => by omega).trans (h.block k hk hf)⟩
theorem set_sorted (l : List Int) : Lib.compact (l.mergeSort fun x y => decide (x ≤ y)) = setL l := by
  refine risL.eq (compact_rise (sorted_ms l)) (setL_ris l) fun x => ?_
  rw [compact_mem, List.mem_mergeSort, setL_mem]

theorem gOf_start (w1 : World) (a : Option Addr) (n c : Nat) :
    Blk (((w1.alloc (Obj.map #[] 0)).alloc (Obj.map #[] 0)).alloc (Obj.cells #[.slice a n c, .map (some w1.heap.size), .map (some (w1.heap.size + 1))] 133)) (w1.heap.size + 1 + 1) (grc a n c w1.heap.size (w1.heap.size + 1)) ∧
    MapH (((w1.alloc (Obj.map #[] 0)).alloc (Obj.map #[] 0)).alloc (Obj.cells #[.slice a n c, .map (some w1.heap.size), .map (some (w1.heap.size + 1))] 133)) w1.heap.size 0 (fun _ => none) ∧
    MapI (((w1.alloc (Obj.map #[] 0)).alloc (Obj.map #[] 0)).alloc (Obj.cells #[.slice a n c, .map (some w1.heap.size), .map (some (w1.heap.size + 1))] 133)) (w1.heap.size + 1) 0 (fun _ => none) ∧
    Below w1.heap.size w1 (((w1.alloc (Obj.map #[] 0)).alloc (Obj.map #[] 0)).alloc (Obj.cells #[.slice a n c, .map (some w1.heap.size), .map (some (w1.heap.size + 1))] 133)) := by
  have h1 := MapH.new w1
  have h2 := MapI.new (w1.alloc (Obj.map #[] 0))
  have h3 := Blk.new ((w1.alloc (Obj.map #[] 0)).alloc (Obj.map #[] 0)) [.slice a n c, .map (some w1.heap.size), .map (some (w1.heap.size + 1))] 133
  rw [show (w1.alloc (Obj.map #[] 0)).heap.size = w1.heap.size + 1 by simp] at h2
  rw [show ((w1.alloc (Obj.map #[] 0)).alloc (Obj.map #[] 0)).heap.size = w1.heap.size + 1 + 1 by simp] at h3
  have b1 := (Below.refl (w1.alloc (Obj.map #[] 0)).heap.size (w1.alloc (Obj.map #[] 0))).alloc (Nat.le_refl _) (Obj.map #[] 0)
  have b2 := (Below.refl ((w1.alloc (Obj.map #[] 0)).alloc (Obj.map #[] 0)).heap.size ((w1.alloc (Obj.map #[] 0)).alloc (Obj.map #[] 0))).alloc (Nat.le_refl _) (Obj.cells #[.slice a n c, .map (some w1.heap.size), .map (some (w1.heap.size + 1))] 133)
  exact ⟨h3, (h1.kept b1).kept b2, h2.kept b2, (((Below.refl _ _).alloc (Nat.le_refl _) _).alloc (by simp) _).alloc (by simp; omega) _⟩

set_option maxHeartbeats 4000000 in
set_option maxRecDepth 100000 in
theorem gOf_any (va vb : Value) (l : List Int) (arcs : List Arc16) (w : World) (ha : IntsAt w va l) (hb : ArcsAt w vb arcs) (hl : l.length ≤ 640) (hal : arcs.length ≤ 640) (hB : B64 l) (hBa : B64a arcs) :
    Calls Tryz.prog 98 #[va, vb] w fun e w' => ∃ a c hb ab hm gh, e = .returned (grv a (setL l).length c hb ab) ∧ w.heap.size ≤ ab ∧
      GrAt (fun k => w.heap.size ≤ k ∧ k < w'.heap.size ∧ k ≠ ab) w' (.slice a (setL l).length c) hb hm gh (setL l) (hdsL (setL l) arcs) ∧ MapI w' ab (setL l).length (gA (setL l) (awL (setL l) arcs [])) ∧ Below w.heap.size w w' := by
  have hset := set_sorted l
  have hN : (setL l).length ≤ 640 := Nat.le_trans (setL_le l) hl
  have hri := setL_ris l
  have hBN : ∀ n ∈ setL l, I64 n := fun n hn => hB n ((setL_mem l n).1 hn)
  generalize setL l = N at *
  have HRI := Lib.hid hri
  have HBN := Lib.hid hBN
  have HSET := Lib.hid hset
  have HBA := Lib.hid hBa
  obtain ⟨av, cv, ev⟩ := RowsAt.form hb
  subst ev
  clear hri hBN hset hB hBa
  have hZ := Blk.new w [.slice none 0 0, .map none, .map none] 133
  have hal0 := (Below.refl w.heap.size w).alloc (Nat.le_refl _) (.cells #[.slice none 0 0, .map none, .map none] 133)
  have CL := Lib.hid (cloneI_any va l _ (ha.below hal0) (by omega))
  have hmk1 : ∀ w : World, (Instr.makeMap 131 none).run Tryz.prog w = .ok (.map (some w.heap.size)) (w.alloc (.map #[] 0)) := fun w => by kernel_rfl
  have hmk2 : ∀ w : World, (Instr.makeMap 91 none).run Tryz.prog w = .ok (.map (some w.heap.size)) (w.alloc (.map #[] 0)) := fun w => by kernel_rfl
  have HZ := Lib.hid hZ
  have HAL := Lib.hid hal0
  have HVB := Lib.hid hb
  clear hZ hal0 ha hb
  go_enter Tryz.func98, Tryz.ntmps98
  go_upto_region 2 with (go_at_call 51; (with_reducible refine CL.out.mono ?_); rintro e w1 ⟨v1, rfl, ho, hb⟩; have HO1 := Lib.hid ho; have HB1 := Lib.hid hb; obtain ⟨a1, c1, e1⟩ := (OwnI.ints ho).form; subst e1; clear ho hb)
  obtain ⟨hG, hH, hI, hb2⟩ := gOf_start w1 a1 l.length c1
  generalize ((w1.alloc (Obj.map #[] 0)).alloc (Obj.map #[] 0)).alloc (Obj.cells #[.slice a1 l.length c1, .map (some w1.heap.size), .map (some (w1.heap.size + 1))] 133) = W2 at *
  have hsz1 : (w.alloc (Obj.cells #[.slice none 0 0, .map none, .map none] 133)).heap.size = w.heap.size + 1 := by simp
  have hb02 : Below (w.heap.size + 1) (w.alloc (Obj.cells #[.slice none 0 0, .map none, .map none] 133)) W2 := by
    have := HB1.out.trans (hb2.mono HB1.out.size)
    rwa [hsz1] at this
  have HZ2 := Lib.hid (HZ.out.kept (by rw [hsz1]; exact hb02))
  have HB2 := Lib.hid (HAL.out.trans (hb02.mono (by omega)))
  have hs1 : w.heap.size + 1 ≤ w1.heap.size := by have := HB1.out.size; rwa [hsz1] at this
  have hvk : ∀ k, (Value.slice a1 l.length c1).ownBlock = some k → k < w1.heap.size ∧ w.heap.size + 1 ≤ k := fun k hk => by
    have h3 := OwnI.cells HO1.out k hk
    rw [hsz1] at h3
    exact ⟨h3.2.1, h3.1⟩
  have hne : ∀ k, w1.heap.size ≤ k → ¬ (Value.slice a1 l.length c1).ownBlock = some k := fun k h1 h2 => by have := (hvk k h2).1; omega
  have hzk : ¬ (Value.slice a1 l.length c1).ownBlock = some w.heap.size := fun h2 => by have := (hvk _ h2).2; omega
  have SO := Lib.hid (sortI_any W2 _ _ l (OwnR.kept HO1.out hb2) (by omega))
  obtain ⟨gx, hgx⟩ : ∃ gx, gx = w1.heap.size + 1 + 1 := ⟨_, rfl⟩
  obtain ⟨ab, hab⟩ : ∃ ab, ab = w1.heap.size + 1 := ⟨_, rfl⟩
  obtain ⟨mb, hmb⟩ : ∃ mb, mb = w1.heap.size := ⟨_, rfl⟩
  rw [← hgx, ← hab, ← hmb] at hG
  rw [← hmb] at hH
  rw [← hab] at hI
  rw [← hgx, ← hab, ← hmb]
  have hnx : ¬ (Value.slice a1 l.length c1).ownBlock = some gx := hne gx (by omega)
  have hna : ¬ (Value.slice a1 l.length c1).ownBlock = some ab := hne ab (by omega)
  have hnm : ¬ (Value.slice a1 l.length c1).ownBlock = some mb := hne mb (by omega)
  have HWM := Lib.hid (show w.heap.size < mb ∧ w.heap.size < ab ∧ w.heap.size < gx ∧ ab ≠ mb ∧ gx ≠ mb ∧ gx ≠ ab by omega)
  have g0 := hG.cell 0 rfl
  have HNN := Lib.hid (And.intro hnx (And.intro hna (And.intro hnm hzk)))
  have HG := Lib.hid hG
  have HH := Lib.hid hH
  have HI := Lib.hid hI
  have HVK := Lib.hid hvk
  clear hG hH hI hb2 hb02 hne hgx hab hmb hnx hna hnm hzk hvk hs1 hsz1 HO1 HB1 HZ HAL hmk1 hmk2
  go_upto_region 4 with (first
    | (go_at_call 42; (with_reducible refine SO.out.mono ?_); rintro e w3 ⟨rfl, h3, o3, k3⟩; have q0 := (HG.out.only o3 HNN.out.1).cell 0 rfl; have CO := Lib.hid k3; clear h3 o3 k3 g0)
    | (go_at_call 105; (with_reducible refine CO.out.mono ?_); rintro e w4 ⟨u4, rfl, h4, e4, o4⟩; rw [HSET.out] at h4; have HX4 := Lib.hid (HG.out.only o4 HNN.out.1); have r0 := HX4.out.cell 0 rfl; have f0 := HX4.out.free 0 rfl; have HU := Lib.hid h4; have HO4 := Lib.hid o4; have HE4 := Lib.hid e4; obtain ⟨a4, c4, e5⟩ := h4.form; subst e5; clear h4 e4 o4 q0))
  have hW4 : Only (fun k => w.heap.size ≤ k) W2 (w4.setCell ⟨gx, 0, none⟩ (.slice a4 N.length c4)) := (HO4.out.mono fun k hk => by have := (HVK.out k hk).2; omega).set _ _ (by have := HWM.out; simp; omega)
  have hG5 : Blk (w4.setCell ⟨gx, 0, none⟩ (.slice a4 N.length c4)) gx (grc a4 N.length c4 mb ab) := by
    have := HX4.out.set 0 (.slice a4 N.length c4)
    simpa using this
  have hO5 : Only (fun k => (Value.slice a1 l.length c1).ownBlock = some k ∨ k = gx) W2 (w4.setCell ⟨gx, 0, none⟩ (.slice a4 N.length c4)) := (HO4.out.mono fun k hk => .inl hk).set _ _ (.inr rfl)
  have hH5 := HH.out.same (hO5.block mb HH.out.lt fun h => h.elim HNN.out.2.2.1 fun e => HWM.out.2.2.2.2.1 e.symm)
  have hI5 := HI.out.same (hO5.block ab HI.out.lt fun h => h.elim HNN.out.2.1 fun e => HWM.out.2.2.2.2.2 e.symm)
  have hZ5 := HZ2.out.only hO5 fun h => h.elim HNN.out.2.2.2 fun e => by have := HWM.out; omega
  have hB5 : Below w.heap.size w (w4.setCell ⟨gx, 0, none⟩ (.slice a4 N.length c4)) := HB2.out.trans ((hW4.below (fun k hk => hk) HB2.out.size))
  have hU5 : IntsAt (w4.setCell ⟨gx, 0, none⟩ (.slice a4 N.length c4)) (.slice a4 N.length c4) N := (RowsAt.awayV HU.out.rows _ _ fun _ g hg e => HNN.out.1 (by rw [← HE4.out, hg]; exact congrArg some e)).ints
  have huk : ∀ k, (Value.slice a4 N.length c4).ownBlock = some k → w.heap.size < k ∧ k ≠ mb ∧ k ≠ ab ∧ k ≠ gx := fun k hk => by
    rw [HE4.out] at hk
    refine ⟨by have := (HVK.out k hk).2; omega, fun e => HNN.out.2.2.1 (e ▸ hk), fun e => HNN.out.2.1 (e ▸ hk), fun e => HNN.out.1 (e ▸ hk)⟩
  generalize w4.setCell ⟨gx, 0, none⟩ (.slice a4 N.length c4) = w5 at *
  have HG5 := Lib.hid hG5
  have HH5 := Lib.hid hH5
  have HI5 := Lib.hid hI5
  have HZ5 := Lib.hid hZ5
  have HB5 := Lib.hid hB5
  have HU5 := Lib.hid hU5
  have HUK := Lib.hid huk
  have g0 := hG5.cell 0 rfl
  clear hW4 hO5 hG5 hH5 hI5 hZ5 hB5 hU5 huk HX4 r0 f0 HO4 HE4 HU HB2 HZ2 SO CO HNN HG HH HI HVK hl
  go_wp2
  clear g0
  go_loopw [25] (fun i wr => ∃ k : Nat, k ≤ N.length ∧ i = .int .i64 k ∧ MapI wr ab k (gA (N.take k) fun _ => 0) ∧ Only (fun x => x = ab) w5 wr) (fun i _ => N.length - (Go.RowKit.intOf i).toNat)
  case atStart => exact ⟨0, Nat.zero_le _, rfl, by have := HI5.out; have e : (gA (N.take 0) fun _ => 0) = fun _ => none := by funext n; simp [gA]
                                                   rw [e]; exact this, Only.refl _ _⟩
  case round =>
    obtain ⟨k, hk, rfl, hmi, ho⟩ := hrel
    have HMI := Lib.hid hmi
    have HO := Lib.hid ho
    have HGr := Lib.hid (HG5.out.only ho fun e => HWM.out.2.2.2.2.2 e)
    have HUr := Lib.hid (RowsAt.only HU5.out.rows ho fun _ g hg e => (HUK.out g hg).2.2.1 e).ints
    by_cases hlt : k < N.length
    · obtain ⟨g, o, cc, e, hlc, _, p0⟩ := HUr.out.spot k hlt
      cases e
      have g2 := HGr.out.cell 2 rfl
      have j1 : (k : Int) < (N.length : Int) := by omega
      have j0 : (0 : Int) ≤ (k : Int) := by omega
      have hnk : (gA (N.take k) (fun _ => 0) N[k]).isSome = false := by
        rw [gA_some, inL_not]
        intro hm
        obtain ⟨i, hi, e⟩ := List.getElem_of_mem hm
        rw [List.length_take] at hi
        rw [List.getElem_take] at e
        have := List.pairwise_iff_getElem.1 HRI.out i k (by omega) hlt (by omega)
        omega
      have hup : updG (gA (N.take k) fun _ => 0) N[k] (some 0) = gA (N.take (k + 1)) fun _ => 0 := by
        funext n
        unfold updG gA
        have hm : n ∈ N.take (k + 1) ↔ n ∈ N.take k ∨ n = N[k] := by rw [List.take_succ_eq_append_getElem hlt, List.mem_append, List.mem_singleton]
        by_cases e : n = N[k]
        · rw [if_pos e, if_pos (hm.2 (.inr e))]; rfl
        · rw [if_neg e]
          by_cases e2 : n ∈ N.take k
          · rw [if_pos e2, if_pos (hm.2 (.inl e2))]
          · rw [if_neg e2, if_neg fun h => (hm.1 h).elim e2 e]
      have HX := Lib.hid (HBN.out _ (List.getElem_mem hlt))
      have HNK := Lib.hid hnk
      have HUP := Lib.hid hup
      generalize N[k] = x at *
      clear hnk hup hmi ho
      go_wp2_with (at_mapUpdate; refine wpList_putI rfl rfl _ _ _ rfl rfl HMI.out (by omega) x HX.out rfl 0 (by unfold I64; omega) rfl ?_; intro w7 h7 g7; rw [HNK.out, HUP.out] at h7; have H7 := Lib.hid h7; have O7 := Lib.hid (HO.out.trans (Only.grown g7 fun k e => by injection e with e; exact e.symm)); clear h7 g7)
      go_roundw
      case rel => exact ⟨k + 1, by omega, by go_num, H7.out, O7.out⟩
      case measure => simp [Go.RowKit.intOf]; omega
    · have hke : k = N.length := by omega
      subst hke
      rw [List.take_length] at HMI
      have hgz : (gA N fun _ => 0) = gA N (awL N (arcs.take 0) []) := by funext n; simp [gA, awL, vaL, cnA]
      rw [hgz] at HMI
      have hH6 := HH5.out.same (ho.block mb HH5.out.lt fun e => HWM.out.2.2.2.1 e.symm)
      have hZ6 := HZ5.out.only ho fun e => by have := HWM.out; omega
      have hB6 : Below w.heap.size w wr := HB5.out.trans ((ho.mono (F' := fun k => w.heap.size ≤ k) fun k e => by have := HWM.out; omega).below (fun k hk => hk) HB5.out.size)
      generalize wr = w6 at *
      have HH6 := Lib.hid hH6
      have HZ6 := Lib.hid hZ6
      have HB6 := Lib.hid hB6
      have hmx : mb < w6.heap.size ∧ ab < w6.heap.size ∧ gx < w6.heap.size := ⟨hH6.lt, hmi.lt, HGr.out.lt⟩
      have HMX := Lib.hid hmx
      clear hmi ho hgz hH6 hZ6 hB6 hlt hk hmx HG5 HH5 HI5 HZ5 HB5 HU5
      go_wp2
      go_loopw [35] (fun i wr => ∃ (k hm : Nat) (gh : Int → Option Hd), k ≤ arcs.length ∧ hm ≤ k ∧ i = .int .i64 k ∧ MapH wr mb hm gh ∧ RowsI w6.heap.size wr gh (hdsL N (arcs.take k)) ∧ MapI wr ab N.length (gA N (awL N (arcs.take k) [])) ∧ Only (fun x => x = mb ∨ x = ab) w6 wr) (fun i _ => arcs.length - (Go.RowKit.intOf i).toNat)
      case atStart => exact ⟨0, 0, fun _ => none, Nat.zero_le _, Nat.le_refl _, rfl, HH6.out, RowsI.none _ fun n => by simp [hdsL, vaL], HMI.out, Only.refl _ _⟩
      case round =>
        obtain ⟨k, hm, gh, hk, hmk, rfl, hmh, hrw, hmi, ho⟩ := hrel
        have HMH := Lib.hid hmh
        have HRW := Lib.hid hrw
        have HMJ := Lib.hid hmi
        have HO := Lib.hid ho
        have HGq := Lib.hid (HGr.out.only ho fun e => e.elim HWM.out.2.2.2.2.1 HWM.out.2.2.2.2.2)
        have HUq := Lib.hid (RowsAt.only HUr.out.rows ho fun _ g hg e => e.elim (HUK.out g hg).2.1 (HUK.out g hg).2.2.1).ints
        have hBq : Below w.heap.size w wr := HB6.out.trans ((ho.mono (F' := fun k => w.heap.size ≤ k) fun k e => by have := HWM.out; omega).below (fun k hk => hk) HB6.out.size)
        have HBq := Lib.hid hBq
        by_cases hlt : k < arcs.length
        · obtain ⟨g, o, cc, e, hlc, _, p0, p1⟩ := ArcsAt.at (RowsAt.kept HVB.out hBq) k hlt
          cases e
          have hxa := HBA.out _ (List.getElem_mem hlt)
          have hy := fun h => hdL_yes (nodes := N) hlt h
          have hn := fun h => hdL_not (nodes := N) hlt h
          have hya := fun h => awL_yes (nodes := N) hlt h
          have hna := fun h => awL_not (nodes := N) hlt h
          have hvb : vaB N arcs[k] = (inL N arcs[k].src && inL N arcs[k].dst) := rfl
          have hrl := fun n => hdL_len N (arcs.take k) n
          generalize arcs[k] = x at *
          obtain ⟨s, d⟩ := x
          simp only at hxa hy hn hya hna hvb p0 p1
          have hs64 : I64 s := hxa.1
          have hd64 : I64 d := hxa.2
          have hal := (Below.refl wr.heap.size wr).alloc (Nat.le_refl _) (.cells #[.int .i64 s, .int .i64 d] 84)
          have hAX := Blk.new wr [.int .i64 s, .int .i64 d] 84
          have H1 := Lib.hid (fun (w' : World) (hb : Below wr.heap.size wr w') => by
            have := gHas_any a4 N.length c4 mb ab N.length _ s w' (HMJ.out.kept hb) hs64
            rwa [gA_some] at this)
          have H2 := Lib.hid (fun (w' : World) (hb : Below wr.heap.size wr w') => by
            have := gHas_any a4 N.length c4 mb ab N.length _ d w' (HMJ.out.kept hb) hd64
            rwa [gA_some] at this)
          have HAL := Lib.hid hal
          have HAX := Lib.hid hAX
          have g5 := HGq.out.kept hal
          have g0 := g5.cell 0 rfl
          have g1 := g5.cell 1 rfl
          have g2 := g5.cell 2 rfl
          have x0 := hAX.cell 0 rfl
          have j0 : (0 : Int) ≤ (k : Int) := by omega
          have j1 : (k : Int) < (arcs.length : Int) := by omega
          have HS64 := Lib.hid hs64
          have HD64 := Lib.hid hd64
          obtain ⟨t1, ht1⟩ : ∃ t, inL N s = t := ⟨_, rfl⟩
          obtain ⟨t2, ht2⟩ : ∃ t, inL N d = t := ⟨_, rfl⟩
          rw [ht1] at H1 hvb
          rw [ht2] at H2 hvb
          have HT1 := Lib.hid ht1
          have HT2 := Lib.hid ht2
          have HRL := Lib.hid hrl
          have HY := Lib.hid hy
          have HN := Lib.hid hn
          have HYA := Lib.hid hya
          have HNA := Lib.hid hna
          have HVV := Lib.hid hvb
          clear hxa hy hn hya hna hvb hrl hs64 hd64 hal hAX g5 hBq hmh hrw hmi ho ht1 ht2
          cases t1
          · have hv := HVV.out
            simp only [Bool.false_and] at hv
            have HH7 := Lib.hid (HN.out hv)
            have HA7 := Lib.hid (HNA.out hv)
            clear hv H2 HY HN HYA HNA HVV
            go_wp2_with (go_at_call 106; (with_reducible refine (H1.out _ HAL.out).mono ?_); rintro e w7 ⟨rfl, hb⟩; have HB7 := Lib.hid (HAL.out.trans (hb.mono HAL.out.size)); clear hb)
            go_roundw
            case rel => exact ⟨k + 1, hm, gh, by omega, by omega, by go_num, HMH.out.kept HB7.out, (by
              rw [show hdsL N (arcs.take (k + 1)) = hdsL N (arcs.take k) from funext HH7.out]; exact HRW.out.kept HB7.out), (by
              rw [show awL N (arcs.take (k + 1)) [] = awL N (arcs.take k) [] from funext HA7.out]; exact HMJ.out.kept HB7.out), HO.out.trans (Only.of_below HB7.out)⟩
            case measure => simp [Go.RowKit.intOf]; omega
          · cases t2
            · have hv := HVV.out
              simp only [Bool.and_false] at hv
              have HH7 := Lib.hid (HN.out hv)
              have HA7 := Lib.hid (HNA.out hv)
              clear hv HY HN HYA HNA HVV
              go_wp2_with (first
                | (go_at_call 106; (with_reducible refine (H1.out _ HAL.out).mono ?_); rintro e w7 ⟨rfl, hb⟩; have HB7 := Lib.hid (HAL.out.trans (hb.mono HAL.out.size)); have g5 := HGq.out.kept HB7.out; have q0 := g5.cell 0 rfl; have q1 := g5.cell 1 rfl; have q2 := g5.cell 2 rfl; have y1 := (HAX.out.kept hb).cell 1 rfl; clear hb g5 g0 g1 g2 x0 H1)
                | (go_at_call 106; (with_reducible refine (H2.out _ HB7.out).mono ?_); rintro e w8 ⟨rfl, hb⟩; have HB8 := Lib.hid (HB7.out.trans (hb.mono HB7.out.size)); clear hb))
              go_roundw
              case rel => exact ⟨k + 1, hm, gh, by omega, by omega, by go_num, HMH.out.kept HB8.out, (by
                rw [show hdsL N (arcs.take (k + 1)) = hdsL N (arcs.take k) from funext HH7.out]; exact HRW.out.kept HB8.out), (by
                rw [show awL N (arcs.take (k + 1)) [] = awL N (arcs.take k) [] from funext HA7.out]; exact HMJ.out.kept HB8.out), HO.out.trans (Only.of_below HB8.out)⟩
              case measure => simp [Go.RowKit.intOf]; omega
            · have hv := HVV.out
              simp only [Bool.and_self] at hv
              have HH7 := Lib.hid (HY.out hv)
              have HA7 := Lib.hid (HYA.out hv)
              clear hv HY HN HYA HNA HVV
              go_upto_region 13 with (first
                | (go_at_call 106; (with_reducible refine (H1.out _ HAL.out).mono ?_); rintro e w7 ⟨rfl, hb⟩; have HB7 := Lib.hid (HAL.out.trans (hb.mono HAL.out.size)); have g5 := HGq.out.kept HB7.out; have q0 := g5.cell 0 rfl; have q1 := g5.cell 1 rfl; have q2 := g5.cell 2 rfl; have hy1 := HAX.out.kept hb; have HAY := Lib.hid hy1; have y1 := hy1.cell 1 rfl; clear hb hy1 g5 g0 g1 g2 x0 H1)
                | (go_at_call 106; (with_reducible refine (H2.out _ HB7.out).mono ?_); rintro e w8 ⟨rfl, hb⟩; have HB8 := Lib.hid (HB7.out.trans (hb.mono HB7.out.size)); have HA8 := Lib.hid (HAY.out.kept hb); clear hb q0 q1 q2 y1 H2))
              obtain ⟨L, hL⟩ : ∃ L, hdsL N (arcs.take k) s = L := ⟨_, rfl⟩
              have hg8 := HGq.out.kept HB8.out
              have hr8 := HRW.out.kept HB8.out
              have hm8 := HMH.out.kept HB8.out
              have hro := hr8.own s HS64.out
              rw [hL] at hro
              obtain ⟨ra, rc, re⟩ := hro.ints.form
              rw [re] at hro
              have hlk : ∀ w', Below w8.heap.size w8 w' → (Instr.lookup 131 (.map (some mb)) (.int .i64 s) false).run Tryz.prog w' = .ok (.slice ra L.length rc) w' := fun w' hb => by
                have := (hm8.kept hb).look1 HS64.out
                rwa [re] at this
              have hl0 := hlk w8.drew (Below.refl _ _).drew
              have hl1 := hlk (w8.alloc (.cells #[.int .i64 d] 3)).drew ((Below.refl _ _).alloc (Nat.le_refl _) _).drew
              have hB6 : w6.heap.size ≤ wr.heap.size := HO.out.size
              have hB8 : wr.heap.size ≤ w8.heap.size := HB8.out.size
              have hrb : ∀ b, (Value.slice ra L.length rc).ownBlock = some b → w6.heap.size ≤ b ∧ b < wr.heap.size := fun b hb => by
                have h1 := OwnI.cells (HRW.out.own s HS64.out) b (by rw [re]; exact hb)
                exact ⟨h1.1, h1.2.1⟩
              have n1 : some gx ≠ (Value.slice ra L.length rc).ownBlock := fun e => by have := (hrb gx e.symm).1; have := HMX.out; omega
              have n2 : some wr.heap.size ≠ (Value.slice ra L.length rc).ownBlock := fun e => by have := (hrb _ e.symm).2; omega
              have n3 : some mb ≠ (Value.slice ra L.length rc).ownBlock := fun e => by have := (hrb mb e.symm).1; have := HMX.out; omega
              have n4 : gx ≠ mb := HWM.out.2.2.2.2.1
              have n5 : wr.heap.size ≠ mb := fun e => by have := HMX.out; omega
              have lg : gx < w8.heap.size := hg8.lt
              have la : wr.heap.size < w8.heap.size := HA8.out.lt
              have hLl : L.length ≤ 1000 := by
                have h1 := HRL.out s
                rw [hL] at h1
                have h2 : (arcs.take k).length ≤ 640 := by rw [List.length_take]; omega
                omega
              obtain ⟨i0, hi, hz0, hz1, hz2⟩ := info_parts info_int
              have c1 := hg8.cell 1 rfl
              have c2 := HA8.out.cell 0 rfl
              have c3 := HA8.out.cell 1 rfl
              have HPUT := Lib.hid (fun (w' : World) (hh : MapH w' mb hm gh) (y : Hd) => MapH.put hh (by omega) HS64.out y)
              have HM8 := Lib.hid hm8
              have HL := Lib.hid hL
              have HRE := Lib.hid re
              have HRO := Lib.hid hro
              have HR8 := Lib.hid hr8
              clear hg8 hr8 hm8 hro hlk hrb hL re
              go_region_held3 (fun w' => w'.cell? ⟨gx, 1, none⟩ = some (.map (some mb)) ∧ w'.cell? ⟨wr.heap.size, 0, none⟩ = some (.int .i64 s) ∧ w'.cell? ⟨wr.heap.size, 1, none⟩ = some (.int .i64 d))
                (first
                  | (go_split_ands; exact ⟨by assumption, by assumption, by assumption⟩)
                  | (go_split_ands; exact ⟨by go_keep, by go_keep, by go_keep⟩)
                  | (go_split_ands
                     exact ⟨(hg9.cell_far _ (by simp; omega) n1).trans (by assumption), (hg9.cell_far _ (by simp; omega) n2).trans (by assumption), (hg9.cell_far _ (by simp; omega) n2).trans (by assumption)⟩)
                  | (go_split_ands
                     exact ⟨(hg10.cell_far _ (by have := hg9.size; simp at this ⊢; omega) (by simpa using n4)).trans (by assumption), (hg10.cell_far _ (by have := hg9.size; simp at this ⊢; omega) (by simpa using n5)).trans (by assumption), (hg10.cell_far _ (by have := hg9.size; simp at this ⊢; omega) (by simpa using n5)).trans (by assumption)⟩))
                ((refine step_append_lies _ (by rfl) _ _ _ (by rfl) w6.heap.size 3 i0 (.int .i64 0) 1 8 Tryz.underlying32 hi hz0 hz1 hz2 rfl (by omega) (.slice ra L.length rc) L.length (flats csI L) (by rfl) ((World.ownsRow.alloc HRO.out _).drew)
                    ⟨w8.heap.size, 0, none⟩ 1 1 [.int .i64 d] (by rfl) (by rfl) (World.news_of_block (cs := #[.int .i64 d]) (t := 3) (fr := (0, 0)) (heap_alloc_new w8 _)) (by simp [Value.oneCell'])
                    (by omega) (by unfold maxLen; omega) (by omega) (by simp; omega) (w8.heap.size + 1) (by simp) ?_
                  intro gg cap w9 ho9 hg9 hat9 hlt9
                  obtain ⟨w10, hrun10, hm10, hg10⟩ := HPUT.out w9 (MapH.same (MapH.kept HM8.out (((Below.refl w8.heap.size w8).alloc (Nat.le_refl _) (.cells #[.int .i64 d] 3)).drew)) (hg9.block mb (by have := HM8.out.lt; simp; omega) n3)) ⟨some gg, L.length + 1, cap⟩
                  have hrun11 : (Instr.mapUpdate 131 (.map (some mb)) (.int .i64 s) (.slice (some ⟨gg, 0, none⟩) (L.length + 1) cap)).run Tryz.prog w9 = .ok () w10 := hrun10
                  clear hrun10))
              all_goals (
                have k8 := ((Below.refl w8.heap.size w8).alloc (Nat.le_refl _) (.cells #[.int .i64 d] 3)).drew
                have m9 := MapH.same (MapH.kept HM8.out k8) (hg9.block mb (by have := HM8.out.lt; simp; omega) n3)
                have na : some ab ≠ (Value.slice ra L.length rc).ownBlock := fun e => by
                  have h1 := OwnI.cells (HRW.out.own s HS64.out) ab (by rw [HRE.out]; exact e.symm)
                  have := HMX.out; omega
                have i8 := HMJ.out.kept HB8.out
                have i9 := (i8.kept k8).same (hg9.block ab (by have := i8.lt; simp; omega) na)
                have i10 := i9.same (hg10.block ab i9.lt (by simpa using HWM.out.2.2.2.1))
                have r9 : RowsI w6.heap.size w9 (updG gh s (some ⟨some gg, L.length + 1, cap⟩)) (hdsL N (arcs.take (k + 1))) := RowsI.put (HR8.out.kept k8) HS64.out (by rw [HRE.out]; exact hg9) (by rw [HL.out]; exact OwnR.snoc ho9 rfl rfl) (fun b hb => by
                  rw [HRE.out]
                  simp [hdv, Value.ownBlock] at hb
                  subst hb
                  rcases hat9 with h | h
                  · exact .inl h
                  · exact .inr (by simp; omega)) HH7.out
                have r10 := r9.grown hg10 (.inl ⟨_, _, m9⟩)
                have gb := ((((HGq.out.kept HB8.out).kept k8).grown hg9 n1).grown hg10 (by simpa using n4))
                have gt := (((HA8.out.kept k8).grown hg9 n2).grown hg10 (by simpa using n5))
                have o10 := (((HO.out.trans (Only.of_below HB8.out)).trans (Only.of_below k8)).grownN hg9 (fun b e => by
                  have h1 := OwnI.cells (HRW.out.own s HS64.out) b (by rw [HRE.out]; exact e)
                  exact .inr h1.1)).grownN hg10 (fun b e => by injection e with e; exact .inl (.inl e.symm))
                obtain ⟨q, hq⟩ : ∃ q, awL N (arcs.take k) [] d = q := ⟨_, rfl⟩
                have hdN : d ∈ N := inL_iff.1 HT2.out
                have lk := i10.look1 HD64.out
                rw [gA_getD hdN, hq] at lk
                have hq60 : q ≤ 640 := by
                  have h1 := awL_len N (arcs.take k) [] d
                  rw [hq, List.length_take] at h1
                  omega
                have hA := gA_upd (nodes := N) (A := awL N (arcs.take k) []) (A' := awL N (arcs.take (k + 1)) []) (k := q + 1) hdN (fun n => by
                  rw [HA7.out]
                  by_cases e : n = d
                  · rw [if_pos e, if_pos e, e, hq]
                  · rw [if_neg e, if_neg e])
                have hso : (gA N (awL N (arcs.take k) []) d).isSome = true := by rw [gA_some, HT2.out]
                have q1 : (q : Int) ≤ 640 := by omega
                have q0 : (0 : Int) ≤ (q : Int) := by omega
                have s2 := gb.cell 2 rfl
                have s3 := gt.cell 1 rfl
                have HI10 := Lib.hid i10
                have HR10 := Lib.hid r10
                have HO10 := Lib.hid o10
                have HM10 := Lib.hid hm10
                have HAA := Lib.hid hA
                have HSO := Lib.hid hso
                clear hA hso i8 i9 i10 r9 r10 o10 m9 gb gt hm10 k8 hq na ho9 hg9 hat9 hlt9 hg10 hrun11 c1 c2 c3 hl0 hl1
                obtain ⟨w11, hrun, h11, g11⟩ := HI10.out.put (by omega) HD64.out ((q : Int) + 1) (by unfold I64; omega)
                rw [HSO.out, if_pos rfl, show ((q : Int) + 1) = ((q + 1 : Nat) : Int) by omega, HAA.out] at h11
                have H11 := Lib.hid h11
                have G11 := Lib.hid g11
                clear h11 g11
                go_wp2
                go_roundw
                case rel => exact ⟨k + 1, _, _, by omega, by split <;> omega, by go_num, HM10.out.same (G11.out.block mb HM10.out.lt (by simpa using HWM.out.2.2.2.1.symm)), HR10.out.grown G11.out (.inr ⟨_, _, HI10.out⟩), H11.out, HO10.out.grownN G11.out (fun b e => by injection e with e; exact .inl (.inr e.symm))⟩
                case measure => simp [Go.RowKit.intOf]; omega)
        · have hke : k = arcs.length := by omega
          subst hke
          rw [List.take_length] at HRW HMJ
          have hZq := HZ6.out.only ho fun e => by have := HWM.out; omega
          have z0 := hZq.cell 0 rfl
          have z1 := hZq.cell 1 rfl
          have z2 := hZq.cell 2 rfl
          have y0 := hZq.free 0 rfl
          have y1 := hZq.free 1 rfl
          have y2 := hZq.free 2 rfl
          have g0 := HGq.out.cell 0 rfl
          have g1 := HGq.out.cell 1 rfl
          have g2 := HGq.out.cell 2 rfl
          have HZq := Lib.hid hZq
          have HM := Lib.hid hmh
          clear hk hlt hmh hrw hmi ho hBq hZq
          go_wp2
          have hF := ((HZq.out.set 0 (.slice a4 N.length c4)).set 1 (.map (some mb))).set 2 (.map (some ab))
          simp only [List.set_cons_zero, List.set_cons_succ] at hF
          have f0 := hF.cell 0 rfl
          have f1 := hF.cell 1 rfl
          have f2 := hF.cell 2 rfl
          have he : ∀ b, b ≠ w.heap.size → (((wr.setCell ⟨w.heap.size, 0, none⟩ (.slice a4 N.length c4)).setCell ⟨w.heap.size, 1, none⟩ (.map (some mb))).setCell ⟨w.heap.size, 2, none⟩ (.map (some ab))).heap[b]? = wr.heap[b]? := fun b hb => by
            rw [Below.heap_setCell _ _ _ _ (by exact hb), Below.heap_setCell _ _ _ _ (by exact hb), Below.heap_setCell _ _ _ _ (by exact hb)]
          have hsz : (((wr.setCell ⟨w.heap.size, 0, none⟩ (.slice a4 N.length c4)).setCell ⟨w.heap.size, 1, none⟩ (.map (some mb))).setCell ⟨w.heap.size, 2, none⟩ (.map (some ab))).heap.size = wr.heap.size := by simp [World.setCell]
          have hbz := ((HBq.out.setCell (p := ⟨w.heap.size, 0, none⟩) (Nat.le_refl _) (.slice a4 N.length c4)).setCell (p := ⟨w.heap.size, 1, none⟩) (Nat.le_refl _) (.map (some mb))).setCell (p := ⟨w.heap.size, 2, none⟩) (Nat.le_refl _) (.map (some ab))
          have hrl : ∀ n, I64 n → ∀ b, (hat gh n).ownBlock = some b → w6.heap.size ≤ b ∧ b < wr.heap.size := fun n hn b hb => ⟨((HRW.out.own n hn).cells b hb).1, ((HRW.out.own n hn).cells b hb).2.1⟩
          refine bodyPost_ret (v := grv a4 N.length c4 mb ab) (by simp [results, Tryz.results98, go_sem, f0, f1, f2]) rfl ⟨a4, c4, mb, ab, hm, gh, rfl, by have := HWM.out; omega, ⟨?_, ?_, ?_, ?_, ?_, ?_⟩, ?_, hbz⟩
          · exact (RowsAt.same HUq.out.rows (Nat.le_of_eq hsz.symm) fun _ g hg => he g (by have := (HUK.out g hg).1; omega)).ints
          · exact HM.out.same (he mb (by have := HWM.out; omega))
          · exact fun n hn => (RowsAt.same (OwnI.ints (HRW.out.own n hn)).rows (Nat.le_of_eq hsz.symm) fun _ g hg => he g (by have := hrl n hn g hg; have := HMX.out; have := HWM.out; omega)).ints
          · exact fun h0 g hg => ⟨by have := (HUK.out g hg).1; omega, by rw [hsz]; exact RowsAt.lt HUq.out.rows h0 g hg, (HUK.out g hg).2.2.1⟩
          · exact ⟨by have := HWM.out; omega, by rw [hsz]; exact HM.out.lt, HWM.out.2.2.2.1.symm⟩
          · exact fun n hn _ g hg => ⟨by have := hrl n hn g hg; have := HMX.out; have := HWM.out; omega, by rw [hsz]; exact (hrl n hn g hg).2, by have := hrl n hn g hg; have := HMX.out; omega⟩
          · exact HMJ.out.same (he ab (by have := HWM.out; omega))
end Go.Proofs.YthchkhgimnchcaaGreat
/- Stage 24: the store in memory: a node, all nodes, the object; what a store of a status, of a list, of a new node makes of it. -/
namespace Go.Proofs.YthchkhgimnchcaaGreat
open Go.RowKit

/-- a node's cells: a task's, and those that come right after it -/
def csNd (x : Sp) (s : Int) (a : Option Addr) (c : Nat) (vn : Value) : List Value := [.int .i64 x.id, .int .i64 x.prio, .int .u64 x.sk, .int .u64 x.ge, .int .i64 x.fx, .int .i64 x.fy, .int .i64 x.tx, .int .i64 x.ty, .slice a x.aft.length c, .int .i64 s, .int .i64 0, .int .i64 0, .int .i64 0, .slice none 0 0, vn]
structure NdP (w : World) (b : Nat) (x : Sp) (s : Int) (nl : List Int) (f : Nat → Prop) (a : Option Addr) (c : Nat) (vn : Value) : Prop where
  blk : Blk w b (csNd x s a c vn)
  aft : OwnI w 0 (.slice a x.aft.length c) x.aft
  nxt : OwnI w 0 vn nl
  fb : f b
  fa : ∀ k, (Value.slice a x.aft.length c).ownBlock = some k → f k ∧ k ≠ b
  fn : ∀ k, vn.ownBlock = some k → f k ∧ k ≠ b ∧ (Value.slice a x.aft.length c).ownBlock ≠ some k
  lt : ∀ k, f k → k < w.heap.size
section
variable {w w' : World} {b : Nat} {x : Sp} {s : Int} {nl : List Int} {f : Nat → Prop} {a : Option Addr} {c : Nat} {vn : Value}
theorem NdP.same (h : NdP w b x s nl f a c vn) (hz : w.heap.size ≤ w'.heap.size) (he : ∀ k, f k → w'.heap[k]? = w.heap[k]?) : NdP w' b x s nl f a c vn :=
  ⟨h.blk.same (he b h.fb), h.aft.same fun k hk => he k (h.fa k hk).1, h.nxt.same fun k hk => he k (h.fn k hk).1, h.fb, h.fa, h.fn, fun k hk => Nat.lt_of_lt_of_le (h.lt k hk) hz⟩
theorem size_set (w : World) (a : Addr) (u : Value) : (w.setCell a u).heap.size = w.heap.size := by simp [World.setCell]
theorem NdP.away (h : NdP w b x s nl f a c vn) (p : Addr) (u : Value) (hp : ¬ f p.block) : NdP (w.setCell p u) b x s nl f a c vn :=
  h.same (by rw [size_set]; exact Nat.le_refl _) fun k hk => Below.heap_setCell w p u k fun e => hp (by rw [← e]; exact hk)
theorem NdP.setSt (h : NdP w b x s nl f a c vn) (s' : Int) : NdP (w.setCell ⟨b, 9, none⟩ (.int .i64 s')) b x s' nl f a c vn :=
  ⟨h.blk.set 9 (.int .i64 s'), OwnR.away h.aft _ _ (fun e => (h.fa b e).2 rfl), OwnR.away h.nxt _ _ (fun e => (h.fn b e).2.1 rfl), h.fb, h.fa, h.fn, fun k hk => by rw [size_set]; exact h.lt k hk⟩
theorem NdP.setNx (h : NdP w b x s nl f a c vn) (hg : w.grownBy w' vn.ownBlock) {vn' : Value} {nl' : List Int} (ho : OwnI w' 0 vn' nl') (hv : ∀ k, vn'.ownBlock = some k → vn.ownBlock = some k ∨ (w.heap.size ≤ k ∧ k < w'.heap.size)) :
    NdP (w'.setCell ⟨b, 14, none⟩ vn') b x s nl' (fun k => f k ∨ vn'.ownBlock = some k) a c vn' := by
  have hbn : vn.ownBlock ≠ some b := fun e => (h.fn b e).2.1 rfl
  have hkb : ∀ k, vn'.ownBlock = some k → k ≠ b := fun k hk => (hv k hk).elim (fun e => (h.fn k e).2.1) fun e => by have := h.lt b h.fb; omega
  have h1 : Blk w' b (csNd x s a c vn) := h.blk.same (hg.block b (h.lt b h.fb) fun e => hbn e.symm)
  have h2 : OwnI w' 0 (.slice a x.aft.length c) x.aft := h.aft.same fun k hk => hg.block k (h.lt k (h.fa k hk).1) fun e => (h.fn k e.symm).2.2 hk
  refine ⟨h1.set 14 vn', OwnR.away h2 _ _ (fun e => (h.fa b e).2 rfl), OwnR.away ho _ _ (fun e => hkb b e rfl), .inl h.fb, fun k hk => ⟨.inl (h.fa k hk).1, (h.fa k hk).2⟩, fun k hk => ⟨.inr hk, hkb k hk, fun e => ?_⟩, fun k hk => ?_⟩
  · rcases hv k hk with h3 | h3
    · exact (h.fn k h3).2.2 e
    · have := h.lt k (h.fa k e).1
      omega
  · rw [size_set]
    rcases hk with hk | hk
    · exact Nat.lt_of_lt_of_le (h.lt k hk) hg.size
    · rcases hv k hk with h3 | h3
      · exact Nat.lt_of_lt_of_le (h.lt k (h.fn k h3).1) hg.size
      · exact h3.2
end

/-- a number's function, with another value at one -/
def updD {β : Type} (g : Int → β) (n : Int) (y : β) : Int → β := fun m => if m = n then y else g m
theorem updD_same {β : Type} (g : Int → β) (n : Int) (y : β) : updD g n y n = y := if_pos rfl
theorem updD_other {β : Type} (g : Int → β) {n m : Int} (y : β) (h : m ≠ n) : updD g n y m = g m := if_neg h

structure DagR (w : World) (p mb : Nat) (room : Int) (T : List Tk) (nx : Int → List Int) (g : Int → Option Nat) (Fm : Int → Nat → Prop) : Prop where
  box : Blk w p [.int .i64 room, .map (some mb)]
  map : MapP w mb T.length g
  dom : ∀ n, n ∈ idsK T ↔ (g n).isSome = true
  nod : ∀ t ∈ T, ∃ b a c vn, g t.sp.id = some b ∧ NdP w b t.sp t.st (nx t.sp.id) (Fm t.sp.id) a c vn
  apart : ∀ m n k, m ∈ idsK T → n ∈ idsK T → Fm m k → Fm n k → m = n
  off : ∀ n ∈ idsK T, ∀ k, Fm n k → k ≠ p ∧ k ≠ mb
  pm : p ≠ mb
def FpT (p mb : Nat) (T : List Tk) (Fm : Int → Nat → Prop) : Nat → Prop := fun k => k = p ∨ k = mb ∨ ∃ n ∈ idsK T, Fm n k
section
variable {w w' : World} {p mb : Nat} {room : Int} {T : List Tk} {nx : Int → List Int} {g : Int → Option Nat} {Fm : Int → Nat → Prop}
theorem DagR.lt (h : DagR w p mb room T nx g Fm) : ∀ k, FpT p mb T Fm k → k < w.heap.size := by
  rintro k (rfl | rfl | ⟨n, hn, hk⟩)
  · exact h.box.lt
  · exact h.map.lt
  · obtain ⟨t, ht, rfl⟩ := idsK_mem.1 hn
    obtain ⟨b, a, c, vn, _, hN⟩ := h.nod t ht
    exact hN.lt k hk
theorem DagR.same (h : DagR w p mb room T nx g Fm) (hz : w.heap.size ≤ w'.heap.size) (he : ∀ k, FpT p mb T Fm k → w'.heap[k]? = w.heap[k]?) : DagR w' p mb room T nx g Fm :=
  ⟨h.box.same (he p (.inl rfl)), h.map.same (he mb (.inr (.inl rfl))), h.dom, fun t ht => by
    obtain ⟨b, a, c, vn, h1, h2⟩ := h.nod t ht
    exact ⟨b, a, c, vn, h1, h2.same hz fun k hk => he k (.inr (.inr ⟨_, idsK_mem.2 ⟨t, ht, rfl⟩, hk⟩))⟩, h.apart, h.off, h.pm⟩
theorem DagR.kept (h : DagR w p mb room T nx g Fm) (hb : Below w.heap.size w w') : DagR w' p mb room T nx g Fm := h.same hb.size fun k hk => hb.block k (h.lt k hk)
theorem DagR.only (h : DagR w p mb room T nx g Fm) {F : Nat → Prop} (ho : Only F w w') (hf : ∀ k, F k → ¬ FpT p mb T Fm k) : DagR w' p mb room T nx g Fm := h.same ho.size fun k hk => ho.block k (h.lt k hk) fun e => hf k e hk
/-- the node of an ID -/
theorem DagR.at (h : DagR w p mb room T nx g Fm) {n : Int} (hn : n ∈ idsK T) : ∃ t ∈ T, ∃ b a c vn, t.sp.id = n ∧ g n = some b ∧ NdP w b t.sp t.st (nx n) (Fm n) a c vn := by
  obtain ⟨t, ht, rfl⟩ := idsK_mem.1 hn
  obtain ⟨b, a, c, vn, h1, h2⟩ := h.nod t ht
  exact ⟨t, ht, b, a, c, vn, rfl, h1, h2⟩
theorem DagR.no (h : DagR w p mb room T nx g Fm) {n : Int} (hn : n ∉ idsK T) : g n = none := by
  cases e : g n with
  | none => rfl
  | some b => exact absurd ((h.dom n).2 (by rw [e]; rfl)) hn
theorem nodup_inj {T : List Tk} (h : (idsK T).Nodup) {t u : Tk} (ht : t ∈ T) (hu : u ∈ T) (e : t.sp.id = u.sp.id) : t = u := by
  have e1 := find_at h ht
  rw [e, find_at h hu] at e1
  injection e1 with e1
  exact e1.symm
/-- another status -/
theorem DagR.setSt (h : DagR w p mb room T nx g Fm) {n : Int} {b : Nat} (hn : n ∈ idsK T) (hg : g n = some b) (s : Int) : DagR (w.setCell ⟨b, 9, none⟩ (.int .i64 s)) p mb room (setsT T [n] s) nx g Fm := by
  have hFb : Fm n b := by
    obtain ⟨t, ht, b', a, c, vn, _, h1, h2⟩ := h.at hn
    rw [hg] at h1
    injection h1 with h1
    rw [h1]
    exact h2.fb
  have ho := h.off n hn b hFb
  refine ⟨h.box.away _ _ fun e => ho.1 e.symm, ?_, fun m => by rw [setsT_ids]; exact h.dom m, fun t ht => ?_, fun m k j hm hk => ?_, fun m hm => ?_, h.pm⟩
  · rw [setsT_len]
    exact h.map.same (Below.heap_setCell w _ _ mb fun e => ho.2 e.symm)
  · obtain ⟨u, hu, rfl⟩ := setsT_mem.1 ht
    obtain ⟨b', a, c, vn, h1, h2⟩ := h.nod u hu
    by_cases e : u.sp.id = n
    · have e2 : inL [n] u.sp.id = true := inL_iff.2 (List.mem_singleton.2 e)
      rw [if_pos e2]
      subst e
      rw [hg] at h1
      injection h1 with h1
      subst h1
      exact ⟨b, a, c, vn, hg, h2.setSt s⟩
    · have e2 : ¬ inL [n] u.sp.id = true := fun h => e (List.mem_singleton.1 (inL_iff.1 h))
      rw [if_neg e2]
      exact ⟨b', a, c, vn, h1, h2.away _ _ fun hb => e (h.apart _ _ b (idsK_mem.2 ⟨u, hu, rfl⟩) hn hb hFb)⟩
  · rw [setsT_ids] at hm hk
    exact h.apart m k j hm hk
  · rw [setsT_ids] at hm
    exact h.off m hm
/-- another list -/
theorem DagR.setNx (h : DagR w p mb room T nx g Fm) {t : Tk} (ht : t ∈ T) {b : Nat} {a : Option Addr} {c : Nat} {vn : Value} (hg : g t.sp.id = some b) (hN : NdP w b t.sp t.st (nx t.sp.id) (Fm t.sp.id) a c vn) (hnd : (idsK T).Nodup)
    (hgr : w.grownBy w' vn.ownBlock) {vn' : Value} {nl' : List Int} (ho : OwnI w' 0 vn' nl') (hv : ∀ k, vn'.ownBlock = some k → vn.ownBlock = some k ∨ (w.heap.size ≤ k ∧ k < w'.heap.size)) :
    DagR (w'.setCell ⟨b, 14, none⟩ vn') p mb room T (updD nx t.sp.id nl') g (updD Fm t.sp.id fun k => Fm t.sp.id k ∨ vn'.ownBlock = some k) := by
  have hn : t.sp.id ∈ idsK T := idsK_mem.2 ⟨t, ht, rfl⟩
  have hlt := h.lt
  have hoff := h.off _ hn
  have hz : w.heap.size ≤ (w'.setCell ⟨b, 14, none⟩ vn').heap.size := by rw [size_set]; exact hgr.size
  have hold : ∀ k, k < w.heap.size → ¬ Fm t.sp.id k → (w'.setCell ⟨b, 14, none⟩ vn').heap[k]? = w.heap[k]? := fun k hk hf =>
    (Below.heap_setCell w' _ _ k fun e => hf (by rw [show k = b from e]; exact hN.fb)).trans (hgr.block k hk fun e => hf (hN.fn k e.symm).1)
  have hFm : ∀ m k, m ∈ idsK T → updD Fm t.sp.id (fun k => Fm t.sp.id k ∨ vn'.ownBlock = some k) m k → Fm m k ∨ (m = t.sp.id ∧ w.heap.size ≤ k) := fun m k hm hk => by
    by_cases e : m = t.sp.id
    · subst e
      rw [updD_same] at hk
      rcases hk with hk | hk
      · exact .inl hk
      · rcases hv k hk with h1 | h1
        · exact .inl (hN.fn k h1).1
        · exact .inr ⟨rfl, h1.1⟩
    · rw [updD_other _ _ e] at hk
      exact .inl hk
  refine ⟨h.box.same (hold p (hlt p (.inl rfl)) fun e => (hoff p e).1 rfl), h.map.same (hold mb (hlt mb (.inr (.inl rfl))) fun e => (hoff mb e).2 rfl), h.dom, fun u hu => ?_, fun m n k hm hn2 h1 h2 => ?_, fun m hm k hk => ?_, h.pm⟩
  · obtain ⟨b', a', c', vn2, h1, h2⟩ := h.nod u hu
    by_cases e : u.sp.id = t.sp.id
    · have := nodup_inj hnd hu ht e
      subst this
      refine ⟨b, a, c, vn', hg, ?_⟩
      rw [updD_same, updD_same]
      exact hN.setNx hgr ho hv
    · refine ⟨b', a', c', vn2, h1, ?_⟩
      rw [updD_other _ _ e, updD_other _ _ e]
      have hu2 : u.sp.id ∈ idsK T := idsK_mem.2 ⟨u, hu, rfl⟩
      exact h2.same hz fun k hk => hold k (h2.lt k hk) fun hf => e (h.apart _ _ k hu2 hn hk hf)
  · rcases hFm m k hm h1 with h3 | ⟨rfl, h3⟩
    · rcases hFm n k hn2 h2 with h4 | ⟨rfl, h4⟩
      · exact h.apart m n k hm hn2 h3 h4
      · have := hlt k (.inr (.inr ⟨m, hm, h3⟩))
        omega
    · rcases hFm n k hn2 h2 with h4 | ⟨rfl, h4⟩
      · have := hlt k (.inr (.inr ⟨n, hn2, h4⟩))
        omega
      · rfl
  · rcases hFm m k hm hk with h3 | ⟨rfl, h3⟩
    · exact h.off m hm k h3
    · exact ⟨fun e => by have := hlt p (.inl rfl); omega, fun e => by have := hlt mb (.inr (.inl rfl)); omega⟩
theorem idsK_snoc (T : List Tk) (t : Tk) : idsK (T ++ [t]) = idsK T ++ [t.sp.id] := by unfold idsK; rw [List.map_append]; rfl
/-- a new node: its block, its list are new; the map has taken it -/
theorem DagR.add (h : DagR w p mb room T nx g Fm) {x : Sp} {s : Int} {b : Nat} {a : Option Addr} {c : Nat} {f : Nat → Prop} (hx : x.id ∉ idsK T) (hnx : nx x.id = []) (hgr : w.grownBy w' (some mb))
    (hm : MapP w' mb (T.length + 1) (updG g x.id (some b))) (hN : NdP w' b x s [] f a c (.slice none 0 0)) (hf : ∀ k, f k → k < w.heap.size ∧ ¬ FpT p mb T Fm k) :
    DagR w' p mb room (T ++ [mkK x s]) nx (updG g x.id (some b)) (updD Fm x.id f) := by
  have hlt := h.lt
  have hold : ∀ k, k < w.heap.size → k ≠ mb → w'.heap[k]? = w.heap[k]? := fun k hk hne => hgr.block k hk fun e => hne (by injection e)
  have hup : ∀ n, n ∈ idsK T → updD Fm x.id f n = Fm n := fun n hn => updD_other _ _ fun e => hx (e ▸ hn)
  have hids : ∀ n, n ∈ idsK (T ++ [mkK x s]) ↔ n ∈ idsK T ∨ n = x.id := fun n => by rw [idsK_snoc, List.mem_append, List.mem_singleton]; exact Iff.rfl
  refine ⟨h.box.same (hold p (hlt p (.inl rfl)) h.pm), by rw [List.length_append]; exact hm, fun n => ?_, fun t ht => ?_, fun m n k hm2 hn h1 h2 => ?_, fun n hn k hk => ?_, h.pm⟩
  · rw [hids]
    by_cases e : n = x.id
    · subst e
      rw [updG_same]
      exact ⟨fun _ => rfl, fun _ => .inr rfl⟩
    · rw [updG_other _ _ e, ← h.dom]
      exact ⟨fun h => h.resolve_right e, .inl⟩
  · rcases List.mem_append.1 ht with ht | ht
    · have hti : t.sp.id ∈ idsK T := idsK_mem.2 ⟨t, ht, rfl⟩
      obtain ⟨b', a', c', vn, h1, h2⟩ := h.nod t ht
      refine ⟨b', a', c', vn, ?_, ?_⟩
      · rw [updG_other _ _ fun e => hx (by rw [← e]; exact hti)]
        exact h1
      · rw [hup _ hti]
        exact h2.same hgr.size fun k hk => hold k (h2.lt k hk) (h.off _ hti k hk).2
    · rw [List.mem_singleton.1 ht]
      refine ⟨b, a, c, .slice none 0 0, updG_same _ _ _, ?_⟩
      show NdP w' b x s (nx x.id) (updD Fm x.id f x.id) a c _
      rw [updD_same, hnx]
      exact hN
  · rcases (hids m).1 hm2 with e1 | rfl
    · rw [hup m e1] at h1
      rcases (hids n).1 hn with e2 | rfl
      · rw [hup n e2] at h2
        exact h.apart m n k e1 e2 h1 h2
      · rw [updD_same] at h2
        exact absurd (.inr (.inr ⟨m, e1, h1⟩)) (hf k h2).2
    · rw [updD_same] at h1
      rcases (hids n).1 hn with e2 | rfl
      · rw [hup n e2] at h2
        exact absurd (.inr (.inr ⟨n, e2, h2⟩)) (hf k h1).2
      · rfl
  · rcases (hids n).1 hn with e1 | rfl
    · rw [hup n e1] at hk
      exact h.off n e1 k hk
    · rw [updD_same] at hk
      exact ⟨fun e => (hf k hk).2 (.inl e), fun e => (hf k hk).2 (.inr (.inl e))⟩
theorem DagR.perm (h : DagR w p mb room T nx g Fm) {T' : List Tk} (hp : T.Perm T') : DagR w p mb room T' nx g Fm := by
  have hi : ∀ n, n ∈ idsK T' ↔ n ∈ idsK T := fun n => ((hp.map fun t => t.sp.id).mem_iff).symm
  exact ⟨h.box, by rw [← hp.length_eq]; exact h.map, fun n => (hi n).trans (h.dom n), fun t ht => h.nod t (hp.mem_iff.2 ht), fun m n k hm hn => h.apart m n k ((hi m).1 hm) ((hi n).1 hn), fun n hn => h.off n ((hi n).1 hn), h.pm⟩
end
/-- what stands right behind each task, as its node has it -/
def NxOk (T : List Tk) (nx : Int → List Int) : Prop := (∀ n x, x ∈ nx n ↔ Ed T n x) ∧ ∀ n, (nx n).Nodup
theorem NxOk.sets {T : List Tk} {nx : Int → List Int} (h : NxOk T nx) (ids : List Int) (s : Int) : NxOk (setsT T ids s) nx := ⟨fun n x => (h.1 n x).trans setsT_Ed.symm, h.2⟩
/-- tasks that have a spec and a status alone -/
def Pl (T : List Tk) : Prop := ∀ t ∈ T, t = mkK t.sp t.st
theorem Pl.sets {T : List Tk} (h : Pl T) (ids : List Int) (s : Int) : Pl (setsT T ids s) := fun t ht => by
  obtain ⟨u, hu, rfl⟩ := setsT_mem.1 ht
  have := h u hu
  split
  · rw [this]
    rfl
  · exact this
/-- the store, as the calls hold it -/
structure DagP (F : Nat → Prop) (w : World) (p mb : Nat) (room : Int) (T : List Tk) (nx : Int → List Int) (g : Int → Option Nat) (Fm : Int → Nat → Prop) : Prop where
  R : DagR w p mb room T nx g Fm
  N : NxOk T nx
  wf : Wf T
  pl : Pl T
  fit : (T.length : Int) ≤ room
  room0 : 0 ≤ room
  room64 : room ≤ 64
  fp : ∀ k, F k ↔ FpT p mb T Fm k
def DagAt (F : Nat → Prop) (w : World) (v : Value) (room : Int) (T : List Tk) : Prop := ∃ p mb nx g Fm, v = .pointer (some ⟨p, 0, none⟩) ∧ DagP F w p mb room T nx g Fm
section
variable {F : Nat → Prop} {w w' : World} {v : Value} {p mb : Nat} {room : Int} {T : List Tk} {nx : Int → List Int} {g : Int → Option Nat} {Fm : Int → Nat → Prop}
theorem DagP.same (h : DagP F w p mb room T nx g Fm) (hz : w.heap.size ≤ w'.heap.size) (he : ∀ k, F k → w'.heap[k]? = w.heap[k]?) : DagP F w' p mb room T nx g Fm :=
  ⟨h.R.same hz fun k hk => he k ((h.fp k).2 hk), h.N, h.wf, h.pl, h.fit, h.room0, h.room64, h.fp⟩
theorem DagP.kept (h : DagP F w p mb room T nx g Fm) (hb : Below w.heap.size w w') : DagP F w' p mb room T nx g Fm := h.same hb.size fun k hk => hb.block k (h.R.lt k ((h.fp k).1 hk))
theorem DagP.lt (h : DagP F w p mb room T nx g Fm) : ∀ k, F k → k < w.heap.size := fun k hk => h.R.lt k ((h.fp k).1 hk)
theorem DagAt.same (h : DagAt F w v room T) (hz : w.heap.size ≤ w'.heap.size) (he : ∀ k, F k → w'.heap[k]? = w.heap[k]?) : DagAt F w' v room T := by
  obtain ⟨p, mb, nx, g, Fm, h1, h2⟩ := h
  exact ⟨p, mb, nx, g, Fm, h1, h2.same hz he⟩
theorem DagAt.lt (h : DagAt F w v room T) : ∀ k, F k → k < w.heap.size := by
  obtain ⟨p, mb, nx, g, Fm, h1, h2⟩ := h
  exact h2.lt
theorem Wf.id64 (h : Wf T) {n : Int} (hn : n ∈ idsK T) : I64 n ∧ 1 ≤ n ∧ n ≤ 999 := by
  obtain ⟨t, ht, rfl⟩ := idsK_mem.1 hn
  have h1 : 1 ≤ t.sp.id ∧ t.sp.id ≤ 999 := by
    rcases chk_cases t.sp with ⟨_, h2⟩ | ⟨_, _, h2⟩ | ⟨h3, _, _⟩
    · rw [h.chk t ht] at h2; cases h2
    · rw [h.chk t ht] at h2; cases h2
    · unfold numS bdsS at h3
      simp only [List.all_cons, Bool.and_eq_true] at h3
      exact inB_iff.1 h3.1
  exact ⟨⟨by omega, by omega⟩, h1⟩
theorem Wf.aft8 (h : Wf T) {t : Tk} (ht : t ∈ T) : t.sp.aft.length ≤ 8 := chk_len (h.chk t ht)
theorem Wf.st64 (h : Wf T) {t : Tk} (ht : t ∈ T) : I64 t.st := by
  have h1 := h.sts t.sp.id (idsK_mem.2 ⟨t, ht, rfl⟩)
  rw [sg_at h.nodup ht] at h1
  exact ⟨by omega, by omega⟩
/-- what the looks want to know of a store -/
structure Wf0 (T : List Tk) : Prop where
  nodup : (idsK T).Nodup
  id64 : ∀ n ∈ idsK T, I64 n
  aft8 : ∀ t ∈ T, t.sp.aft.length ≤ 8
  pre : ∀ a x, Ed T a x → a ∈ idsK T
theorem Wf.weak (h : Wf T) : Wf0 T := ⟨h.nodup, fun _ hn => (h.id64 hn).1, fun _ ht => h.aft8 ht, h.pre⟩
theorem Wf0.re (h : Wf0 T) {T' : List Tk} (hsp : T'.map Tk.sp = T.map Tk.sp) : Wf0 T' := by
  have hi : idsK T' = idsK T := by rw [idsK_sp, hsp, ← idsK_sp]
  refine ⟨by rw [hi]; exact h.nodup, fun n hn => h.id64 n (by rw [← hi]; exact hn), fun t ht => ?_, fun a x he => by rw [hi]; exact h.pre a x ((Ed_sp hsp).1 he)⟩
  have : t.sp ∈ T.map Tk.sp := by rw [← hsp]; exact List.mem_map.2 ⟨t, ht, rfl⟩
  obtain ⟨u, hu, e⟩ := List.mem_map.1 this
  rw [← e]
  exact h.aft8 u hu
theorem DagP.re (h : DagP F w p mb room T nx g Fm) {T' : List Tk} (hR : DagR w' p mb room T' nx g Fm) (hsp : T'.map Tk.sp = T.map Tk.sp) (hw : Wf T') (hp : Pl T') : DagP F w' p mb room T' nx g Fm := by
  have hi : idsK T' = idsK T := by rw [idsK_sp, hsp, ← idsK_sp]
  have hl : T'.length = T.length := by simpa using congrArg List.length hsp
  exact ⟨hR, ⟨fun n x => (h.N.1 n x).trans (Ed_sp hsp).symm, h.N.2⟩, hw, hp, by rw [hl]; exact h.fit, h.room0, h.room64, fun k => (h.fp k).trans (by unfold FpT; rw [hi])⟩
theorem DagP.nx64 (h : DagP F w p mb room T nx g Fm) (n : Int) : (nx n).length ≤ 64 := by
  have := len_of_sub (nx n) (idsK T) (h.N.2 n) fun x hx => Ed_ids ((h.N.1 n x).1 hx)
  unfold idsK at this
  rw [List.length_map] at this
  have := h.fit
  have := h.room64
  omega
end
end Go.Proofs.YthchkhgimnchcaaGreat
