/- Stage 16's program: eachReached, Reach. -/
import Derived.Test.YtnfdhlkngjplkaaGrG
import Derived.Test.YtnfdhlkngjplkaaOwnSet
namespace Go.Proofs.Ytnfdhlkngjplkaa
open Go.RowKit

def gR (done : List Int) (n : Int) : Option Bool := if n ∈ done then some true else none
theorem gR_get (done : List Int) (n : Int) : (gR done n).getD false = inL done n ∧ (gR done n).isSome = inL done n := by
  unfold gR
  by_cases h : n ∈ done
  · rw [if_pos h, inL_iff.2 h]; exact ⟨rfl, rfl⟩
  · rw [if_neg h, inL_not.2 h]; exact ⟨rfl, rfl⟩
theorem gR_snoc (done : List Int) (x : Int) : updG (gR done) x (some true) = gR (done ++ [x]) := by
  funext n
  unfold updG gR
  by_cases hn : n = x
  · rw [if_pos hn, if_pos (by simp [hn])]
  · rw [if_neg hn]
    by_cases hm : n ∈ done
    · rw [if_pos hm, if_pos (List.mem_append_left _ hm)]
    · rw [if_neg hm, if_neg (by rw [List.mem_append, List.mem_singleton]; rintro (h | h); exact hm h; exact hn h)]
theorem upto16 (a : Option Addr) (n c k : Nat) (hk : k ≤ c) (w' : World) : (Instr.sliceAt 22 (.slice a n c) none (some (.int .i64 (k : Int))) none).run Try.prog w' = .ok (.slice a k c) w' := by
  have h1 : (k : Int) ≤ (c : Int) := by omega
  simp [go_sem, sliced, h1]
/-- what waits (v), what was reached (rb), who is told (F), the graph (R): apart from one another -/
structure ReSt (X R F : Nat → Prop) (w0 w : World) (q : Nat) (v : Value) (wait : List Int) (rb ab : Nat) (ga : Int → Option Int) (done : List Int) (gx : Nat) (a : Option Addr) (c hb hm : Nat) (gh : Int → Option Hd) (nodes : List Int) (H : Int → List Int) : Prop where
  hw : OwnO w 1 csI v wait
  hr : MapB w rb done.length (gR done)
  ha : MapI w ab nodes.length ga
  hj : JO q done F w
  hg : GrAt R w (.slice a nodes.length c) hb hm gh nodes H
  bx : Blk w gx (grc a nodes.length c hb ab)
  rg : R gx
  rl : ∀ k, R k → k < w.heap.size
  dv : ∀ k, v.ownBlock = some k → ¬ F k ∧ ¬ R k ∧ k ≠ rb ∧ k ≠ ab ∧ X k
  d5 : ∀ k, F k → ¬ R k
  d6 : ¬ F rb
  d7 : ¬ F ab
  d8 : ¬ R rb
  d9 : ¬ R ab
  d10 : rb ≠ ab
  xf : ∀ k, F k → X k
  xr : X rb
  xw : ∀ k, w0.heap.size ≤ k → X k
  only : Only X w0 w
section
variable {X R F F' : Nat → Prop} {w0 w w' : World} {q : Nat} {v v' : Value} {wait wait' : List Int} {rb ab : Nat} {ga : Int → Option Int} {done done' : List Int} {gx : Nat} {a : Option Addr} {c hb hm : Nat} {gh : Int → Option Hd} {nodes : List Int} {H : Int → List Int}
theorem ReSt.jl (h : ReSt X R F w0 w q v wait rb ab ga done gx a c hb hm gh nodes H) : ∀ k, F k → k < w.heap.size := (jo_tell q).lt h.hj
theorem ReSt.kept (h : ReSt X R F w0 w q v wait rb ab ga done gx a c hb hm gh nodes H) (hb' : Below w.heap.size w w') : ReSt X R F w0 w' q v wait rb ab ga done gx a c hb hm gh nodes H :=
  ⟨h.hw.kept hb', h.hr.kept hb', h.ha.kept hb', (jo_tell q).out h.hj hb'.size fun k hk => hb'.block k (h.jl k hk), h.hg.kept hb', h.bx.kept hb', h.rg, fun k hk => Nat.lt_of_lt_of_le (h.rl k hk) hb'.size, h.dv, h.d5, h.d6, h.d7, h.d8, h.d9, h.d10, h.xf, h.xr, h.xw, h.only.trans (Only.of_below hb')⟩
theorem ReSt.cut (h : ReSt X R F w0 w q v wait rb ab ga done gx a c hb hm gh nodes H) (hw : OwnO w 1 csI v' wait') (hv : v'.ownBlock = v.ownBlock) : ReSt X R F w0 w q v' wait' rb ab ga done gx a c hb hm gh nodes H :=
  ⟨hw, h.hr, h.ha, h.hj, h.hg, h.bx, h.rg, h.rl, fun k hk => h.dv k (hv ▸ hk), h.d5, h.d6, h.d7, h.d8, h.d9, h.d10, h.xf, h.xr, h.xw, h.only⟩
theorem ReSt.mark (h : ReSt X R F w0 w q v wait rb ab ga done gx a c hb hm gh nodes H) {m : Nat} {g : Int → Option Bool} (hr : MapB w' rb m g) (hg : w.grownBy w' (some rb)) :
    OwnO w' 1 csI v wait ∧ MapI w' ab nodes.length ga ∧ JO q done F w' ∧ GrAt R w' (.slice a nodes.length c) hb hm gh nodes H ∧ Blk w' gx (grc a nodes.length c hb ab) ∧ Only X w0 w' := by
  have hk : ∀ k, k < w.heap.size → k ≠ rb → w'.heap[k]? = w.heap[k]? := fun k h1 h2 => hg.block k h1 fun e => h2 (by injection e)
  have _ := hr
  exact ⟨h.hw.same hg.size fun k e => hk k (h.hw.lt k e) (h.dv k e).2.2.1, h.ha.same (hk ab h.ha.lt (Ne.symm h.d10)), (jo_tell q).out h.hj hg.size fun k e => hk k (h.jl k e) fun e2 => h.d6 (e2 ▸ e), h.hg.out hg.size fun k e => hk k (h.rl k e) fun e2 => h.d8 (e2 ▸ e),
    h.bx.same (hk gx h.bx.lt fun e => h.d8 (e ▸ h.rg)), h.only.trans (Only.grown hg fun k e => by injection e with e; exact e ▸ h.xr)⟩
/-- marked, told -/
theorem ReSt.tell {w2 : World} (h : ReSt X R F w0 w q v wait rb ab ga done gx a c hb hm gh nodes H) (hr : MapB w' rb done'.length (gR done')) (hg : w.grownBy w' (some rb)) (hj : JO q done' F' w2) (m : Mv F F' w' w2) :
    ReSt X R F' w0 w2 q v wait rb ab ga done' gx a c hb hm gh nodes H := by
  obtain ⟨h1, h2, h3, h4, h5, h6⟩ := h.mark hr hg
  have hrl : ∀ k, R k → k < w'.heap.size := fun k e => Nat.lt_of_lt_of_le (h.rl k e) hg.size
  exact ⟨h1.same m.only.size fun k e => m.only.block k (h1.lt k e) (h.dv k e).1, hr.same (m.only.block rb hr.lt h.d6), h2.same (m.only.block ab h2.lt h.d7), hj, h4.out m.only.size fun k e => m.only.block k (hrl k e) fun e2 => h.d5 k e2 e,
    h5.same (m.only.block gx h5.lt fun e => h.d5 gx e h.rg), h.rg, fun k e => Nat.lt_of_lt_of_le (hrl k e) m.only.size, fun k e => ⟨m.off (h1.lt k e) (h.dv k e).1, (h.dv k e).2⟩, fun k e1 e2 => m.off (hrl k e2) (fun e3 => h.d5 k e3 e2) e1, m.off hr.lt h.d6, m.off h2.lt h.d7, h.d8, h.d9, h.d10,
    fun k e => (m.sub k e).elim (h.xf k) fun e2 => h.xw k (Nat.le_trans h6.size e2), h.xr, h.xw, h6.trans (m.only.mono h.xf)⟩
theorem ReSt.app (h : ReSt X R F w0 w q v wait rb ab ga done gx a c hb hm gh nodes H) (hw : OwnO w' 1 csI v' wait') (hg : w.grownBy w' v.ownBlock) (hv : v'.ownBlock = v.ownBlock ∨ v'.ownBlock = some w.heap.size) :
    ReSt X R F w0 w' q v' wait' rb ab ga done gx a c hb hm gh nodes H := by
  have hk : ∀ k, k < w.heap.size → v.ownBlock ≠ some k → w'.heap[k]? = w.heap[k]? := fun k h1 h2 => hg.block k h1 fun e => h2 e.symm
  refine ⟨hw, h.hr.same (hk rb h.hr.lt fun e => (h.dv rb e).2.2.1 rfl), h.ha.same (hk ab h.ha.lt fun e => (h.dv ab e).2.2.2.1 rfl), (jo_tell q).out h.hj hg.size fun k e => hk k (h.jl k e) fun e2 => (h.dv k e2).1 e, h.hg.out hg.size fun k e => hk k (h.rl k e) fun e2 => (h.dv k e2).2.1 e,
    h.bx.same (hk gx h.bx.lt fun e => (h.dv gx e).2.1 h.rg), h.rg, fun k e => Nat.lt_of_lt_of_le (h.rl k e) hg.size, fun k e => ?_, h.d5, h.d6, h.d7, h.d8, h.d9, h.d10, h.xf, h.xr, h.xw, h.only.trans (Only.grown hg fun k e => (h.dv k e).2.2.2.2)⟩
  rcases hv with e2 | e2
  · exact h.dv k (e2 ▸ e)
  · rw [e2] at e
    injection e with e
    subst e
    exact ⟨fun e => Nat.lt_irrefl _ (h.jl _ e), fun e => Nat.lt_irrefl _ (h.rl _ e), fun e => by have := h.hr.lt; omega, fun e => by have := h.ha.lt; omega, h.xw _ h.only.size⟩
end
theorem reSt_start {R F : Nat → Prop} {w w1 : World} {q : Nat} {v : Value} {frm : List Int} {ab : Nat} {ga : Int → Option Int} {a : Option Addr} {c hb hm : Nat} {gh : Int → Option Hd} {nodes : List Int} {H : Int → List Int}
    (hG : GrAt R w (.slice a nodes.length c) hb hm gh nodes H) (hI : MapI w ab nodes.length ga) (hRl : ∀ k, R k → k < w.heap.size) (hS : ¬ R ab ∧ (∀ k, F k → ¬ R k) ∧ ¬ F ab) (hJ : JO q [] F w) (ho : OwnI w1 (w.heap.size + 1) v frm)
    (hb1 : Below (w.heap.size + 1) (w.alloc (.cells #[.slice a nodes.length c, .map (some hb), .map (some ab)] 39)) w1) :
    ReSt (fun k => F k ∨ w.heap.size ≤ k) (fun k => R k ∨ k = w.heap.size) F w (w1.alloc (.map #[] 0)) q v frm w1.heap.size ab ga [] w.heap.size a c hb hm gh nodes H := by
  have hal := (Below.refl w.heap.size w).alloc (Nat.le_refl _) (.cells #[.slice a nodes.length c, .map (some hb), .map (some ab)] 39)
  have hX := Blk.new w [.slice a nodes.length c, .map (some hb), .map (some ab)] 39
  have hsz : (w.alloc (.cells #[.slice a nodes.length c, .map (some hb), .map (some ab)] 39)).heap.size = w.heap.size + 1 := by simp
  have hz1 : w.heap.size + 1 ≤ w1.heap.size := by have := hb1.size; rwa [hsz] at this
  have hb2 := (Below.refl w1.heap.size w1).alloc (Nat.le_refl _) (.map #[] 0)
  have hz2 : (w1.alloc (.map #[] 0)).heap.size = w1.heap.size + 1 := by simp
  have hB : Below w.heap.size w (w1.alloc (.map #[] 0)) := (hal.trans (hb1.mono (by omega))).trans (hb2.mono (by omega))
  have hal2 := hI.lt
  have hjl := (jo_tell q).lt hJ
  have hgr : gR [] = fun _ => none := by funext n; simp [gR]
  refine ⟨(OwnR.own ho).kept hb2, by rw [hgr]; exact MapB.new w1, hI.kept hB, (jo_tell q).out hJ hB.size fun k hk => hB.block k (hjl k hk), (hG.kept hB).mono fun k hk => .inl hk, (hX.kept (by rw [hsz]; exact hb1)).kept hb2, .inr rfl, fun k hk => ?_, fun k hk => ?_, fun k h1 h2 => ?_,
    fun h => by have := hjl _ h; omega, hS.2.2, fun h => ?_, fun h => ?_, by omega, fun k hk => .inl hk, .inr (by omega), fun k hk => .inr hk, Only.of_below hB⟩
  · rcases hk with hk | hk
    · have := hRl k hk; omega
    · omega
  · obtain ⟨h1, h2, _⟩ := OwnI.cells ho k hk
    refine ⟨fun h => by have := hjl k h; omega, fun h => ?_, by omega, by omega, .inr (by omega)⟩
    rcases h with h | h
    · have := hRl k h; omega
    · omega
  · rcases h2 with h2 | h2
    · exact hS.2.1 k h1 h2
    · have := hjl k h1; omega
  · rcases h with h | h
    · have := hRl _ h; omega
    · omega
  · rcases h with h | h
    · exact hS.1 h
    · omega
theorem sort_nodup {l : List Int} (h : l.Nodup) : risL (l.mergeSort fun x y => decide (x ≤ y)) := by
  have h1 := sorted_ms l
  have h2 : (l.mergeSort fun x y => decide (x ≤ y)).Nodup := (List.mergeSort_perm l _).nodup_iff.2 h
  unfold risL
  exact (h1.and h2).imp fun ⟨a, b⟩ => by omega

set_option maxHeartbeats 4000000 in
set_option maxRecDepth 100000 in
theorem gEr_any (q : Nat) {R F : Nat → Prop} (w : World) (a : Option Addr) (c hb hm ab : Nat) (gh : Int → Option Hd) (vf : Value) (frm nodes : List Int) (arcs : List Arc16) (A : Int → Nat)
    (hri : risL nodes) (hN : nodes.length ≤ 30) (hA : arcs.length ≤ 60) (hBN : ∀ n ∈ nodes, I64 n) (hBF : ∀ n ∈ frm, I64 n) (hF : frm.length ≤ 30) (hvf : IntsAt w vf frm)
    (hG : GrAt R w (.slice a nodes.length c) hb hm gh nodes (hdL nodes arcs)) (hI : MapI w ab nodes.length (gA nodes A)) (hRl : ∀ k, R k → k < w.heap.size) (hRa : ¬ R ab) (hFR : ∀ k, F k → ¬ R k) (hFa : ¬ F ab) (hJ : JO q [] F w) :
    Calls Try.prog 25 #[grv a nodes.length c hb ab, vf, .func (.func 26) #[] #[.pointer (some ⟨q, 0, none⟩)]] w fun e w' => e = .returned (.tuple #[]) ∧ ∃ F' done, JO q done F' w' ∧ RchI nodes arcs frm done [] ∧ (∀ k, F' k → F k ∨ w.heap.size ≤ k) ∧ Only F w w' := by
  have hmk : ∀ w : World, (Instr.makeMap 55 none).run Try.prog w = .ok (.map (some w.heap.size)) (w.alloc (.map #[] 0)) := fun w => by kernel_rfl
  have hal := (Below.refl w.heap.size w).alloc (Nat.le_refl _) (.cells #[.slice a nodes.length c, .map (some hb), .map (some ab)] 39)
  have hX := Blk.new w [.slice a nodes.length c, .map (some hb), .map (some ab)] 39
  have hsz : (w.alloc (.cells #[.slice a nodes.length c, .map (some hb), .map (some ab)] 39)).heap.size = w.heap.size + 1 := by simp
  have hcl := cloneI_any vf frm _ (hvf.below hal) (by omega)
  rw [hsz] at hcl
  obtain ⟨i0, hi, hz0, hz1, hz2⟩ := info_parts info_int
  have CL := Lib.hid hcl
  have HAL := Lib.hid hal
  have HX := Lib.hid hX
  have HSZ := Lib.hid hsz
  have HRI := Lib.hid hri
  have HBN := Lib.hid hBN
  have HBF := Lib.hid hBF
  have HG := Lib.hid hG
  have HI := Lib.hid hI
  have HRL := Lib.hid hRl
  have HS := Lib.hid (And.intro hRa (And.intro hFR hFa))
  have HJ := Lib.hid hJ
  have HNL := Lib.hid hN
  have HAA := Lib.hid hA
  have HFL := Lib.hid hF
  obtain ⟨ax, cx, ex⟩ := hvf.form
  subst ex
  clear hal hX hsz hcl hri hBN hBF hG hI hRl hRa hFR hFa hJ hvf hN hA hF
  go_enter Try.func25, Try.ntmps25
  go_wp2
  refine wp_scope_goto 0 (fun n a' w' => ∃ (rb : Nat) (v : Value) (wait done : List Int) (F' : Nat → Prop), n = (nodes.length - done.length) * 61 + wait.length ∧
    ReSt (fun k => F k ∨ w.heap.size ≤ k) (fun k => R k ∨ k = w.heap.size) F' w w' q v wait rb ab (gA nodes A) done w.heap.size a c hb hm gh nodes (hdL nodes arcs) ∧ RchI nodes arcs frm done wait ∧ (∀ n ∈ wait, I64 n) ∧ wait.length ≤ 30 + 60 * done.length ∧
    ∃ f : Nat → Value, a' = { tmps := #[grv a nodes.length c hb ab, f 1, .func (.func 26) #[] #[.pointer (some ⟨q, 0, none⟩)], .pointer (some ⟨w.heap.size, 0, none⟩), f 4, f 5, v, .map (some rb), f 8, f 9, f 10, f 11, f 12, f 13, f 14, f 15, f 16, f 17, f 18, f 19, f 20, f 21, f 22, f 23, f 24, f 25, f 26, f 27, f 28, f 29, f 30, f 31, f 32, f 33, f 34, f 35, f 36, f 37, f 38, f 39, f 40, f 41, f 42, f 43, f 44], defers := [] }) rfl rfl ?_ ?_
  · rintro n a' w' ⟨rb, v, wait, done, F', rfl, hst, hre, hw64, hwl, f, rfl⟩ K hK
    have HK := Lib.hid hK
    have HST := Lib.hid hst
    have HRE := Lib.hid hre
    have HDL := Lib.hid hre.len
    have HWL := Lib.hid hwl
    have HW64 := Lib.hid hw64
    clear hK hst hre hwl hw64
    rcases List.eq_nil_or_concat wait with rfl | ⟨W, x, rfl⟩
    · obtain ⟨av, cv, ev⟩ := HST.out.hw.form
      subst ev
      simp only [List.length_nil]
      go_wp2
      simp only [Exit.jump]
      go_end0
      have FS := HST.out
      refine ⟨rfl, F', done, FS.hj, HRE.out, FS.xf, FS.only.os, FS.only.tape, FS.only.output, FS.only.size, fun k hk hf => FS.only.block k hk ?_⟩
      rintro (h | h)
      · exact hf h
      · omega
    · rw [List.concat_eq_append] at *
      have hlen : (W ++ [x]).length = W.length + 1 := by simp
      obtain ⟨gv, ov, cv, ev, hgv, hlc, hcell⟩ := HST.out.hw.spot csI_len W.length (by rw [hlen]; omega)
      have p0 := (hcell 0 (.int .i64 x) (by rw [List.getElem_append_right (Nat.le_refl _)]; simp [csI])).1
      rw [Nat.mul_one, Nat.add_zero] at p0
      rw [hlen] at ev hlc HWL HK
      subst ev
      have hup := upto16 (some ⟨gv, ov, none⟩) (W.length + 1) cv W.length (by omega)
      have hcut := HST.out.cut (v' := .slice (some ⟨gv, ov, none⟩) W.length cv) (wait' := W) (by
        have := OwnO.take csI_len HST.out.hw W.length (by rw [hlen]; omega)
        rwa [List.take_left' rfl] at this) rfl
      have hx64 := HW64.out x (by simp)
      have HHA := Lib.hid (gHas_any a nodes.length c hb ab nodes.length (gA nodes A) x w' HST.out.ha hx64)
      rw [gA_some] at HHA
      have g0 := HST.out.bx.cell 0 rfl
      have g1 := HST.out.bx.cell 1 rfl
      have g2 := HST.out.bx.cell 2 rfl
      have m0 : (0 : Int) ≤ (W.length : Int) := by omega
      have m1 : (W.length : Int) ≤ 3000 := by have := HWL.out; have := HDL.out; have := HNL.out; omega
      have HCUT := Lib.hid hcut
      have HX64 := Lib.hid hx64
      have HW2 : Hid (∀ n ∈ W, I64 n) := Lib.hid fun n hn => HW64.out n (List.mem_append_left _ hn)
      obtain ⟨t1, ht1⟩ : ∃ t, inL nodes x = t := ⟨_, rfl⟩
      obtain ⟨t2, ht2⟩ : ∃ t, inL done x = t := ⟨_, rfl⟩
      rw [ht1] at HHA
      have HT1 := Lib.hid ht1
      have HT2 := Lib.hid ht2
      clear hcut hx64 ht1 ht2 hcell hgv hlc HST
      cases t1
      · go_wp2_with (go_at_call 30; (with_reducible refine HHA.out.mono ?_); rintro e w1 ⟨rfl, hb1⟩; have HB1 := Lib.hid hb1; clear hb1 g0 g1 g2)
        go_step3
        exact ⟨rfl, HK.out _ _ _ (by omega) ⟨rb, _, W, done, F', rfl, HCUT.out.kept HB1.out, HRE.out.skip (.inl (inL_not.1 HT1.out)), HW2.out, by have := HWL.out; omega, gframe_ex rfl⟩⟩
      · have HLK : Hid (∀ w1, Below w'.heap.size w' w1 → (Instr.lookup 55 (.map (some rb)) (.int .i64 x) false).run Try.prog w1 = .ok (.bool t2) w1) := Lib.hid fun w1 hb => by
          have := (HCUT.out.hr.kept hb).look1 HX64.out
          rwa [(gR_get done x).1, HT2.out] at this
        cases t2
        · have hxn := inL_iff.1 HT1.out
          have hxd := inL_not.1 HT2.out
          go_upto_region 8 with (go_at_call 30; (with_reducible refine HHA.out.mono ?_); rintro e w1 ⟨rfl, hb1⟩; have HB1 := Lib.hid hb1; have lk := HLK.out w1 hb1; clear hb1 g0 g1 g2)
          have hs1 := HCUT.out.kept HB1.out
          have hd30 : done.length ≤ 30 := by have := HDL.out; have := HNL.out; omega
          obtain ⟨w2, hrun, hr2, hg2⟩ := hs1.hr.put (by omega) HX64.out true
          rw [(gR_get done x).2, HT2.out, if_neg (by simp), gR_snoc] at hr2
          have hm2 := hs1.mark hr2 hg2
          have HTE := Lib.hid (gRch1_any q done F' w2 x hm2.2.2.1 (by omega))
          have HS1 := Lib.hid hs1
          have HR2 : Hid (MapB w2 rb (done ++ [x]).length (gR (done ++ [x]))) := Lib.hid (by rw [List.length_append]; exact hr2)
          have HG2 := Lib.hid hg2
          clear hs1 hr2 hg2 hm2 lk
          go_upto_region 10 with (go_at_call 26; (with_reducible refine HTE.out.mono ?_); rintro e w3 ⟨rfl, F3, hj3, m3⟩; have HS3 := Lib.hid (HS1.out.tell HR2.out HG2.out hj3 m3); clear hj3 m3)
          have g1 := HS3.out.bx.cell 1 rfl
          obtain ⟨r, rc, hre⟩ := hat_form HS3.out.hg HX64.out
          have lk := HS3.out.hg.map.look1 HX64.out
          have hrow := HS3.out.hg.rows x HX64.out
          rw [hre] at lk hrow
          have HROW := Lib.hid hrow.rows
          have hHl := hdL_len nodes arcs x
          have hhm : ∀ m ∈ hdL nodes arcs x, I64 m := fun m hm => by obtain ⟨_, _, _, _, _, h5⟩ := hdL_mem.1 hm; exact HBN.out m h5
          have HHM := Lib.hid hhm
          have HHL : Hid ((hdL nodes arcs x).length ≤ 60) := Lib.hid (by have := HAA.out; omega)
          have HNX := Lib.hid (HRE.out.step HRI.out hxn hxd)
          have HD1 : Hid (done.length + 1 ≤ nodes.length) := Lib.hid (by have := HNX.out.len; rw [List.length_append] at this; exact this)
          clear hre hrow hHl hhm hxn hxd
          go_wp2_with (at_builtin; refine wpList_append_o rfl _ _ _ _ rfl csI_len (by decide) csI_one13 3 3 i0 (.int .i64 0) Try.underlying22 Try.underlying22 hi hz0 hz1 rfl rfl HS3.out.hw _ (hdL nodes arcs x) rfl HROW.out (by have := HHL.out; unfold maxLen; omega) (by have := HHL.out; rw [hz2]; omega) ?_; intro v' w4 h1 h2 h3; have HS4 := Lib.hid (HS3.out.app h1 h2 h3); clear h1 h2 h3 lk g1)
          go_step3
          exact ⟨rfl, HK.out _ _ _ (by have := HD1.out; have := HHL.out; simp only [List.length_append, List.length_cons, List.length_nil]; omega) ⟨rb, _, _, _, F3, rfl, HS4.out, HNX.out, (by
            intro n hn
            rcases List.mem_append.1 hn with h | h
            · exact HW2.out n h
            · exact HHM.out n h), (by have := HWL.out; have := HHL.out; simp only [List.length_append, List.length_cons, List.length_nil]; omega), gframe_ex rfl⟩⟩
        · go_wp2_with (go_at_call 30; (with_reducible refine HHA.out.mono ?_); rintro e w1 ⟨rfl, hb1⟩; have HB1 := Lib.hid hb1; have lk := HLK.out w1 hb1; clear hb1 g0 g1 g2)
          go_step3
          exact ⟨rfl, HK.out _ _ _ (by omega) ⟨rb, _, W, done, F', rfl, HCUT.out.kept HB1.out, HRE.out.skip (.inr (inL_iff.1 HT2.out)), HW2.out, by have := HWL.out; omega, gframe_ex rfl⟩⟩
  · intro K hK
    have HK := Lib.hid hK
    clear hK
    go_upto_region 2 with (go_at_call 28; (with_reducible refine CL.out.mono ?_); rintro e w1 ⟨v1, rfl, ho, hb⟩; have HO1 := Lib.hid ho; have HB1 := Lib.hid hb; clear ho hb)
    have hst := reSt_start HG.out HI.out HRL.out HS.out HJ.out HO1.out HB1.out
    have HST := Lib.hid hst
    clear hst HG HI HRL HS HJ HO1 HB1 CL HAL HX
    go_wp2
    go_step3
    rename_i hback
    refine hback _ _ ?_
    exact HK.out _ _ _ ⟨w1.heap.size, v1, frm, [], F, rfl, HST.out, RchI.start, HBF.out, by have := HFL.out; simp; omega, gframe_ex rfl⟩

set_option maxHeartbeats 2000000 in
set_option maxRecDepth 100000 in
theorem gReach_any (va vb vf : Value) (l : List Int) (arcs : List Arc16) (frm : List Int) (w : World) (ha : IntsAt w va l) (hb : ArcsAt w vb arcs) (hf : IntsAt w vf frm) (hl : l.length ≤ 30) (hal : arcs.length ≤ 60) (hfl : frm.length ≤ 30) (hB : B64 l) (hBa : B64a arcs) (hBf : B64 frm) :
    Calls Try.prog 13 #[va, vb, vf] w fun e w' => ∃ v, e = .returned v ∧ IntsAt w' v (reachL l arcs frm) ∧ Below w.heap.size w w' := by
  have hmf : ∀ (fn : Fn) (first cap : Array Value) (w : World), (Instr.makeFunc fn first cap).run Try.prog w = .ok (.func fn first cap) w := fun _ _ _ _ => rfl
  have hN : (setL l).length ≤ 30 := Nat.le_trans (setL_le l) hl
  have hBN : ∀ n ∈ setL l, I64 n := fun n hn => hB n ((setL_mem l n).1 hn)
  have GO := Lib.hid (gOf_any va vb l arcs w ha hb hl hal hB hBa)
  have HRI := Lib.hid (setL_ris l)
  have HBN := Lib.hid hBN
  have HF := Lib.hid hf
  have HDO := Lib.hid (fun done (h : RchI (setL l) arcs frm done []) => (show (done.mergeSort fun x y => decide (x ≤ y)) = reachL l arcs frm from (sort_nodup h.ti.nodup).eq (setL_ris _) fun x => by rw [List.mem_mergeSort]; exact h.done x))
  generalize reachL l arcs frm = Z at *
  generalize setL l = N at *
  obtain ⟨af, cf, ef⟩ := hf.form
  subst ef
  clear ha hb hf hB hBa hBN
  go_enter Try.func13, Try.ntmps13
  go_upto_region 3 with (go_at_call 19; (with_reducible refine GO.out.mono ?_); rintro e w1 ⟨a, c, mb, ab, hm, gh, rfl, hab, hG, hI, hb1⟩; have HAB := Lib.hid hab; have HG := Lib.hid hG; have HI := Lib.hid hI; have HB1 := Lib.hid hb1; clear hab hG hI hb1)
  have b1 := (Below.refl w1.heap.size w1).alloc (Nat.le_refl _) (.cells #[.slice a N.length c, .map (some mb), .map (some ab)] 39)
  have hX := Blk.new w1 [.slice a N.length c, .map (some mb), .map (some ab)] 39
  have hz : (w1.alloc (.cells #[.slice a N.length c, .map (some mb), .map (some ab)] 39)).heap.size = w1.heap.size + 1 := by simp
  have b2 := (Below.refl _ (w1.alloc (.cells #[.slice a N.length c, .map (some mb), .map (some ab)] 39))).alloc (Nat.le_refl _) (.cells #[.slice none 0 0] 22)
  have hq := heap_alloc_new (w1.alloc (.cells #[.slice a N.length c, .map (some mb), .map (some ab)] 39)) (.cells #[.slice none 0 0] 22)
  rw [hz] at hq
  have hx2 := hX.kept b2
  have hB := b1.trans (b2.mono b1.size)
  generalize (w1.alloc (.cells #[.slice a N.length c, .map (some mb), .map (some ab)] 39)).alloc (.cells #[.slice none 0 0] 22) = w2 at *
  have hJ : JO (w1.heap.size + 1) [] (fun k => k = w1.heap.size + 1) w2 := ⟨_, hq, OwnR.nil _ _ _ _ _, fun k => by simp [Value.ownBlock]⟩
  have hba := HI.out.lt
  have hw1 := HB1.out.size
  have hE := gEr_any (w1.heap.size + 1) w2 a c mb hm ab gh _ frm N arcs _ HRI.out hN hal HBN.out hBf hfl (HF.out.below (HB1.out.trans (hB.mono hw1))) (HG.out.kept hB) (HI.out.kept hB)
    (fun k hk => Nat.lt_of_lt_of_le hk.2.1 hB.size) (fun h => h.2.2 rfl) (fun k hk hr => by have := hr.2.1; omega) (fun h => by omega) hJ
  have HE := Lib.hid hE
  have g0 := hx2.cell 0 rfl
  have g1 := hx2.cell 1 rfl
  have g2 := hx2.cell 2 rfl
  have HBB := Lib.hid (HB1.out.trans (hB.mono hw1))
  have HBA := Lib.hid (And.intro hba hw1)
  clear hE hx2 hB hJ hba b1 b2 hz hq hX hw1 GO hBf
  go_upto_region 4 with (go_at_call 25; (with_reducible refine HE.out.mono ?_); rintro e w3 ⟨rfl, F', done, ⟨v, hj1, hj2, hj3⟩, hre, hf, ho⟩; have HJ1 := Lib.hid hj1; have HJ2 := Lib.hid hj2; have HO3 := Lib.hid ho; have HRE := Lib.hid hre; have HFF := Lib.hid (fun k (hk : v.ownBlock = some k) => hf k ((hj3 k).2 (.inr hk))); clear hj1 hj2 hj3 hf ho hre g0 g1 g2)
  have hdl := HRE.out.len
  obtain ⟨av, cv, ev⟩ := (OwnI.ints HJ2.out).form
  subst ev
  have hB3 : Below w.heap.size w w3 := HBB.out.trans (HO3.out.below (fun k hk => by have := HBA.out; omega) HBB.out.size)
  have hs := sortI_any w3 0 _ done HJ2.out (by omega)
  rw [HDO.out done HRE.out] at hs
  have hne := jo_ne HJ1.out HJ2.out
  have c0 : w3.cell? ⟨w1.heap.size + 1, 0, none⟩ = some (.slice av done.length cv) := by simp [World.cell?, HJ1.out]
  have hz2 := HBB.out.size
  have hown : ∀ k, (Value.slice av done.length cv).ownBlock = some k → w.heap.size ≤ k := fun k hk => by
    rcases HFF.out k hk with h | h
    · have := HBA.out; omega
    · omega
  have HSO := Lib.hid hs
  have HNE := Lib.hid hne
  have HOWN := Lib.hid hown
  have HB3 := Lib.hid hB3
  clear hs hne hown hB3 hz2 hdl HFF HE
  go_wp2_with (go_at_call 27; (with_reducible refine HSO.out.mono ?_); rintro e w4 ⟨rfl, h4, o4, _⟩; have hc := (o4.block _ (lt_of_block HJ1.out) HNE.out).trans HJ1.out; have c4 : w4.cell? ⟨w1.heap.size + 1, 0, none⟩ = some (.slice av done.length cv) := (by simp [World.cell?, hc]); have H4 := Lib.hid h4; have O4 := Lib.hid o4; clear h4 o4 hc c0)
  go_ret
  exact ⟨_, rfl, H4.out, HB3.out.trans (O4.out.below HOWN.out HB3.out.size)⟩

theorem gProg : GraphProg where
  order := gOrder_any
  left := gLeft_any
  reach := gReach_any
  levels := gLevels_any
end Go.Proofs.Ytnfdhlkngjplkaa
