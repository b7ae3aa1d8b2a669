/- Stage 16's program: eachFree, once for each function that is told (by wip/tools/gen_greach.py). -/
import Derived.Test.YtnfdhlkngjplkaaGrC
import Derived.Test.YtnfdhlkngjplkaaLabels
import Derived.Lib.MinMax
namespace Go.Proofs.Ytnfdhlkngjplkaa
open Go.RowKit

theorem gframe_ex {A : Act} {F : (Nat → Value) → Act} (h : A = F (fun i => A.tmps.getD i undef)) : ∃ f, A = F f := ⟨_, h⟩
theorem frT_nil {nodes : List Int} {A : Int → Nat} {told : List Int} (h : frL nodes A told = []) : frT nodes A told = [] := by unfold frT; rw [h]; rfl
theorem frT_cons {nodes : List Int} {A : Int → Nat} {told : List Int} {x : Int} {t : List Int} (h : frL nodes A told = x :: t) : frsT (frT nodes A told) = (x, true) := by unfold frT; rw [h]; rfl
theorem lvJ_bd {H : List Int} {lx : Int} {j : Nat} {old : Int → Int} {b : Int} (h1 : ∀ n, 0 ≤ old n ∧ old n ≤ b) (h2 : 0 ≤ lx ∧ lx ≤ b) (n : Int) : 0 ≤ lvJ H lx j old n ∧ lvJ H lx j old n ≤ b + 1 := by
  have := h1 n
  unfold lvJ
  split <;> omega
theorem frSt_start {J : List Int → (Nat → Prop) → World → Prop} (T : TellJ J) {R F Fh : Nat → Prop} {w w1 : World} {p : Nat} {ab am : Nat} {ga : Int → Option Int} {a : Option Addr} {c hb hm : Nat} {gh : Int → Option Hd} {nodes : List Int} {H : Int → List Int}
    (hG : GrAt R w (.slice a nodes.length c) hb hm gh nodes H) (hI : MapI w ab am ga) (hRl : ∀ k, R k → k < w.heap.size) (hS : ¬ R ab ∧ (∀ k, F k → ¬ R k) ∧ ¬ F ab) (hJ : J [] F w)
    (hF : ∀ k, Fh k → w.heap.size + 1 ≤ k) (hh : HeapAt Fh w1 p []) (hb1 : Below (w.heap.size + 1) (w.alloc (.cells #[.slice a nodes.length c, .map (some hb), .map (some ab)] 39)) w1) :
    FrSt J (fun k => F k ∨ k = ab ∨ w.heap.size ≤ k) (fun k => R k ∨ k = w.heap.size) F Fh w (w1.alloc (.map #[] 0)) p [] w1.heap.size 0 (fun _ => none) ab am ga [] w.heap.size a c hb hm gh nodes H := by
  have hal := (Below.refl w.heap.size w).alloc (Nat.le_refl _) (.cells #[.slice a nodes.length c, .map (some hb), .map (some ab)] 39)
  have hX := Blk.new w [.slice a nodes.length c, .map (some hb), .map (some ab)] 39
  have hsz : (w.alloc (.cells #[.slice a nodes.length c, .map (some hb), .map (some ab)] 39)).heap.size = w.heap.size + 1 := by simp
  have hz1 : w.heap.size + 1 ≤ w1.heap.size := by have := hb1.size; rwa [hsz] at this
  have hb2 := (Below.refl w1.heap.size w1).alloc (Nat.le_refl _) (.map #[] 0)
  have hz2 : (w1.alloc (.map #[] 0)).heap.size = w1.heap.size + 1 := by simp
  have hB : Below w.heap.size w (w1.alloc (.map #[] 0)) := (hal.trans (hb1.mono (by omega))).trans (hb2.mono (by omega))
  have hal2 := hI.lt
  have hjl := T.lt hJ
  refine ⟨hh.kept hb2, MapI.new w1, hI.kept hB, T.out hJ hB.size fun k hk => hB.block k (hjl k hk), (hG.kept hB).mono fun k hk => .inl hk, (hX.kept (by rw [hsz]; exact hb1)).kept hb2, .inr rfl, fun k hk => by have := hjl k hk; omega, fun k hk => ?_, fun k h1 h2 => by have := hF k h1; have := hjl k h2; omega,
    fun k h1 h2 => ?_, fun h1 => by have := hh.lt _ h1; omega, fun h1 => by have := hF _ h1; omega, fun k h1 h2 => ?_, fun h1 => by have := hjl _ h1; omega, hS.2.2, fun h1 => ?_, fun h1 => ?_, by omega, fun k hk => .inl hk, fun k hk => .inr (.inr (by have := hF k hk; omega)), .inr (.inr (by omega)), .inr (.inl rfl), fun k hk => .inr (.inr hk), Only.of_below hB⟩
  · rcases hk with hk | hk
    · have := hRl k hk; omega
    · omega
  · have := hF k h1
    rcases h2 with h2 | h2
    · have := hRl k h2; omega
    · omega
  · rcases h2 with h2 | h2
    · exact hS.2.1 k h1 h2
    · have := hjl k h1; omega
  · rcases h1 with h1 | h1
    · have := hRl _ h1; omega
    · omega
  · rcases h1 with h1 | h1
    · exact hS.1 h1
    · omega
theorem hat_form {R : Nat → Prop} {w : World} {vn : Value} {hb hm : Nat} {gh : Int → Option Hd} {nodes : List Int} {H : Int → List Int} (h : GrAt R w vn hb hm gh nodes H) {n : Int} (hn : I64 n) : ∃ r c, hat gh n = .slice r (H n).length c := (h.rows n hn).form

set_option maxHeartbeats 4000000 in
set_option maxRecDepth 100000 in
theorem gEach_O (q : Value) {J : List Int → (Nat → Prop) → World → Prop} (T : TellJ J) {R F : Nat → Prop} (w : World) (a : Option Addr) (c hb hm ab : Nat) (gh : Int → Option Hd) (nodes : List Int) (arcs : List Arc16)
    (hri : risL nodes) (hN : nodes.length ≤ 30) (hA : arcs.length ≤ 60) (hBN : ∀ n ∈ nodes, I64 n)
    (hG : GrAt R w (.slice a nodes.length c) hb hm gh nodes (hdL nodes arcs)) (hI : MapI w ab nodes.length (gA nodes (awL nodes arcs []))) (hRl : ∀ k, R k → k < w.heap.size) (hRa : ¬ R ab) (hFR : ∀ k, F k → ¬ R k) (hFa : ¬ F ab) (hJ : J [] F w)
    (hT : ∀ t F' w' x, J t F' w' → x ∈ nodes → x ∉ t → t.length ≤ 30 → Calls Try.prog 21 #[.int .i64 x, .int .i64 (lvG arcs t x), q] w' fun e w'' => e = .returned (.tuple #[]) ∧ ∃ F'', J (t ++ [x]) F'' w'' ∧ Mv F' F'' w' w'') :
    Calls Try.prog 20 #[grv a nodes.length c hb ab, .func (.func 21) #[] #[q]] w fun e w' => e = .returned (.tuple #[]) ∧ ∃ F', J (ordG nodes arcs nodes.length []) F' w' ∧ (∀ k, F' k → F k ∨ w.heap.size ≤ k) ∧ Only (fun k => F k ∨ k = ab) w w' := by
  have hmk2 : ∀ w : World, (Instr.makeMap 37 none).run Try.prog w = .ok (.map (some w.heap.size)) (w.alloc (.map #[] 0)) := fun w => by kernel_rfl
  have hal := (Below.refl w.heap.size w).alloc (Nat.le_refl _) (.cells #[.slice a nodes.length c, .map (some hb), .map (some ab)] 39)
  have hX := Blk.new w [.slice a nodes.length c, .map (some hb), .map (some ab)] 39
  obtain ⟨O, hO⟩ : ∃ O, ordG nodes arcs nodes.length [] = O := ⟨_, rfl⟩
  rw [hO]
  have NW := Lib.hid fun w => hNew_any w
  have HT := Lib.hid hT
  have HO := Lib.hid hO
  have HAL := Lib.hid hal
  have HXB := Lib.hid hX
  have HRI := Lib.hid hri
  have HBN := Lib.hid hBN
  have HG := Lib.hid hG
  have HI := Lib.hid hI
  have HRL := Lib.hid hRl
  have HS := Lib.hid (And.intro hRa (And.intro hFR hFa))
  have HJ := Lib.hid hJ
  have HNL := Lib.hid hN
  have HAA := Lib.hid hA
  clear hT hO hal hX hri hBN hG hI hRl hRa hFR hFa hJ hN hA
  go_enter Try.func20, Try.ntmps20
  go_wp2
  refine wp_scope_goto 0 (fun n a' w' => ∃ (p lb lm : Nat) (gl : Int → Option Int) (F' Fh : Nat → Prop) (told : List Int), n = nodes.length - told.length ∧
    FrSt J (fun k => F k ∨ k = ab ∨ w.heap.size ≤ k) (fun k => R k ∨ k = w.heap.size) F' Fh w w' p (frT nodes (awL nodes arcs told) told) lb lm gl ab nodes.length (gA nodes (awL nodes arcs told)) told w.heap.size a c hb hm gh nodes (hdL nodes arcs) ∧
    OrdI nodes arcs told ∧ (∀ n ∈ nodes, (gl n).getD 0 = lvG arcs told n) ∧ lm ≤ told.length * 60 ∧ ordG nodes arcs n told = O ∧ ∃ f : Nat → Value, a' = { tmps := #[grv a nodes.length c hb ab, .func (.func 21) #[] #[q], .pointer (some ⟨w.heap.size, 0, none⟩), f 3, ptr13 p, .map (some lb), f 6, f 7, f 8, f 9, f 10, f 11, f 12, f 13, f 14, f 15, f 16, f 17, f 18, f 19, f 20, f 21, f 22, f 23, f 24, f 25, f 26, f 27, f 28, f 29, f 30, f 31, f 32, f 33, f 34, f 35, f 36, f 37, f 38, f 39, f 40, f 41, f 42, f 43, f 44, f 45, f 46, f 47, f 48, f 49, f 50, f 51, f 52, f 53, f 54, f 55, f 56, f 57, f 58, f 59, f 60, f 61, f 62, f 63, f 64, f 65, f 66], defers := [] }) rfl rfl ?_ ?_
  · rintro n a' w' ⟨p, lb, lm, gl, F', Fh, told, rfl, hst, hord, hlv, hlm, hog, f, rfl⟩ K hK
    have HK := Lib.hid hK
    have HST := Lib.hid hst
    have HORD := Lib.hid hord
    have HLV := Lib.hid hlv
    have HOG := Lib.hid hog
    have hTL := hord.ti.len
    have hPop := hPop_any w' hst.hh (by have := frT_len nodes (awL nodes arcs told) told; have := HNL.out; omega)
    clear hK hst hord hlv hog
    cases hfr : frL nodes (awL nodes arcs told) told with
    | nil =>
      have he := fr_none hfr (nodes.length - told.length)
      rw [frT_nil hfr] at hPop
      simp only [frsT] at hPop
      have HP := Lib.hid hPop
      have HE := Lib.hid he
      clear hPop he hfr hTL hlm
      go_wp2_with (go_at_call 33; (with_reducible refine HP.out.mono ?_); rintro e w1 ⟨rfl, Fh1, h1, m1⟩)
      have FS := HST.out.heap T h1 m1
      simp only [Exit.jump]
      go_end0
      refine ⟨rfl, F', ?_, fun k hk => ?_, FS.only.os, FS.only.tape, FS.only.output, FS.only.size, fun k hk hf => FS.only.block k hk ?_⟩
      · have hj := FS.hj
        rwa [← HE.out, HOG.out] at hj
      · rcases FS.xf k hk with h | h | h
        · exact .inl h
        · exact absurd (h ▸ hk) FS.d7
        · exact .inr h
      · rintro (h | h | h)
        · exact hf (.inl h)
        · exact hf (.inr h)
        · omega
    | cons x t =>
      obtain ⟨hstep, hxn, hxb, hxt⟩ := fr_head hfr (nodes.length - (told.length + 1))
      have hlt := HORD.out.ti.lt hxn hxb
      have hpop := frT_pop HRI.out hfr
      rw [frT_cons hfr, hpop] at hPop
      simp only at hPop
      have hx64 := HBN.out x hxn
      have hhx : x ∉ hdL nodes arcs x := fun hm => head_new HORD.out hxn hxb hm (by simp)
      have hlx := lvG_bd arcs told x
      have HT1 := Lib.hid fun w1 (hj : J told F' w1) => HT.out told F' w1 x hj hxn hxt (by have := HNL.out; omega)
      have HLX := Lib.hid (HLV.out x hxn)
      have hO2 := HOG.out
      rw [show nodes.length - told.length = nodes.length - (told.length + 1) + 1 by omega, hstep] at hO2
      have HO2 := Lib.hid hO2
      have hnext := HORD.out.next hxn hxb
      have HNX := Lib.hid hnext
      have HP := Lib.hid hPop
      have HXT := Lib.hid hxt
      have HXN := Lib.hid hxn
      have HXBB := Lib.hid hxb
      have HHX := Lib.hid hhx
      have HLT := Lib.hid hlt
      have hgs := fun n hn => lvG_step arcs told hxn (n := n) hn
      have HGS := Lib.hid hgs
      have hlvb := fun n => lvG_bd arcs told n
      have HLB := Lib.hid hlvb
      obtain ⟨lx, hlxe⟩ : ∃ lx, lvG arcs told x = lx := ⟨_, rfl⟩
      rw [hlxe] at HT1 HLX hlx HGS
      have HX64 := Lib.hid hx64
      clear hstep hxn hxb hxt hpop hPop hhx hO2 hnext hgs hlvb hlxe hfr hx64
      have hTL30 : told.length ≤ 29 := by have := HNL.out; omega
      go_upto_region 10 with (go_at_call 33; (with_reducible refine HP.out.mono ?_); rintro e w1 ⟨rfl, Fh1, h1, m1⟩; have FS1 := Lib.hid (HST.out.heap T h1 m1); clear h1 m1)
      have lk := FS1.out.hl.look1 HX64.out
      rw [HLX.out] at lk
      go_upto_region 11 with (go_at_call 21; (with_reducible refine (HT1.out _ FS1.out.hj).mono ?_); rintro e w2 ⟨rfl, F2, j2, m2⟩; have FS2 := Lib.hid (FS1.out.tell T j2 m2); clear j2 m2 lk)
      have g1 := FS2.out.bx.cell 1 rfl
      obtain ⟨r, rc, hre⟩ := hat_form FS2.out.hg HX64.out
      have lk := FS2.out.hg.map.look1 HX64.out
      rw [hre] at lk
      have HRE := Lib.hid hre
      have hHl := hdL_len nodes arcs x
      have hHm : ∀ j (h : j < (hdL nodes arcs x).length), (hdL nodes arcs x)[j] ∈ nodes ∧ (hdL nodes arcs x)[j] ≠ x ∧ (hdL nodes arcs x)[j] ∉ told ++ [x] := fun j h => by
        have hm := List.getElem_mem h
        obtain ⟨_, _, _, _, _, h5⟩ := hdL_mem.1 hm
        exact ⟨h5, fun e => HHX.out (by rw [e] at hm; exact hm), head_new HORD.out HXN.out HXBB.out hm⟩
      have HHM := Lib.hid hHm
      have HHL := Lib.hid hHl
      clear hre hHm hHl
      go_wp2
      clear lk g1
      go_loopw [43] (fun i wr => ∃ (j lm' : Nat) (gl' : Int → Option Int) (Fh' : Nat → Prop), j ≤ (hdL nodes arcs x).length ∧ i = .int .i64 j ∧
        FrSt J (fun k => F k ∨ k = ab ∨ w.heap.size ≤ k) (fun k => R k ∨ k = w.heap.size) F2 Fh' w wr p (frT nodes (awJ nodes arcs told x j) (told ++ [x])) lb lm' gl' ab nodes.length (gA nodes (awJ nodes arcs told x j)) (told ++ [x]) w.heap.size a c hb hm gh nodes (hdL nodes arcs) ∧
        (∀ n ∈ nodes, (gl' n).getD 0 = lvJ (hdL nodes arcs x) lx j (lvG arcs told) n) ∧ lm' ≤ told.length * 60 + j) (fun i _ => (hdL nodes arcs x).length - (intOf i).toNat)
      case atStart => exact ⟨0, lm, gl, Fh1, Nat.zero_le _, rfl, by rw [awJ_zero]; exact FS2.out, fun n hn => by rw [lvJ_zero]; exact HLV.out n hn, hlm⟩
      case round =>
        obtain ⟨j, lm', gl', Fh', hj, rfl, hst, hlv, hlm'⟩ := hrel
        have HSR := Lib.hid hst
        have HLR := Lib.hid hlv
        by_cases hjl : j < (hdL nodes arcs x).length
        · obtain ⟨gr, go, gc, e, hcc, _, p0⟩ := IntsAt.spot (HSR.out.hg.rows x HX64.out) j hjl
          rw [HRE.out] at e
          cases e
          obtain ⟨hhn, hhx, hht⟩ := HHM.out j hjl
          have hh64 := HBN.out _ hhn
          have hnl := fun n => lvJ_next (lx := lx) (old := lvG arcs told) hjl n
          have hna := fun n => awJ_next (nodes := nodes) (arcs := arcs) (told := told) (x := x) hjl n
          have hpo := awJ_pos (nodes := nodes) (arcs := arcs) HXT.out hjl
          have hdn := fun A' hA => frT_down HRI.out (A := awJ nodes arcs told x j) (A' := A') hhn hA hpo hht
          have hxj : x ∉ (hdL nodes arcs x).take j := fun hm => HHX.out (List.mem_of_mem_take hm)
          have hlxv : lvJ (hdL nodes arcs x) lx j (lvG arcs told) x = lvG arcs told x := by unfold lvJ; rw [if_neg hxj]
          have hbd := fun n => lvJ_bd (H := hdL nodes arcs x) (lx := lx) (j := j) (old := lvG arcs told) (b := told.length) HLB.out hlx n
          have hbj := hbd ((hdL nodes arcs x)[j])
          have hl1 := HLR.out _ hhn
          have hl2 := HLR.out x HXN.out
          rw [hlxv] at hl2
          have hlxe : lvG arcs told x = lx := by
            have h1 := HLV.out x HXN.out
            rw [HLX.out] at h1
            exact h1.symm
          rw [hlxe] at hl2
          have k1 := HSR.out.hl.look1 hh64
          have k2 := HSR.out.hl.look1 HX64.out
          rw [hl1] at k1
          rw [hl2] at k2
          have hjl60 : (hdL nodes arcs x).length ≤ 60 := by have := HHL.out; have := HAA.out; omega
          generalize (hdL nodes arcs x)[j]'hjl = h at *
          obtain ⟨y, hy⟩ : ∃ y, lvJ (hdL nodes arcs x) lx j (lvG arcs told) h = y := ⟨_, rfl⟩
          rw [hy] at k1 hbj
          obtain ⟨mx, hmx⟩ : ∃ mx, max y (lx + 1) = mx := ⟨_, rfl⟩
          have hmxb : 0 ≤ mx ∧ mx ≤ 31 := by omega
          obtain ⟨wa, hrun1, ha1, ga1⟩ := HSR.out.hl.put (by omega) hh64 mx (by unfold I64; omega)
          have FSa := HSR.out.lev T ha1 ga1
          have k3 := FSa.ha.look1 hh64
          rw [gA_getD hhn] at k3
          obtain ⟨v, hv⟩ : ∃ v, awJ nodes arcs told x j h = v := ⟨_, rfl⟩
          rw [hv] at k3 hpo
          have hv60 : v ≤ 60 := by
            rw [← hv]
            have h1 := awL_len nodes arcs told h
            have h2 : awJ nodes arcs told x j h ≤ awL nodes arcs told h := Nat.sub_le _ _
            have := HAA.out
            omega
          obtain ⟨wb, hrun2, ha2, ga2⟩ := FSa.ha.put (by have := HNL.out; omega) hh64 ((v : Int) - 1) (by unfold I64; omega)
          have hA' : ∀ n, awJ nodes arcs told x (j + 1) n = if n = h then awJ nodes arcs told x j n - 1 else awJ nodes arcs told x j n := hna
          rw [if_pos (by rw [gA_some]; exact inL_iff.2 hhn), show ((v : Int) - 1) = ((v - 1 : Nat) : Int) by omega, gA_upd (A' := awJ nodes arcs told x (j + 1)) hhn (fun n => by
            rw [hA']
            by_cases e : n = h
            · rw [if_pos e, if_pos e, e, hv]
            · rw [if_neg e, if_neg e])] at ha2
          have FSb := FSa.awa T ha2 ga2
          have hv2 : awJ nodes arcs told x (j + 1) h = v - 1 := by rw [hA', if_pos rfl, hv]
          have hPif := gPif_any a nodes.length c hb ab nodes.length _ h ((v - 1 : Nat) : Int) wb FSb.ha FSb.hh (by have := frT_len nodes (awJ nodes arcs told x j) (told ++ [x]); have := HNL.out; omega) hh64 (by rw [gA_getD hhn, hv2])
          have hdown := hdn _ hA'
          rw [hv2] at hdown
          have e0 : (if ((v - 1 : Nat) : Int) = 0 then putT (frT nodes (awJ nodes arcs told x j) (told ++ [x])) (th0 h) else frT nodes (awJ nodes arcs told x j) (told ++ [x])) = frT nodes (awJ nodes arcs told x (j + 1)) (told ++ [x]) := by
            rw [hdown]
            by_cases e : v - 1 = 0
            · rw [if_pos e, if_pos (by omega)]
            · rw [if_neg e, if_neg (by omega)]
          rw [e0] at hPif
          have hnewl : ∀ n ∈ nodes, ((updG gl' h (some mx)) n).getD 0 = lvJ (hdL nodes arcs x) lx (j + 1) (lvG arcs told) n := fun n hn => by
            unfold updG
            rw [hnl]
            by_cases e : n = h
            · rw [if_pos e, if_pos e, e, hy, hmx]; rfl
            · rw [if_neg e, if_neg e]; exact HLR.out n hn
          have b0 := HSR.out.bx.cell 0 rfl
          have b2 := FSa.bx.cell 2 rfl
          have c0 := FSb.bx.cell 0 rfl
          have c1 := FSb.bx.cell 1 rfl
          have c2 := FSb.bx.cell 2 rfl
          have j0 : (0 : Int) ≤ (j : Int) := by omega
          have j1 : (j : Int) < ((hdL nodes arcs x).length : Int) := by omega
          have j2 : (j : Int) ≤ 60 := by omega
          have v0 : (1 : Int) ≤ (v : Int) := by omega
          have v1 : (v : Int) ≤ 60 := by omega
          have l0 : 0 ≤ lx := hlx.1
          have l1 : lx ≤ 30 := by omega
          have HPF := Lib.hid hPif
          have HNEW := Lib.hid hnewl
          have HLM : Hid ((if (gl' h).isSome then lm' else lm' + 1) ≤ told.length * 60 + (j + 1)) := Lib.hid (by split <;> omega)
          have HFB := Lib.hid FSb
          have HJL := Lib.hid hjl
          have y0 := hbj.1
          have y1 : y ≤ 31 := by omega
          have hbb : (((v - 1 : Nat) : Int)) = (v : Int) - 1 := by omega
          have HHN := Lib.hid hhn
          clear hst hlv hlm' hhn hhx hht hh64 hnl hna hpo hdn hxj hlxv hbd hbj hl1 hl2 hlxe hy hmxb FSa ha1 ga1 hv hv60 ha2 ga2 hA' FSb hv2 hPif hdown e0 hnewl hlm hbb hjl hjl60 hj b0
          go_wp2_with (go_at_call 32; (with_reducible refine HPF.out.mono ?_); rintro e wc ⟨rfl, Fh3, h3, m3⟩; have HF3 := Lib.hid (HFB.out.heap T h3 m3); clear h3 m3)
          go_roundw
          case rel => exact ⟨j + 1, _, _, Fh3, HJL.out, by go_num, HF3.out, HNEW.out, HLM.out⟩
          case measure => have := HJL.out; simp [intOf]; omega
        · have hje : j = (hdL nodes arcs x).length := by omega
          subst hje
          rw [awJ_all HXT.out] at HSR
          have hnl : ∀ n ∈ nodes, (gl' n).getD 0 = lvG arcs (told ++ [x]) n := fun n hn => by rw [HLR.out n hn]; exact (HGS.out n hn).symm
          have hfin := HK.out (nodes.length - (told.length + 1)) 
          have HFI := Lib.hid hfin
          have HNL2 := Lib.hid hnl
          have HLM2 : Hid (lm' ≤ (told ++ [x]).length * 60) := Lib.hid (by rw [List.length_append]; have := HHL.out; have := HAA.out; simp; omega)
          have HEQ : Hid (nodes.length - (told.length + 1) = nodes.length - (told ++ [x]).length) := Lib.hid (by rw [List.length_append]; rfl)
          have HLT2 : Hid (nodes.length - (told.length + 1) < nodes.length - told.length) := Lib.hid (by have := HLT.out; omega)
          clear hst hlv hlm' hj hjl hnl hfin hlm
          go_wp2
          go_step3
          exact ⟨rfl, HFI.out _ _ HLT2.out ⟨p, lb, lm', gl', F2, Fh', told ++ [x], HEQ.out, HSR.out, HNX.out, HNL2.out, HLM2.out, HO2.out, gframe_ex rfl⟩⟩
  · intro K hK
    have HK := Lib.hid hK
    clear hK
    go_upto_region 3 with (go_at_call 31; (with_reducible refine (NW.out _).mono ?_); rintro e w1 ⟨p, Fh, rfl, hF, hh, hb1⟩)
    rw [show (w.alloc (.cells #[.slice a nodes.length c, .map (some hb), .map (some ab)] 39)).heap.size = w.heap.size + 1 by simp] at hF hb1
    have hst := frSt_start T HG.out HI.out HRL.out HS.out HJ.out hF hh hb1
    generalize w1.alloc (.map #[] 0) = w2 at *
    generalize w1.heap.size = lb at *
    have HST := Lib.hid hst
    have g0 := hst.bx.cell 0 rfl
    clear hst hF hh hb1 NW HT HXB HAL HG HI HRL HS HJ
    go_wp2
    clear g0
    go_loopw [17] (fun i wr => ∃ (k : Nat) (Fh' : Nat → Prop), k ≤ nodes.length ∧ i = .int .i64 k ∧
      FrSt J (fun k => F k ∨ k = ab ∨ w.heap.size ≤ k) (fun k => R k ∨ k = w.heap.size) F Fh' w wr p (frT (nodes.take k) (awL nodes arcs []) []) lb 0 (fun _ => none) ab nodes.length (gA nodes (awL nodes arcs [])) [] w.heap.size a c hb hm gh nodes (hdL nodes arcs)) (fun i _ => nodes.length - (intOf i).toNat)
    case atStart => exact ⟨0, Fh, Nat.zero_le _, rfl, HST.out⟩
    case round =>
      obtain ⟨k, Fh', hk, rfl, hst⟩ := hrel
      have HSR := Lib.hid hst
      by_cases hlt : k < nodes.length
      · obtain ⟨gr, go, gc, e, hcc, _, p0⟩ := HSR.out.hg.row.spot k hlt
        cases e
        have hx64 := HBN.out _ (List.getElem_mem hlt)
        have hput := frT_put HRI.out (awL nodes arcs []) k hlt
        have hskip := frT_skip (awL nodes arcs []) k hlt
        obtain ⟨v, hv⟩ : ∃ v, awL nodes arcs [] nodes[k] = v := ⟨_, rfl⟩
        have hPif := gPif_any (some ⟨gr, go, none⟩) nodes.length c hb ab nodes.length _ nodes[k] (v : Int) wr HSR.out.ha HSR.out.hh (by have := frT_len (nodes.take k) (awL nodes arcs []) []; rw [List.length_take] at this; have := HNL.out; omega) hx64 (by rw [gA_getD (List.getElem_mem hlt), hv])
        rw [hv] at hput hskip
        have e0 : (if (v : Int) = 0 then putT (frT (nodes.take k) (awL nodes arcs []) []) (th0 nodes[k]) else frT (nodes.take k) (awL nodes arcs []) []) = frT (nodes.take (k + 1)) (awL nodes arcs []) [] := by
          by_cases e : v = 0
          · rw [if_pos (by omega), hput e]
          · rw [if_neg (by omega), hskip e]
        rw [e0] at hPif
        have c0 := HSR.out.bx.cell 0 rfl
        have c1 := HSR.out.bx.cell 1 rfl
        have c2 := HSR.out.bx.cell 2 rfl
        have j0 : (0 : Int) ≤ (k : Int) := by omega
        have j1 : (k : Int) < (nodes.length : Int) := by omega
        have j2 : (k : Int) ≤ 30 := by have := HNL.out; omega
        generalize nodes[k]'hlt = x at *
        have HPF := Lib.hid hPif
        clear hput hskip hPif e0 hv hst hx64
        go_wp2_with (go_at_call 32; (with_reducible refine HPF.out.mono ?_); rintro e wc ⟨rfl, Fh3, h3, m3⟩; have HF3 := Lib.hid (HSR.out.heap T h3 m3); clear h3 m3)
        go_roundw
        case rel => exact ⟨k + 1, Fh3, by omega, by go_num, HF3.out⟩
        case measure => simp [intOf]; omega
      · have hke : k = nodes.length := by omega
        subst hke
        rw [List.take_length] at HSR
        clear hst hk hlt
        go_wp2
        go_step3
        rename_i hback
        refine hback _ _ ?_
        exact HK.out _ _ _ ⟨p, lb, 0, fun _ => none, F, Fh', [], rfl, HSR.out, OrdI.nil _ _, fun n _ => (lvG_nil arcs n).symm ▸ rfl, Nat.zero_le _, HO.out, gframe_ex rfl⟩

set_option maxHeartbeats 4000000 in
set_option maxRecDepth 100000 in
theorem gEach_L (q : Value) {J : List Int → (Nat → Prop) → World → Prop} (T : TellJ J) {R F : Nat → Prop} (w : World) (a : Option Addr) (c hb hm ab : Nat) (gh : Int → Option Hd) (nodes : List Int) (arcs : List Arc16)
    (hri : risL nodes) (hN : nodes.length ≤ 30) (hA : arcs.length ≤ 60) (hBN : ∀ n ∈ nodes, I64 n)
    (hG : GrAt R w (.slice a nodes.length c) hb hm gh nodes (hdL nodes arcs)) (hI : MapI w ab nodes.length (gA nodes (awL nodes arcs []))) (hRl : ∀ k, R k → k < w.heap.size) (hRa : ¬ R ab) (hFR : ∀ k, F k → ¬ R k) (hFa : ¬ F ab) (hJ : J [] F w)
    (hT : ∀ t F' w' x, J t F' w' → x ∈ nodes → x ∉ t → t.length ≤ 30 → Calls Try.prog 34 #[.int .i64 x, .int .i64 (lvG arcs t x), q] w' fun e w'' => e = .returned (.tuple #[]) ∧ ∃ F'', J (t ++ [x]) F'' w'' ∧ Mv F' F'' w' w'') :
    Calls Try.prog 20 #[grv a nodes.length c hb ab, .func (.func 34) #[] #[q]] w fun e w' => e = .returned (.tuple #[]) ∧ ∃ F', J (ordG nodes arcs nodes.length []) F' w' ∧ (∀ k, F' k → F k ∨ w.heap.size ≤ k) ∧ Only (fun k => F k ∨ k = ab) w w' := by
  have hmk2 : ∀ w : World, (Instr.makeMap 37 none).run Try.prog w = .ok (.map (some w.heap.size)) (w.alloc (.map #[] 0)) := fun w => by kernel_rfl
  have hal := (Below.refl w.heap.size w).alloc (Nat.le_refl _) (.cells #[.slice a nodes.length c, .map (some hb), .map (some ab)] 39)
  have hX := Blk.new w [.slice a nodes.length c, .map (some hb), .map (some ab)] 39
  obtain ⟨O, hO⟩ : ∃ O, ordG nodes arcs nodes.length [] = O := ⟨_, rfl⟩
  rw [hO]
  have NW := Lib.hid fun w => hNew_any w
  have HT := Lib.hid hT
  have HO := Lib.hid hO
  have HAL := Lib.hid hal
  have HXB := Lib.hid hX
  have HRI := Lib.hid hri
  have HBN := Lib.hid hBN
  have HG := Lib.hid hG
  have HI := Lib.hid hI
  have HRL := Lib.hid hRl
  have HS := Lib.hid (And.intro hRa (And.intro hFR hFa))
  have HJ := Lib.hid hJ
  have HNL := Lib.hid hN
  have HAA := Lib.hid hA
  clear hT hO hal hX hri hBN hG hI hRl hRa hFR hFa hJ hN hA
  go_enter Try.func20, Try.ntmps20
  go_wp2
  refine wp_scope_goto 0 (fun n a' w' => ∃ (p lb lm : Nat) (gl : Int → Option Int) (F' Fh : Nat → Prop) (told : List Int), n = nodes.length - told.length ∧
    FrSt J (fun k => F k ∨ k = ab ∨ w.heap.size ≤ k) (fun k => R k ∨ k = w.heap.size) F' Fh w w' p (frT nodes (awL nodes arcs told) told) lb lm gl ab nodes.length (gA nodes (awL nodes arcs told)) told w.heap.size a c hb hm gh nodes (hdL nodes arcs) ∧
    OrdI nodes arcs told ∧ (∀ n ∈ nodes, (gl n).getD 0 = lvG arcs told n) ∧ lm ≤ told.length * 60 ∧ ordG nodes arcs n told = O ∧ ∃ f : Nat → Value, a' = { tmps := #[grv a nodes.length c hb ab, .func (.func 34) #[] #[q], .pointer (some ⟨w.heap.size, 0, none⟩), f 3, ptr13 p, .map (some lb), f 6, f 7, f 8, f 9, f 10, f 11, f 12, f 13, f 14, f 15, f 16, f 17, f 18, f 19, f 20, f 21, f 22, f 23, f 24, f 25, f 26, f 27, f 28, f 29, f 30, f 31, f 32, f 33, f 34, f 35, f 36, f 37, f 38, f 39, f 40, f 41, f 42, f 43, f 44, f 45, f 46, f 47, f 48, f 49, f 50, f 51, f 52, f 53, f 54, f 55, f 56, f 57, f 58, f 59, f 60, f 61, f 62, f 63, f 64, f 65, f 66], defers := [] }) rfl rfl ?_ ?_
  · rintro n a' w' ⟨p, lb, lm, gl, F', Fh, told, rfl, hst, hord, hlv, hlm, hog, f, rfl⟩ K hK
    have HK := Lib.hid hK
    have HST := Lib.hid hst
    have HORD := Lib.hid hord
    have HLV := Lib.hid hlv
    have HOG := Lib.hid hog
    have hTL := hord.ti.len
    have hPop := hPop_any w' hst.hh (by have := frT_len nodes (awL nodes arcs told) told; have := HNL.out; omega)
    clear hK hst hord hlv hog
    cases hfr : frL nodes (awL nodes arcs told) told with
    | nil =>
      have he := fr_none hfr (nodes.length - told.length)
      rw [frT_nil hfr] at hPop
      simp only [frsT] at hPop
      have HP := Lib.hid hPop
      have HE := Lib.hid he
      clear hPop he hfr hTL hlm
      go_wp2_with (go_at_call 33; (with_reducible refine HP.out.mono ?_); rintro e w1 ⟨rfl, Fh1, h1, m1⟩)
      have FS := HST.out.heap T h1 m1
      simp only [Exit.jump]
      go_end0
      refine ⟨rfl, F', ?_, fun k hk => ?_, FS.only.os, FS.only.tape, FS.only.output, FS.only.size, fun k hk hf => FS.only.block k hk ?_⟩
      · have hj := FS.hj
        rwa [← HE.out, HOG.out] at hj
      · rcases FS.xf k hk with h | h | h
        · exact .inl h
        · exact absurd (h ▸ hk) FS.d7
        · exact .inr h
      · rintro (h | h | h)
        · exact hf (.inl h)
        · exact hf (.inr h)
        · omega
    | cons x t =>
      obtain ⟨hstep, hxn, hxb, hxt⟩ := fr_head hfr (nodes.length - (told.length + 1))
      have hlt := HORD.out.ti.lt hxn hxb
      have hpop := frT_pop HRI.out hfr
      rw [frT_cons hfr, hpop] at hPop
      simp only at hPop
      have hx64 := HBN.out x hxn
      have hhx : x ∉ hdL nodes arcs x := fun hm => head_new HORD.out hxn hxb hm (by simp)
      have hlx := lvG_bd arcs told x
      have HT1 := Lib.hid fun w1 (hj : J told F' w1) => HT.out told F' w1 x hj hxn hxt (by have := HNL.out; omega)
      have HLX := Lib.hid (HLV.out x hxn)
      have hO2 := HOG.out
      rw [show nodes.length - told.length = nodes.length - (told.length + 1) + 1 by omega, hstep] at hO2
      have HO2 := Lib.hid hO2
      have hnext := HORD.out.next hxn hxb
      have HNX := Lib.hid hnext
      have HP := Lib.hid hPop
      have HXT := Lib.hid hxt
      have HXN := Lib.hid hxn
      have HXBB := Lib.hid hxb
      have HHX := Lib.hid hhx
      have HLT := Lib.hid hlt
      have hgs := fun n hn => lvG_step arcs told hxn (n := n) hn
      have HGS := Lib.hid hgs
      have hlvb := fun n => lvG_bd arcs told n
      have HLB := Lib.hid hlvb
      obtain ⟨lx, hlxe⟩ : ∃ lx, lvG arcs told x = lx := ⟨_, rfl⟩
      rw [hlxe] at HT1 HLX hlx HGS
      have HX64 := Lib.hid hx64
      clear hstep hxn hxb hxt hpop hPop hhx hO2 hnext hgs hlvb hlxe hfr hx64
      have hTL30 : told.length ≤ 29 := by have := HNL.out; omega
      go_upto_region 10 with (go_at_call 33; (with_reducible refine HP.out.mono ?_); rintro e w1 ⟨rfl, Fh1, h1, m1⟩; have FS1 := Lib.hid (HST.out.heap T h1 m1); clear h1 m1)
      have lk := FS1.out.hl.look1 HX64.out
      rw [HLX.out] at lk
      go_upto_region 11 with (go_at_call 34; (with_reducible refine (HT1.out _ FS1.out.hj).mono ?_); rintro e w2 ⟨rfl, F2, j2, m2⟩; have FS2 := Lib.hid (FS1.out.tell T j2 m2); clear j2 m2 lk)
      have g1 := FS2.out.bx.cell 1 rfl
      obtain ⟨r, rc, hre⟩ := hat_form FS2.out.hg HX64.out
      have lk := FS2.out.hg.map.look1 HX64.out
      rw [hre] at lk
      have HRE := Lib.hid hre
      have hHl := hdL_len nodes arcs x
      have hHm : ∀ j (h : j < (hdL nodes arcs x).length), (hdL nodes arcs x)[j] ∈ nodes ∧ (hdL nodes arcs x)[j] ≠ x ∧ (hdL nodes arcs x)[j] ∉ told ++ [x] := fun j h => by
        have hm := List.getElem_mem h
        obtain ⟨_, _, _, _, _, h5⟩ := hdL_mem.1 hm
        exact ⟨h5, fun e => HHX.out (by rw [e] at hm; exact hm), head_new HORD.out HXN.out HXBB.out hm⟩
      have HHM := Lib.hid hHm
      have HHL := Lib.hid hHl
      clear hre hHm hHl
      go_wp2
      clear lk g1
      go_loopw [43] (fun i wr => ∃ (j lm' : Nat) (gl' : Int → Option Int) (Fh' : Nat → Prop), j ≤ (hdL nodes arcs x).length ∧ i = .int .i64 j ∧
        FrSt J (fun k => F k ∨ k = ab ∨ w.heap.size ≤ k) (fun k => R k ∨ k = w.heap.size) F2 Fh' w wr p (frT nodes (awJ nodes arcs told x j) (told ++ [x])) lb lm' gl' ab nodes.length (gA nodes (awJ nodes arcs told x j)) (told ++ [x]) w.heap.size a c hb hm gh nodes (hdL nodes arcs) ∧
        (∀ n ∈ nodes, (gl' n).getD 0 = lvJ (hdL nodes arcs x) lx j (lvG arcs told) n) ∧ lm' ≤ told.length * 60 + j) (fun i _ => (hdL nodes arcs x).length - (intOf i).toNat)
      case atStart => exact ⟨0, lm, gl, Fh1, Nat.zero_le _, rfl, by rw [awJ_zero]; exact FS2.out, fun n hn => by rw [lvJ_zero]; exact HLV.out n hn, hlm⟩
      case round =>
        obtain ⟨j, lm', gl', Fh', hj, rfl, hst, hlv, hlm'⟩ := hrel
        have HSR := Lib.hid hst
        have HLR := Lib.hid hlv
        by_cases hjl : j < (hdL nodes arcs x).length
        · obtain ⟨gr, go, gc, e, hcc, _, p0⟩ := IntsAt.spot (HSR.out.hg.rows x HX64.out) j hjl
          rw [HRE.out] at e
          cases e
          obtain ⟨hhn, hhx, hht⟩ := HHM.out j hjl
          have hh64 := HBN.out _ hhn
          have hnl := fun n => lvJ_next (lx := lx) (old := lvG arcs told) hjl n
          have hna := fun n => awJ_next (nodes := nodes) (arcs := arcs) (told := told) (x := x) hjl n
          have hpo := awJ_pos (nodes := nodes) (arcs := arcs) HXT.out hjl
          have hdn := fun A' hA => frT_down HRI.out (A := awJ nodes arcs told x j) (A' := A') hhn hA hpo hht
          have hxj : x ∉ (hdL nodes arcs x).take j := fun hm => HHX.out (List.mem_of_mem_take hm)
          have hlxv : lvJ (hdL nodes arcs x) lx j (lvG arcs told) x = lvG arcs told x := by unfold lvJ; rw [if_neg hxj]
          have hbd := fun n => lvJ_bd (H := hdL nodes arcs x) (lx := lx) (j := j) (old := lvG arcs told) (b := told.length) HLB.out hlx n
          have hbj := hbd ((hdL nodes arcs x)[j])
          have hl1 := HLR.out _ hhn
          have hl2 := HLR.out x HXN.out
          rw [hlxv] at hl2
          have hlxe : lvG arcs told x = lx := by
            have h1 := HLV.out x HXN.out
            rw [HLX.out] at h1
            exact h1.symm
          rw [hlxe] at hl2
          have k1 := HSR.out.hl.look1 hh64
          have k2 := HSR.out.hl.look1 HX64.out
          rw [hl1] at k1
          rw [hl2] at k2
          have hjl60 : (hdL nodes arcs x).length ≤ 60 := by have := HHL.out; have := HAA.out; omega
          generalize (hdL nodes arcs x)[j]'hjl = h at *
          obtain ⟨y, hy⟩ : ∃ y, lvJ (hdL nodes arcs x) lx j (lvG arcs told) h = y := ⟨_, rfl⟩
          rw [hy] at k1 hbj
          obtain ⟨mx, hmx⟩ : ∃ mx, max y (lx + 1) = mx := ⟨_, rfl⟩
          have hmxb : 0 ≤ mx ∧ mx ≤ 31 := by omega
          obtain ⟨wa, hrun1, ha1, ga1⟩ := HSR.out.hl.put (by omega) hh64 mx (by unfold I64; omega)
          have FSa := HSR.out.lev T ha1 ga1
          have k3 := FSa.ha.look1 hh64
          rw [gA_getD hhn] at k3
          obtain ⟨v, hv⟩ : ∃ v, awJ nodes arcs told x j h = v := ⟨_, rfl⟩
          rw [hv] at k3 hpo
          have hv60 : v ≤ 60 := by
            rw [← hv]
            have h1 := awL_len nodes arcs told h
            have h2 : awJ nodes arcs told x j h ≤ awL nodes arcs told h := Nat.sub_le _ _
            have := HAA.out
            omega
          obtain ⟨wb, hrun2, ha2, ga2⟩ := FSa.ha.put (by have := HNL.out; omega) hh64 ((v : Int) - 1) (by unfold I64; omega)
          have hA' : ∀ n, awJ nodes arcs told x (j + 1) n = if n = h then awJ nodes arcs told x j n - 1 else awJ nodes arcs told x j n := hna
          rw [if_pos (by rw [gA_some]; exact inL_iff.2 hhn), show ((v : Int) - 1) = ((v - 1 : Nat) : Int) by omega, gA_upd (A' := awJ nodes arcs told x (j + 1)) hhn (fun n => by
            rw [hA']
            by_cases e : n = h
            · rw [if_pos e, if_pos e, e, hv]
            · rw [if_neg e, if_neg e])] at ha2
          have FSb := FSa.awa T ha2 ga2
          have hv2 : awJ nodes arcs told x (j + 1) h = v - 1 := by rw [hA', if_pos rfl, hv]
          have hPif := gPif_any a nodes.length c hb ab nodes.length _ h ((v - 1 : Nat) : Int) wb FSb.ha FSb.hh (by have := frT_len nodes (awJ nodes arcs told x j) (told ++ [x]); have := HNL.out; omega) hh64 (by rw [gA_getD hhn, hv2])
          have hdown := hdn _ hA'
          rw [hv2] at hdown
          have e0 : (if ((v - 1 : Nat) : Int) = 0 then putT (frT nodes (awJ nodes arcs told x j) (told ++ [x])) (th0 h) else frT nodes (awJ nodes arcs told x j) (told ++ [x])) = frT nodes (awJ nodes arcs told x (j + 1)) (told ++ [x]) := by
            rw [hdown]
            by_cases e : v - 1 = 0
            · rw [if_pos e, if_pos (by omega)]
            · rw [if_neg e, if_neg (by omega)]
          rw [e0] at hPif
          have hnewl : ∀ n ∈ nodes, ((updG gl' h (some mx)) n).getD 0 = lvJ (hdL nodes arcs x) lx (j + 1) (lvG arcs told) n := fun n hn => by
            unfold updG
            rw [hnl]
            by_cases e : n = h
            · rw [if_pos e, if_pos e, e, hy, hmx]; rfl
            · rw [if_neg e, if_neg e]; exact HLR.out n hn
          have b0 := HSR.out.bx.cell 0 rfl
          have b2 := FSa.bx.cell 2 rfl
          have c0 := FSb.bx.cell 0 rfl
          have c1 := FSb.bx.cell 1 rfl
          have c2 := FSb.bx.cell 2 rfl
          have j0 : (0 : Int) ≤ (j : Int) := by omega
          have j1 : (j : Int) < ((hdL nodes arcs x).length : Int) := by omega
          have j2 : (j : Int) ≤ 60 := by omega
          have v0 : (1 : Int) ≤ (v : Int) := by omega
          have v1 : (v : Int) ≤ 60 := by omega
          have l0 : 0 ≤ lx := hlx.1
          have l1 : lx ≤ 30 := by omega
          have HPF := Lib.hid hPif
          have HNEW := Lib.hid hnewl
          have HLM : Hid ((if (gl' h).isSome then lm' else lm' + 1) ≤ told.length * 60 + (j + 1)) := Lib.hid (by split <;> omega)
          have HFB := Lib.hid FSb
          have HJL := Lib.hid hjl
          have y0 := hbj.1
          have y1 : y ≤ 31 := by omega
          have hbb : (((v - 1 : Nat) : Int)) = (v : Int) - 1 := by omega
          have HHN := Lib.hid hhn
          clear hst hlv hlm' hhn hhx hht hh64 hnl hna hpo hdn hxj hlxv hbd hbj hl1 hl2 hlxe hy hmxb FSa ha1 ga1 hv hv60 ha2 ga2 hA' FSb hv2 hPif hdown e0 hnewl hlm hbb hjl hjl60 hj b0
          go_wp2_with (go_at_call 32; (with_reducible refine HPF.out.mono ?_); rintro e wc ⟨rfl, Fh3, h3, m3⟩; have HF3 := Lib.hid (HFB.out.heap T h3 m3); clear h3 m3)
          go_roundw
          case rel => exact ⟨j + 1, _, _, Fh3, HJL.out, by go_num, HF3.out, HNEW.out, HLM.out⟩
          case measure => have := HJL.out; simp [intOf]; omega
        · have hje : j = (hdL nodes arcs x).length := by omega
          subst hje
          rw [awJ_all HXT.out] at HSR
          have hnl : ∀ n ∈ nodes, (gl' n).getD 0 = lvG arcs (told ++ [x]) n := fun n hn => by rw [HLR.out n hn]; exact (HGS.out n hn).symm
          have hfin := HK.out (nodes.length - (told.length + 1)) 
          have HFI := Lib.hid hfin
          have HNL2 := Lib.hid hnl
          have HLM2 : Hid (lm' ≤ (told ++ [x]).length * 60) := Lib.hid (by rw [List.length_append]; have := HHL.out; have := HAA.out; simp; omega)
          have HEQ : Hid (nodes.length - (told.length + 1) = nodes.length - (told ++ [x]).length) := Lib.hid (by rw [List.length_append]; rfl)
          have HLT2 : Hid (nodes.length - (told.length + 1) < nodes.length - told.length) := Lib.hid (by have := HLT.out; omega)
          clear hst hlv hlm' hj hjl hnl hfin hlm
          go_wp2
          go_step3
          exact ⟨rfl, HFI.out _ _ HLT2.out ⟨p, lb, lm', gl', F2, Fh', told ++ [x], HEQ.out, HSR.out, HNX.out, HNL2.out, HLM2.out, HO2.out, gframe_ex rfl⟩⟩
  · intro K hK
    have HK := Lib.hid hK
    clear hK
    go_upto_region 3 with (go_at_call 31; (with_reducible refine (NW.out _).mono ?_); rintro e w1 ⟨p, Fh, rfl, hF, hh, hb1⟩)
    rw [show (w.alloc (.cells #[.slice a nodes.length c, .map (some hb), .map (some ab)] 39)).heap.size = w.heap.size + 1 by simp] at hF hb1
    have hst := frSt_start T HG.out HI.out HRL.out HS.out HJ.out hF hh hb1
    generalize w1.alloc (.map #[] 0) = w2 at *
    generalize w1.heap.size = lb at *
    have HST := Lib.hid hst
    have g0 := hst.bx.cell 0 rfl
    clear hst hF hh hb1 NW HT HXB HAL HG HI HRL HS HJ
    go_wp2
    clear g0
    go_loopw [17] (fun i wr => ∃ (k : Nat) (Fh' : Nat → Prop), k ≤ nodes.length ∧ i = .int .i64 k ∧
      FrSt J (fun k => F k ∨ k = ab ∨ w.heap.size ≤ k) (fun k => R k ∨ k = w.heap.size) F Fh' w wr p (frT (nodes.take k) (awL nodes arcs []) []) lb 0 (fun _ => none) ab nodes.length (gA nodes (awL nodes arcs [])) [] w.heap.size a c hb hm gh nodes (hdL nodes arcs)) (fun i _ => nodes.length - (intOf i).toNat)
    case atStart => exact ⟨0, Fh, Nat.zero_le _, rfl, HST.out⟩
    case round =>
      obtain ⟨k, Fh', hk, rfl, hst⟩ := hrel
      have HSR := Lib.hid hst
      by_cases hlt : k < nodes.length
      · obtain ⟨gr, go, gc, e, hcc, _, p0⟩ := HSR.out.hg.row.spot k hlt
        cases e
        have hx64 := HBN.out _ (List.getElem_mem hlt)
        have hput := frT_put HRI.out (awL nodes arcs []) k hlt
        have hskip := frT_skip (awL nodes arcs []) k hlt
        obtain ⟨v, hv⟩ : ∃ v, awL nodes arcs [] nodes[k] = v := ⟨_, rfl⟩
        have hPif := gPif_any (some ⟨gr, go, none⟩) nodes.length c hb ab nodes.length _ nodes[k] (v : Int) wr HSR.out.ha HSR.out.hh (by have := frT_len (nodes.take k) (awL nodes arcs []) []; rw [List.length_take] at this; have := HNL.out; omega) hx64 (by rw [gA_getD (List.getElem_mem hlt), hv])
        rw [hv] at hput hskip
        have e0 : (if (v : Int) = 0 then putT (frT (nodes.take k) (awL nodes arcs []) []) (th0 nodes[k]) else frT (nodes.take k) (awL nodes arcs []) []) = frT (nodes.take (k + 1)) (awL nodes arcs []) [] := by
          by_cases e : v = 0
          · rw [if_pos (by omega), hput e]
          · rw [if_neg (by omega), hskip e]
        rw [e0] at hPif
        have c0 := HSR.out.bx.cell 0 rfl
        have c1 := HSR.out.bx.cell 1 rfl
        have c2 := HSR.out.bx.cell 2 rfl
        have j0 : (0 : Int) ≤ (k : Int) := by omega
        have j1 : (k : Int) < (nodes.length : Int) := by omega
        have j2 : (k : Int) ≤ 30 := by have := HNL.out; omega
        generalize nodes[k]'hlt = x at *
        have HPF := Lib.hid hPif
        clear hput hskip hPif e0 hv hst hx64
        go_wp2_with (go_at_call 32; (with_reducible refine HPF.out.mono ?_); rintro e wc ⟨rfl, Fh3, h3, m3⟩; have HF3 := Lib.hid (HSR.out.heap T h3 m3); clear h3 m3)
        go_roundw
        case rel => exact ⟨k + 1, Fh3, by omega, by go_num, HF3.out⟩
        case measure => simp [intOf]; omega
      · have hke : k = nodes.length := by omega
        subst hke
        rw [List.take_length] at HSR
        clear hst hk hlt
        go_wp2
        go_step3
        rename_i hback
        refine hback _ _ ?_
        exact HK.out _ _ _ ⟨p, lb, 0, fun _ => none, F, Fh', [], rfl, HSR.out, OrdI.nil _ _, fun n _ => (lvG_nil arcs n).symm ▸ rfl, Nat.zero_le _, HO.out, gframe_ex rfl⟩
end Go.Proofs.Ytnfdhlkngjplkaa
