/- Texts of this proof, joined: GrD; GrE; GraphRefB; GraphRefC; IntsPut; GraphRefD; GraphLaw; GrF. -/
import Derived.Test.YthchkhgimnchcaaGreatBun19
import Derived.Lib.MinMax
import Derived.Laws.MakeOwn
import Derived.Laws.OwnMore
import Derived.Deep.DeepCutAuto
/- Stage 16's program: eachFree, once for each function that is told (by wip/tools/gen_greach.py). -/
namespace Go.Proofs.YthchkhgimnchcaaGreat
open Go.RowKit

theorem gframe_ex {A : Act} {F : (Nat → Value) → Act} (h : A = F (fun i => A.tmps.getD i undef)) : ∃ f, A = F f := ⟨_, h⟩
theorem frT_nil {nodes : List Int} {A : Int → Nat} {told : List Int} (h : frL nodes A told = []) : frT nodes A told = [] := by unfold frT; rw [h]; rfl
theorem frT_cons {nodes : List Int} {A : Int → Nat} {told : List Int} {x : Int} {t : List Int} (h : frL nodes A told = x :: t) : frsT (frT nodes A told) = (x, true) := by unfold frT; rw [h]; rfl
theorem lvJ_bd {H : List Int} {lx : Int} {j : Nat} {old : Int → Int} {b : Int} (h1 : ∀ n, 0 ≤ old n ∧ old n ≤ b) (h2 : 0 ≤ lx ∧ lx ≤ b) (n : Int) : 0 ≤ lvJ H lx j old n ∧ lvJ H lx j old n ≤ b + 1 := by
  have := h1 n
  unfold lvJ
  split <;> omega
theorem frSt_start {J : List Int → (Nat → Prop) → World → Prop} (T : TellJ J) {R F Fh : Nat → Prop} {w w1 : World} {p : Nat} {ab am : Nat} {ga : Int → Option Int} {a : Option Addr} {c hb hm : Nat} {gh : Int → Option Hd} {nodes : List Int} {H : Int → List Int}
    (hG : GrAt R w (.slice a nodes.length c) hb hm gh nodes H) (hI : MapI w ab am ga) (hRl : ∀ k, R k → k < w.heap.size) (hS : ¬ R ab ∧ (∀ k, F k → ¬ R k) ∧ ¬ F ab) (hJ : J [] F w)
    (hF : ∀ k, Fh k → w.heap.size + 1 ≤ k) (hh : HeapAt Fh w1 p []) (hb1 : Below (w.heap.size + 1) (w.alloc (.cells #[.slice a nodes.length c, .map (some hb), .map (some ab)] 133)) w1) :
    FrSt J (fun k => F k ∨ k = ab ∨ w.heap.size ≤ k) (fun k => R k ∨ k = w.heap.size) F Fh w (w1.alloc (.map #[] 0)) p [] w1.heap.size 0 (fun _ => none) ab am ga [] w.heap.size a c hb hm gh nodes H := by
  have hal := (Below.refl w.heap.size w).alloc (Nat.le_refl _) (.cells #[.slice a nodes.length c, .map (some hb), .map (some ab)] 133)
  have hX := Blk.new w [.slice a nodes.length c, .map (some hb), .map (some ab)] 133
  have hsz : (w.alloc (.cells #[.slice a nodes.length c, .map (some hb), .map (some ab)] 133)).heap.size = w.heap.size + 1 := by simp
  have hz1 : w.heap.size + 1 ≤ w1.heap.size := by have := hb1.size; rwa [hsz] at this
  have hb2 := (Below.refl w1.heap.size w1).alloc (Nat.le_refl _) (.map #[] 0)
  have hz2 : (w1.alloc (.map #[] 0)).heap.size = w1.heap.size + 1 := by simp
  have hB : Below w.heap.size w (w1.alloc (.map #[] 0)) := (hal.trans (hb1.mono (by omega))).trans (hb2.mono (by omega))
  have hal2 := hI.lt
  have hjl := T.lt hJ
  refine ⟨hh.kept hb2, MapI.new w1, hI.kept hB, T.out hJ hB.size fun k hk => hB.block k (hjl k hk), (hG.kept hB).mono fun k hk => .inl hk, (hX.kept (by rw [hsz]; exact hb1)).kept hb2, .inr rfl, fun k hk => by have := hjl k hk; omega, fun k hk => ?_, fun k h1 h2 => by have := hF k h1; have := hjl k h2; omega,
    fun k h1 h2 => ?_, fun h1 => by have := hh.lt _ h1; omega, fun h1 => by have := hF _ h1; omega, fun k h1 h2 => ?_, fun h1 => by have := hjl _ h1; omega, hS.2.2, fun h1 => ?_, fun h1 => ?_, by omega, fun k hk => .inl hk, fun k hk => .inr (.inr (by have := hF k hk; omega)), .inr (.inr (by omega)), .inr (.inl rfl), fun k hk => .inr (.inr hk), Only.of_below hB⟩
  · rcases hk with hk | hk
    · have := hRl k hk; omega
    · omega
  · have := hF k h1
    rcases h2 with h2 | h2
    · have := hRl k h2; omega
    · omega
  · rcases h2 with h2 | h2
    · exact hS.2.1 k h1 h2
    · have := hjl k h1; omega
  · rcases h1 with h1 | h1
    · have := hRl _ h1; omega
    · omega
  · rcases h1 with h1 | h1
    · exact hS.1 h1
    · omega
theorem hat_form {R : Nat → Prop} {w : World} {vn : Value} {hb hm : Nat} {gh : Int → Option Hd} {nodes : List Int} {H : Int → List Int} (h : GrAt R w vn hb hm gh nodes H) {n : Int} (hn : I64 n) : ∃ r c, hat gh n = .slice r (H n).length c := (h.rows n hn).form

set_option maxHeartbeats 4000000 in
set_option maxRecDepth 100000 in
theorem gEach_O (q : Value) {J : List Int → (Nat → Prop) → World → Prop} (T : TellJ J) {R F : Nat → Prop} (w : World) (a : Option Addr) (c hb hm ab : Nat) (gh : Int → Option Hd) (nodes : List Int) (arcs : List Arc16)
    (hri : risL nodes) (hN : nodes.length ≤ 640) (hA : arcs.length ≤ 640) (hBN : ∀ n ∈ nodes, I64 n)
    (hG : GrAt R w (.slice a nodes.length c) hb hm gh nodes (hdsL nodes arcs)) (hI : MapI w ab nodes.length (gA nodes (awL nodes arcs []))) (hRl : ∀ k, R k → k < w.heap.size) (hRa : ¬ R ab) (hFR : ∀ k, F k → ¬ R k) (hFa : ¬ F ab) (hJ : J [] F w)
    (hT : ∀ t F' w' x, J t F' w' → x ∈ nodes → x ∉ t → t.length ≤ 640 → Calls Tryz.prog 100 #[.int .i64 x, .int .i64 (lvG arcs t x), q] w' fun e w'' => e = .returned (.tuple #[]) ∧ ∃ F'', J (t ++ [x]) F'' w'' ∧ Mv F' F'' w' w'') :
    Calls Tryz.prog 99 #[grv a nodes.length c hb ab, .func (.func 100) #[] #[q]] w fun e w' => e = .returned (.tuple #[]) ∧ ∃ F', J (ordG nodes arcs nodes.length []) F' w' ∧ (∀ k, F' k → F k ∨ w.heap.size ≤ k) ∧ Only (fun k => F k ∨ k = ab) w w' := by
  have hmk2 : ∀ w : World, (Instr.makeMap 91 none).run Tryz.prog w = .ok (.map (some w.heap.size)) (w.alloc (.map #[] 0)) := fun w => by kernel_rfl
  have hal := (Below.refl w.heap.size w).alloc (Nat.le_refl _) (.cells #[.slice a nodes.length c, .map (some hb), .map (some ab)] 133)
  have hX := Blk.new w [.slice a nodes.length c, .map (some hb), .map (some ab)] 133
  obtain ⟨O, hO⟩ : ∃ O, ordG nodes arcs nodes.length [] = O := ⟨_, rfl⟩
  rw [hO]
  have NW := Lib.hid fun w => hNew_any w
  have HT := Lib.hid hT
  have HO := Lib.hid hO
  have HAL := Lib.hid hal
  have HXB := Lib.hid hX
  have HRI := Lib.hid hri
  have HBN := Lib.hid hBN
  have HG := Lib.hid hG
  have HI := Lib.hid hI
  have HRL := Lib.hid hRl
  have HS := Lib.hid (And.intro hRa (And.intro hFR hFa))
  have HJ := Lib.hid hJ
  have HNL := Lib.hid hN
  have HAA := Lib.hid hA
  clear hT hO hal hX hri hBN hG hI hRl hRa hFR hFa hJ hN hA
  go_enter Tryz.func99, Tryz.ntmps99
  go_wp2
  refine wp_scope_goto 0 (fun n a' w' => ∃ (p lb lm : Nat) (gl : Int → Option Int) (F' Fh : Nat → Prop) (told : List Int), n = nodes.length - told.length ∧
    FrSt J (fun k => F k ∨ k = ab ∨ w.heap.size ≤ k) (fun k => R k ∨ k = w.heap.size) F' Fh w w' p (frT nodes (awL nodes arcs told) told) lb lm gl ab nodes.length (gA nodes (awL nodes arcs told)) told w.heap.size a c hb hm gh nodes (hdsL nodes arcs) ∧
    OrdI nodes arcs told ∧ (∀ n ∈ nodes, (gl n).getD 0 = lvG arcs told n) ∧ lm ≤ told.length * 640 ∧ ordG nodes arcs n told = O ∧ ∃ f : Nat → Value, a' = { tmps := #[grv a nodes.length c hb ab, .func (.func 100) #[] #[q], .pointer (some ⟨w.heap.size, 0, none⟩), f 3, ptr13 p, .map (some lb), f 6, f 7, f 8, f 9, f 10, f 11, f 12, f 13, f 14, f 15, f 16, f 17, f 18, f 19, f 20, f 21, f 22, f 23, f 24, f 25, f 26, f 27, f 28, f 29, f 30, f 31, f 32, f 33, f 34, f 35, f 36, f 37, f 38, f 39, f 40, f 41, f 42, f 43, f 44, f 45, f 46, f 47, f 48, f 49, f 50, f 51, f 52, f 53, f 54, f 55, f 56, f 57, f 58, f 59, f 60, f 61, f 62, f 63, f 64, f 65, f 66], defers := [] }) rfl rfl ?_ ?_
  · rintro n a' w' ⟨p, lb, lm, gl, F', Fh, told, rfl, hst, hord, hlv, hlm, hog, f, rfl⟩ K hK
    have HK := Lib.hid hK
    have HST := Lib.hid hst
    have HORD := Lib.hid hord
    have HLV := Lib.hid hlv
    have HOG := Lib.hid hog
    have hTL := hord.ti.len
    have hPop := hPop_any w' hst.hh (by have := frT_len nodes (awL nodes arcs told) told; have := HNL.out; omega)
    clear hK hst hord hlv hog
    cases hfr : frL nodes (awL nodes arcs told) told with
    | nil =>
      have he := fr_none hfr (nodes.length - told.length)
      rw [frT_nil hfr] at hPop
      simp only [frsT] at hPop
      have HP := Lib.hid hPop
      have HE := Lib.hid he
      clear hPop he hfr hTL hlm
      go_wp2_with (go_at_call 109; (with_reducible refine HP.out.mono ?_); rintro e w1 ⟨rfl, Fh1, h1, m1⟩)
      have FS := HST.out.heap T h1 m1
      simp only [Exit.jump]
      go_end0
      refine ⟨rfl, F', ?_, fun k hk => ?_, FS.only.os, FS.only.tape, FS.only.output, FS.only.size, fun k hk hf => FS.only.block k hk ?_⟩
      · have hj := FS.hj
        rwa [← HE.out, HOG.out] at hj
      · rcases FS.xf k hk with h | h | h
        · exact .inl h
        · exact absurd (h ▸ hk) FS.d7
        · exact .inr h
      · rintro (h | h | h)
        · exact hf (.inl h)
        · exact hf (.inr h)
        · omega
    | cons x t =>
      obtain ⟨hstep, hxn, hxb, hxt⟩ := fr_head hfr (nodes.length - (told.length + 1))
      have hlt := HORD.out.ti.lt hxn hxb
      have hpop := frT_pop HRI.out hfr
      rw [frT_cons hfr, hpop] at hPop
      simp only at hPop
      have hx64 := HBN.out x hxn
      have hhx : x ∉ hdsL nodes arcs x := fun hm => head_new HORD.out hxn hxb hm (by simp)
      have hlx := lvG_bd arcs told x
      have HT1 := Lib.hid fun w1 (hj : J told F' w1) => HT.out told F' w1 x hj hxn hxt (by have := HNL.out; omega)
      have HLX := Lib.hid (HLV.out x hxn)
      have hO2 := HOG.out
      rw [show nodes.length - told.length = nodes.length - (told.length + 1) + 1 by omega, hstep] at hO2
      have HO2 := Lib.hid hO2
      have hnext := HORD.out.next hxn hxb
      have HNX := Lib.hid hnext
      have HP := Lib.hid hPop
      have HXT := Lib.hid hxt
      have HXN := Lib.hid hxn
      have HXBB := Lib.hid hxb
      have HHX := Lib.hid hhx
      have HLT := Lib.hid hlt
      have hgs := fun n hn => lvG_step arcs told hxn (n := n) hn
      have HGS := Lib.hid hgs
      have hlvb := fun n => lvG_bd arcs told n
      have HLB := Lib.hid hlvb
      obtain ⟨lx, hlxe⟩ : ∃ lx, lvG arcs told x = lx := ⟨_, rfl⟩
      rw [hlxe] at HT1 HLX hlx HGS
      have HX64 := Lib.hid hx64
      clear hstep hxn hxb hxt hpop hPop hhx hO2 hnext hgs hlvb hlxe hfr hx64
      have hTL30 : told.length ≤ 639 := by have := HNL.out; omega
      go_upto_region 10 with (go_at_call 109; (with_reducible refine HP.out.mono ?_); rintro e w1 ⟨rfl, Fh1, h1, m1⟩; have FS1 := Lib.hid (HST.out.heap T h1 m1); clear h1 m1)
      have lk := FS1.out.hl.look1 HX64.out
      rw [HLX.out] at lk
      go_upto_region 11 with (go_at_call 100; (with_reducible refine (HT1.out _ FS1.out.hj).mono ?_); rintro e w2 ⟨rfl, F2, j2, m2⟩; have FS2 := Lib.hid (FS1.out.tell T j2 m2); clear j2 m2 lk)
      have g1 := FS2.out.bx.cell 1 rfl
      obtain ⟨r, rc, hre⟩ := hat_form FS2.out.hg HX64.out
      have lk := FS2.out.hg.map.look1 HX64.out
      rw [hre] at lk
      have HRE := Lib.hid hre
      have hHl := hdL_len nodes arcs x
      have hHm : ∀ j (h : j < (hdsL nodes arcs x).length), (hdsL nodes arcs x)[j] ∈ nodes ∧ (hdsL nodes arcs x)[j] ≠ x ∧ (hdsL nodes arcs x)[j] ∉ told ++ [x] := fun j h => by
        have hm := List.getElem_mem h
        obtain ⟨_, _, _, _, _, h5⟩ := hdL_mem.1 hm
        exact ⟨h5, fun e => HHX.out (by rw [e] at hm; exact hm), head_new HORD.out HXN.out HXBB.out hm⟩
      have HHM := Lib.hid hHm
      have HHL := Lib.hid hHl
      clear hre hHm hHl
      go_wp2
      clear lk g1
      go_loopw [43] (fun i wr => ∃ (j lm' : Nat) (gl' : Int → Option Int) (Fh' : Nat → Prop), j ≤ (hdsL nodes arcs x).length ∧ i = .int .i64 j ∧
        FrSt J (fun k => F k ∨ k = ab ∨ w.heap.size ≤ k) (fun k => R k ∨ k = w.heap.size) F2 Fh' w wr p (frT nodes (awJ nodes arcs told x j) (told ++ [x])) lb lm' gl' ab nodes.length (gA nodes (awJ nodes arcs told x j)) (told ++ [x]) w.heap.size a c hb hm gh nodes (hdsL nodes arcs) ∧
        (∀ n ∈ nodes, (gl' n).getD 0 = lvJ (hdsL nodes arcs x) lx j (lvG arcs told) n) ∧ lm' ≤ told.length * 640 + j) (fun i _ => (hdsL nodes arcs x).length - (Go.RowKit.intOf i).toNat)
      case atStart => exact ⟨0, lm, gl, Fh1, Nat.zero_le _, rfl, by rw [awJ_zero]; exact FS2.out, fun n hn => by rw [lvJ_zero]; exact HLV.out n hn, hlm⟩
      case round =>
        obtain ⟨j, lm', gl', Fh', hj, rfl, hst, hlv, hlm'⟩ := hrel
        have HSR := Lib.hid hst
        have HLR := Lib.hid hlv
        by_cases hjl : j < (hdsL nodes arcs x).length
        · obtain ⟨gr, go, gc, e, hcc, _, p0⟩ := IntsAt.spot (HSR.out.hg.rows x HX64.out) j hjl
          rw [HRE.out] at e
          cases e
          obtain ⟨hhn, hhx, hht⟩ := HHM.out j hjl
          have hh64 := HBN.out _ hhn
          have hnl := fun n => lvJ_next (lx := lx) (old := lvG arcs told) hjl n
          have hna := fun n => awJ_next (nodes := nodes) (arcs := arcs) (told := told) (x := x) hjl n
          have hpo := awJ_pos (nodes := nodes) (arcs := arcs) HXT.out hjl
          have hdn := fun A' hA => frT_down HRI.out (A := awJ nodes arcs told x j) (A' := A') hhn hA hpo hht
          have hxj : x ∉ (hdsL nodes arcs x).take j := fun hm => HHX.out (List.mem_of_mem_take hm)
          have hlxv : lvJ (hdsL nodes arcs x) lx j (lvG arcs told) x = lvG arcs told x := by unfold lvJ; rw [if_neg hxj]
          have hbd := fun n => lvJ_bd (H := hdsL nodes arcs x) (lx := lx) (j := j) (old := lvG arcs told) (b := told.length) HLB.out hlx n
          have hbj := hbd ((hdsL nodes arcs x)[j])
          have hl1 := HLR.out _ hhn
          have hl2 := HLR.out x HXN.out
          rw [hlxv] at hl2
          have hlxe : lvG arcs told x = lx := by
            have h1 := HLV.out x HXN.out
            rw [HLX.out] at h1
            exact h1.symm
          rw [hlxe] at hl2
          have k1 := HSR.out.hl.look1 hh64
          have k2 := HSR.out.hl.look1 HX64.out
          rw [hl1] at k1
          rw [hl2] at k2
          have hjl60 : (hdsL nodes arcs x).length ≤ 640 := by have := HHL.out; have := HAA.out; omega
          generalize (hdsL nodes arcs x)[j]'hjl = h at *
          obtain ⟨y, hy⟩ : ∃ y, lvJ (hdsL nodes arcs x) lx j (lvG arcs told) h = y := ⟨_, rfl⟩
          rw [hy] at k1 hbj
          obtain ⟨mx, hmx⟩ : ∃ mx, max y (lx + 1) = mx := ⟨_, rfl⟩
          have hmxb : 0 ≤ mx ∧ mx ≤ 641 := by omega
          obtain ⟨wa, hrun1, ha1, ga1⟩ := HSR.out.hl.put (by omega) hh64 mx (by unfold I64; omega)
          have FSa := HSR.out.lev T ha1 ga1
          have k3 := FSa.ha.look1 hh64
          rw [gA_getD hhn] at k3
          obtain ⟨v, hv⟩ : ∃ v, awJ nodes arcs told x j h = v := ⟨_, rfl⟩
          rw [hv] at k3 hpo
          have hv60 : v ≤ 640 := by
            rw [← hv]
            have h1 := awL_len nodes arcs told h
            have h2 : awJ nodes arcs told x j h ≤ awL nodes arcs told h := Nat.sub_le _ _
            have := HAA.out
            omega
          obtain ⟨wb, hrun2, ha2, ga2⟩ := FSa.ha.put (by have := HNL.out; omega) hh64 ((v : Int) - 1) (by unfold I64; omega)
          have hA' : ∀ n, awJ nodes arcs told x (j + 1) n = if n = h then awJ nodes arcs told x j n - 1 else awJ nodes arcs told x j n := hna
          rw [if_pos (by rw [gA_some]; exact inL_iff.2 hhn), show ((v : Int) - 1) = ((v - 1 : Nat) : Int) by omega, gA_upd (A' := awJ nodes arcs told x (j + 1)) hhn (fun n => by
            rw [hA']
            by_cases e : n = h
            · rw [if_pos e, if_pos e, e, hv]
            · rw [if_neg e, if_neg e])] at ha2
          have FSb := FSa.awa T ha2 ga2
          have hv2 : awJ nodes arcs told x (j + 1) h = v - 1 := by rw [hA', if_pos rfl, hv]
          have hPif := gPif_any a nodes.length c hb ab nodes.length _ h ((v - 1 : Nat) : Int) wb FSb.ha FSb.hh (by have := frT_len nodes (awJ nodes arcs told x j) (told ++ [x]); have := HNL.out; omega) hh64 (by rw [gA_getD hhn, hv2])
          have hdown := hdn _ hA'
          rw [hv2] at hdown
          have e0 : (if ((v - 1 : Nat) : Int) = 0 then putT (frT nodes (awJ nodes arcs told x j) (told ++ [x])) (th0 h) else frT nodes (awJ nodes arcs told x j) (told ++ [x])) = frT nodes (awJ nodes arcs told x (j + 1)) (told ++ [x]) := by
            rw [hdown]
            by_cases e : v - 1 = 0
            · rw [if_pos e, if_pos (by omega)]
            · rw [if_neg e, if_neg (by omega)]
          rw [e0] at hPif
          have hnewl : ∀ n ∈ nodes, ((updG gl' h (some mx)) n).getD 0 = lvJ (hdsL nodes arcs x) lx (j + 1) (lvG arcs told) n := fun n hn => by
            unfold updG
            rw [hnl]
            by_cases e : n = h
            · rw [if_pos e, if_pos e, e, hy, hmx]; rfl
            · rw [if_neg e, if_neg e]; exact HLR.out n hn
          have b0 := HSR.out.bx.cell 0 rfl
          have b2 := FSa.bx.cell 2 rfl
          have c0 := FSb.bx.cell 0 rfl
          have c1 := FSb.bx.cell 1 rfl
          have c2 := FSb.bx.cell 2 rfl
          have j0 : (0 : Int) ≤ (j : Int) := by omega
          have j1 : (j : Int) < ((hdsL nodes arcs x).length : Int) := by omega
          have j2 : (j : Int) ≤ 640 := by omega
          have v0 : (1 : Int) ≤ (v : Int) := by omega
          have v1 : (v : Int) ≤ 640 := by omega
          have l0 : 0 ≤ lx := hlx.1
          have l1 : lx ≤ 640 := by omega
          have HPF := Lib.hid hPif
          have HNEW := Lib.hid hnewl
          have HLM : Hid ((if (gl' h).isSome then lm' else lm' + 1) ≤ told.length * 640 + (j + 1)) := Lib.hid (by split <;> omega)
          have HFB := Lib.hid FSb
          have HJL := Lib.hid hjl
          have y0 := hbj.1
          have y1 : y ≤ 641 := by omega
          have hbb : (((v - 1 : Nat) : Int)) = (v : Int) - 1 := by omega
          have HHN := Lib.hid hhn
          clear hst hlv hlm' hhn hhx hht hh64 hnl hna hpo hdn hxj hlxv hbd hbj hl1 hl2 hlxe hy hmxb FSa ha1 ga1 hv hv60 ha2 ga2 hA' FSb hv2 hPif hdown e0 hnewl hlm hbb hjl hjl60 hj b0
          go_wp2_with (go_at_call 108; (with_reducible refine HPF.out.mono ?_); rintro e wc ⟨rfl, Fh3, h3, m3⟩; have HF3 := Lib.hid (HFB.out.heap T h3 m3); clear h3 m3)
          go_roundw
          case rel => exact ⟨j + 1, _, _, Fh3, HJL.out, by go_num, HF3.out, HNEW.out, HLM.out⟩
          case measure => have := HJL.out; simp [Go.RowKit.intOf]; omega
        · have hje : j = (hdsL nodes arcs x).length := by omega
          subst hje
          rw [awJ_all HXT.out] at HSR
          have hnl : ∀ n ∈ nodes, (gl' n).getD 0 = lvG arcs (told ++ [x]) n := fun n hn => by rw [HLR.out n hn]; exact (HGS.out n hn).symm
          have hfin := HK.out (nodes.length - (told.length + 1)) 
          have HFI := Lib.hid hfin
          have HNL2 := Lib.hid hnl
          have HLM2 : Hid (lm' ≤ (told ++ [x]).length * 640) := Lib.hid (by rw [List.length_append]; have := HHL.out; have := HAA.out; simp; omega)
          have HEQ : Hid (nodes.length - (told.length + 1) = nodes.length - (told ++ [x]).length) := Lib.hid (by rw [List.length_append]; rfl)
          have HLT2 : Hid (nodes.length - (told.length + 1) < nodes.length - told.length) := Lib.hid (by have := HLT.out; omega)
          clear hst hlv hlm' hj hjl hnl hfin hlm
          go_wp2
          go_step3
          exact ⟨rfl, HFI.out _ _ HLT2.out ⟨p, lb, lm', gl', F2, Fh', told ++ [x], HEQ.out, HSR.out, HNX.out, HNL2.out, HLM2.out, HO2.out, gframe_ex rfl⟩⟩
  · intro K hK
    have HK := Lib.hid hK
    clear hK
    go_upto_region 3 with (go_at_call 107; (with_reducible refine (NW.out _).mono ?_); rintro e w1 ⟨p, Fh, rfl, hF, hh, hb1⟩)
    rw [show (w.alloc (.cells #[.slice a nodes.length c, .map (some hb), .map (some ab)] 133)).heap.size = w.heap.size + 1 by simp] at hF hb1
    have hst := frSt_start T HG.out HI.out HRL.out HS.out HJ.out hF hh hb1
    generalize w1.alloc (.map #[] 0) = w2 at *
    generalize w1.heap.size = lb at *
    have HST := Lib.hid hst
    have g0 := hst.bx.cell 0 rfl
    clear hst hF hh hb1 NW HT HXB HAL HG HI HRL HS HJ
    go_wp2
    clear g0
    go_loopw [17] (fun i wr => ∃ (k : Nat) (Fh' : Nat → Prop), k ≤ nodes.length ∧ i = .int .i64 k ∧
      FrSt J (fun k => F k ∨ k = ab ∨ w.heap.size ≤ k) (fun k => R k ∨ k = w.heap.size) F Fh' w wr p (frT (nodes.take k) (awL nodes arcs []) []) lb 0 (fun _ => none) ab nodes.length (gA nodes (awL nodes arcs [])) [] w.heap.size a c hb hm gh nodes (hdsL nodes arcs)) (fun i _ => nodes.length - (Go.RowKit.intOf i).toNat)
    case atStart => exact ⟨0, Fh, Nat.zero_le _, rfl, HST.out⟩
    case round =>
      obtain ⟨k, Fh', hk, rfl, hst⟩ := hrel
      have HSR := Lib.hid hst
      by_cases hlt : k < nodes.length
      · obtain ⟨gr, go, gc, e, hcc, _, p0⟩ := HSR.out.hg.row.spot k hlt
        cases e
        have hx64 := HBN.out _ (List.getElem_mem hlt)
        have hput := frT_put HRI.out (awL nodes arcs []) k hlt
        have hskip := frT_skip (awL nodes arcs []) k hlt
        obtain ⟨v, hv⟩ : ∃ v, awL nodes arcs [] nodes[k] = v := ⟨_, rfl⟩
        have hPif := gPif_any (some ⟨gr, go, none⟩) nodes.length c hb ab nodes.length _ nodes[k] (v : Int) wr HSR.out.ha HSR.out.hh (by have := frT_len (nodes.take k) (awL nodes arcs []) []; rw [List.length_take] at this; have := HNL.out; omega) hx64 (by rw [gA_getD (List.getElem_mem hlt), hv])
        rw [hv] at hput hskip
        have e0 : (if (v : Int) = 0 then putT (frT (nodes.take k) (awL nodes arcs []) []) (th0 nodes[k]) else frT (nodes.take k) (awL nodes arcs []) []) = frT (nodes.take (k + 1)) (awL nodes arcs []) [] := by
          by_cases e : v = 0
          · rw [if_pos (by omega), hput e]
          · rw [if_neg (by omega), hskip e]
        rw [e0] at hPif
        have c0 := HSR.out.bx.cell 0 rfl
        have c1 := HSR.out.bx.cell 1 rfl
        have c2 := HSR.out.bx.cell 2 rfl
        have j0 : (0 : Int) ≤ (k : Int) := by omega
        have j1 : (k : Int) < (nodes.length : Int) := by omega
        have j2 : (k : Int) ≤ 640 := by have := HNL.out; omega
        generalize nodes[k]'hlt = x at *
        have HPF := Lib.hid hPif
        clear hput hskip hPif e0 hv hst hx64
        go_wp2_with (go_at_call 108; (with_reducible refine HPF.out.mono ?_); rintro e wc ⟨rfl, Fh3, h3, m3⟩; have HF3 := Lib.hid (HSR.out.heap T h3 m3); clear h3 m3)
        go_roundw
        case rel => exact ⟨k + 1, Fh3, by omega, by go_num, HF3.out⟩
        case measure => simp [Go.RowKit.intOf]; omega
      · have hke : k = nodes.length := by omega
        subst hke
        rw [List.take_length] at HSR
        clear hst hk hlt
        go_wp2
        go_step3
        rename_i hback
        refine hback _ _ ?_
        exact HK.out _ _ _ ⟨p, lb, 0, fun _ => none, F, Fh', [], rfl, HSR.out, OrdI.nil _ _, fun n _ => (lvG_nil arcs n).symm ▸ rfl, Nat.zero_le _, HO.out, gframe_ex rfl⟩

end Go.Proofs.YthchkhgimnchcaaGreat
/- Stage 16's program: what is told: a list in its box, a map of levels in its box; levelsOfTold. -/
namespace Go.Proofs.YthchkhgimnchcaaGreat
open Go.RowKit

theorem hset1g {w : World} {b : Nat} {x : Value} {t : TypeId} (h : w.heap[b]? = some (.cells #[x] t)) (x' : Value) : (w.setCell ⟨b, 0, none⟩ x').heap[b]? = some (.cells #[x'] t) := by
  unfold World.setCell
  simp only [Array.getElem?_modify, if_pos, h, Option.map_some]
  rfl
/-- numbers that were told, in the box q -/
def JO (q : Nat) (t : List Int) (F : Nat → Prop) (w : World) : Prop := ∃ v, w.heap[q]? = some (.cells #[v] 32) ∧ OwnI w 0 v t ∧ ∀ k, F k ↔ k = q ∨ v.ownBlock = some k
theorem jo_tell (q : Nat) : TellJ (JO q) where
  lt := by
    rintro t F w ⟨v, h1, h2, h3⟩ k hk
    rcases (h3 k).1 hk with rfl | h
    · exact lt_of_block h1
    · exact (h2.cells k h).2.1
  out := by
    rintro t F w w' ⟨v, h1, h2, h3⟩ _ he
    exact ⟨v, (he q ((h3 q).2 (.inl rfl))).trans h1, h2.same fun k hk => he k ((h3 k).2 (.inr hk)), h3⟩
theorem jo_ne {q : Nat} {w : World} {v u : Value} {l : List Int} (hr : w.heap[q]? = some (.cells #[u] 32)) (h : OwnI w 0 v l) : v.ownBlock ≠ some q := fun e => by
  obtain ⟨_, _, cur, hc⟩ := h.cells q e
  rw [hr] at hc
  cases hc
/-- levels that were told, in the map tb of the box q -/
def JL (arcs : List Arc16) (q tb : Nat) (t : List Int) (F : Nat → Prop) (w : World) : Prop := w.heap[q]? = some (.cells #[.map (some tb)] 91) ∧ MapI w tb t.length (gT arcs t) ∧ ∀ k, F k ↔ k = q ∨ k = tb
theorem jl_tell (arcs : List Arc16) (q tb : Nat) : TellJ (JL arcs q tb) where
  lt := by
    rintro t F w ⟨h1, h2, h3⟩ k hk
    rcases (h3 k).1 hk with rfl | rfl
    · exact lt_of_block h1
    · exact h2.lt
  out := by
    rintro t F w w' ⟨h1, h2, h3⟩ _ he
    exact ⟨(he q ((h3 q).2 (.inl rfl))).trans h1, h2.same (he tb ((h3 tb).2 (.inr rfl))), h3⟩

set_option maxHeartbeats 1000000 in
theorem gOrd1_any (q : Nat) (t : List Int) (F : Nat → Prop) (w : World) (x : Int) (lv : Int) (h : JO q t F w) (ht : t.length ≤ 1000) :
    Calls Tryz.prog 100 #[.int .i64 x, .int .i64 lv, .pointer (some ⟨q, 0, none⟩)] w fun e w' => e = .returned (.tuple #[]) ∧ ∃ F', JO q (t ++ [x]) F' w' ∧ Mv F F' w w' := by
  obtain ⟨i0, hi, hz0, hz1, hz2⟩ := info_parts info_int
  obtain ⟨v, h1, h2, h3⟩ := h
  have hal := (Below.refl w.heap.size w).alloc (Nat.le_refl _) (.cells #[.int .i64 x] 3)
  have hr4 : (w.alloc (.cells #[.int .i64 x] 3)).heap[q]? = some (.cells #[v] 32) := (Below.heap_alloc w _ q (lt_of_block h1)).trans h1
  have ho4 := OwnR.alloc h2 (.cells #[.int .i64 x] 3)
  have c0 : w.cell? ⟨q, 0, none⟩ = some v := by simp [World.cell?, h1]
  have HNE := Lib.hid (jo_ne h1 h2)
  have HQ := Lib.hid (lt_of_block h1)
  have HR4 := Lib.hid hr4
  have HO4 := Lib.hid ho4
  have H3 := Lib.hid h3
  have HAL := Lib.hid hal
  obtain ⟨a, c, hv⟩ := (OwnI.ints h2).form
  subst hv
  clear h1 h2 h3 hr4 ho4 hal
  go_enter Tryz.func100, Tryz.ntmps100
  go_wp2_with (at_builtin; refine wpList_append_lies _ rfl _ _ 32 rfl 0 3 i0 (.int .i64 0) 1 8 Tryz.underlying32 hi hz0 hz1 hz2 rfl (by omega) (.slice a t.length c) t.length (flats csI t) rfl HO4.out ⟨w.heap.size, 0, none⟩ 1 1 [.int .i64 x] rfl rfl (World.news_of_block (cs := #[.int .i64 x]) (t := 3) (fr := (0, 0)) (heap_alloc_new w _)) (by simp [Value.oneCell']) (by omega) (by unfold maxLen; omega) (by omega) (Nat.zero_le _) (w.heap.size + 1) (by simp) ?_; intro gg cap w5 ho5 hg5 hat5 hlt5; have hr5 := (hg5.block q (by have := HQ.out; simp; omega) (fun e => HNE.out e.symm)).trans HR4.out; have c5 : w5.cell? ⟨q, 0, none⟩ = some (.slice a t.length c) := (by simp [World.cell?, hr5]); have z5 : w5.frozen? ⟨q, 0, none⟩ = false := (by simp [World.frozen?, hr5]); have O5 : Hid (OwnI w5 0 (.slice (some ⟨gg, 0, none⟩) (t.length + 1) cap) (t ++ [x])) := Lib.hid (OwnR.snoc ho5 rfl rfl); have R5 := Lib.hid hr5; have G5 := Lib.hid hg5; have A5 := Lib.hid hat5; clear ho5 hr5 hg5 hat5 hlt5)
  go_end0
  have hgq : gg ≠ q := fun e => by
    rcases A5.out with h | h
    · exact HNE.out (e ▸ h)
    · have := HQ.out; omega
  have hgrow := (Only.of_below (F := F) HAL.out).trans (Only.grown G5.out fun k e => (H3.out k).2 (.inr e))
  refine ⟨rfl, fun k => k = q ∨ k = gg, ⟨_, hset1g R5.out _, OwnR.away O5.out _ _ (by simpa [Value.ownBlock] using hgq), fun k => ?_⟩, ⟨hgrow.set _ _ ((H3.out q).2 (.inl rfl)), fun k hk => ?_⟩⟩
  · simp [Value.ownBlock, eq_comm]
  · rcases hk with rfl | rfl
    · exact .inl ((H3.out k).2 (.inl rfl))
    · rcases A5.out with h | h
      · exact .inl ((H3.out k).2 (.inr h))
      · exact .inr (by omega)

end Go.Proofs.YthchkhgimnchcaaGreat
/- Stage 16: the document's Order, Left. -/
namespace Go.Proofs.YthchkhgimnchcaaGreat
open Go.RowKit

def slen : Value → Nat
  | .slice _ n _ => n
  | _ => 0

set_option maxHeartbeats 8000000 in
set_option maxRecDepth 100000 in
theorem refOrder_any (va vb : Value) (l : List Int) (arcs : List Arc16) (W : World) (ha : IntsAt W va l) (hb : ArcsAt W vb arcs) (hl : l.length ≤ 1000) (hl2 : arcs.length ≤ 1000) :
    Calls Tryz.prog 65 #[va, vb] W fun e w' => ∃ v, e = .returned (.tuple #[v, .bool (decide ((ordL l arcs).length = (setL l).length))]) ∧ OwnI w' W.heap.size v (ordL l arcs) ∧ Below W.heap.size W w' := by
  have GS := Lib.hid (refSet_any va l W ha (by omega))
  have HA := Lib.hid hb
  obtain ⟨a0, c0, rfl⟩ := IntsAt.form ha
  obtain ⟨b0, d0, rfl⟩ := RowsAt.form hb
  have hnl := setL_le l
  have hord : ordL l arcs = ordG (setL l) arcs (setL l).length [] := rfl
  obtain ⟨R, hR⟩ : ∃ R, ordL l arcs = R := ⟨_, rfl⟩
  rw [hR] at hord ⊢
  clear hR
  generalize setL l = N at *
  obtain ⟨t, ht⟩ : ∃ t, decide (R.length = N.length) = t := ⟨_, rfl⟩
  rw [ht]
  have HTD := Lib.hid ht
  clear ht
  have HORD := Lib.hid hord
  have HL2 := Lib.hid hl2
  have HNL := Lib.hid (show N.length ≤ 1000 by omega)
  clear ha hb hord hnl
  go_enter Tryz.func65, Tryz.ntmps65
  go_wp2_with (go_at_call 29; (with_reducible refine GS.out.mono ?_); rintro e w1 ⟨vn, rfl, hn, hbn⟩; obtain ⟨an, cn, e⟩ := RowsAt.form (OwnR.rows csI_len hn); subst e; have HN := Lib.hid (OwnI.ints hn); have HB1 := Lib.hid hbn; have HAR := Lib.hid (RowsAt.kept HA.out hbn); clear hn hbn)
  go_loopw [7, 8] (fun tv iv wr => ∃ (i : Nat) (T : List Int), i ≤ N.length ∧ iv = .int .i64 i ∧ OwnI wr w1.heap.size tv T ∧ Below w1.heap.size w1 wr ∧ ToldI N T ∧ ordG N arcs (N.length - T.length) T = R ∧ ∀ j (_ : j < i) (h2 : j < N.length), nextB N arcs T N[j] = false) (fun tv iv _ => (N.length - slen tv) * (N.length + 1) + (N.length - (Go.RowKit.intOf iv).toNat))
  case atStart => exact ⟨0, [], by omega, rfl, OwnR.nil _ _ _ _ _, Below.refl _ _, ToldI.nil _, HORD.out.symm, fun j h => absurd h (by omega)⟩
  case round =>
    obtain ⟨i, T, hi, rfl, ho, hB, hti, hor, hpre⟩ := hrel
    have HO := Lib.hid ho
    have HB := Lib.hid hB
    have HTI := Lib.hid hti
    have HOR := Lib.hid hor
    have HPRE := Lib.hid hpre
    have htl := hti.len
    obtain ⟨aT, cT, e⟩ := RowsAt.form (OwnR.rows csI_len ho)
    subst e
    by_cases hlt : i < N.length
    · obtain ⟨g, o, cc, e, hlc, hg, p0⟩ := (IntsAt.below HN.out hB).spot i hlt
      cases e
      have HLT := Lib.hid hlt
      have K0 : (0 : Int) ≤ (i : Int) := by omega
      have K1 : (i : Int) < (N.length : Int) := by omega
      have K2 : (i : Int) ≤ 1000 := by have := HNL.out; omega
      have GI := refIn_any (.slice aT T.length cT) T (N[i]'hlt) wr (OwnI.ints ho) (by have := HNL.out; omega)
      have GF := refFree_any (.slice (some ⟨g, o, none⟩) N.length cn) (.slice b0 arcs.length d0) (.slice aT T.length cT) N arcs T (N[i]'hlt) wr (IntsAt.below HN.out hB) (RowsAt.kept HAR.out hB) (OwnI.ints ho) (by have := HNL.out; omega) (by have := HL2.out; omega) (by have := HNL.out; omega)
      have hnb : nextB N arcs T (N[i]'hlt) = (!inL T (N[i]'hlt) && freeG N arcs T (N[i]'hlt)) := rfl
      have hmem : N[i]'hlt ∈ N := List.getElem_mem hlt
      have hpn : nextB N arcs T (N[i]'hlt) = false → ∀ j (_ : j < i + 1) (h2 : j < N.length), nextB N arcs T N[j] = false := fun h j hj h2 => by
        by_cases e : j = i
        · subst e; exact h
        · exact hpre j (by omega) h2
      have hst := fun (hb : nextB N arcs T (N[i]'hlt) = true) f => ordG_step (arcs := arcs) (told := T) i hlt rfl (fun j hj => hpre j hj (by omega)) hb f
      generalize N[i]'hlt = x at *
      have HPN := Lib.hid hpn
      have HST := Lib.hid hst
      have HMEM := Lib.hid hmem
      clear hpn hst hmem hpre hor hti ho hB htl
      cases hin : inL T x with
      | true =>
        rw [hin] at GI hnb
        have GI2 := Lib.hid GI
        have HX := Lib.hid (HPN.out hnb)
        clear GI GF hnb hin HPN HST
        go_wp2_with (go_at_call 32; (with_reducible refine GI2.out.mono ?_); rintro e w2 ⟨rfl, rfl⟩)
        go_roundw
        case rel => exact ⟨i + 1, T, by have := HLT.out; omega, by go_num, HO.out, HB.out, HTI.out, HOR.out, HX.out⟩
        case measure => have := HLT.out; simp [Go.RowKit.intOf, slen]; omega
      | false =>
        rw [hin] at GI hnb
        cases hfr : freeG N arcs T x with
        | false =>
          rw [hfr] at GF hnb
          have GI2 := Lib.hid GI
          have GF2 := Lib.hid GF
          have HX := Lib.hid (HPN.out hnb)
          clear GI GF hnb hin hfr HPN HST
          go_wp2_with (first
            | (go_at_call 32; (with_reducible refine GI2.out.mono ?_); rintro e w2 ⟨rfl, rfl⟩)
            | (go_at_call 84; (with_reducible refine GF2.out.mono ?_); rintro e w2 ⟨rfl, rfl⟩))
          go_roundw
          case rel => exact ⟨i + 1, T, by have := HLT.out; omega, by go_num, HO.out, HB.out, HTI.out, HOR.out, HX.out⟩
          case measure => have := HLT.out; simp [Go.RowKit.intOf, slen]; omega
        | true =>
          rw [hfr] at GF hnb
          have GI2 := Lib.hid GI
          have GF2 := Lib.hid GF
          have hlt2 := HTI.out.lt HMEM.out hnb
          have HLT2 := Lib.hid hlt2
          have HX := Lib.hid (HST.out hnb (N.length - T.length - 1))
          have HTN := Lib.hid (HTI.out.next HMEM.out hnb)
          clear GI GF hnb hin hfr HPN HST hlt2
          go_wp2_with (first
            | (go_at_call 32; (with_reducible refine GI2.out.mono ?_); rintro e w2 ⟨rfl, rfl⟩)
            | (go_at_call 84; (with_reducible refine GF2.out.mono ?_); rintro e w2 ⟨rfl, rfl⟩)
            | (at_builtin; refine app1 HO.out HB.out.size (by have := HLT2.out; have := HNL.out; omega) rfl _ _ rfl rfl rfl ?_; intro v6 w6 o6 b6; have HO6 := Lib.hid o6; have HB6 := Lib.hid (HB.out.trans b6); obtain ⟨a6, c6, e6⟩ := RowsAt.form (OwnR.rows csI_len o6); rw [List.length_append, List.length_singleton] at e6; subst e6; clear o6 b6 p0))
          go_roundw
          case rel => exact ⟨0, T ++ [x], by omega, rfl, HO6.out, HB6.out, HTN.out, by rw [List.length_append, List.length_singleton, ← HOR.out]; have h := HX.out; rw [show N.length - T.length - 1 + 1 = N.length - T.length by have := HLT2.out; omega] at h; rw [h]; congr 1, fun j h => absurd h (by omega)⟩
          case measure =>
            have h1 := HLT2.out
            simp [Go.RowKit.intOf, slen]
            obtain ⟨q, hq⟩ : ∃ q, N.length - T.length = q + 1 := ⟨N.length - T.length - 1, by omega⟩
            have hq2 : N.length - (T.length + 1) = q := by omega
            rw [hq, hq2, Nat.add_mul]
            omega
    · have hke : i = N.length := by omega
      have hend : T = R := by
        rw [← hor]
        exact (ordG_end (fun n hn => by
          obtain ⟨j, hj, rfl⟩ := List.getElem_of_mem hn
          exact hpre j (by omega) hj) _).symm
      subst hend hke
      have hdd : (((T.length : Int) == (N.length : Int))) = decide (T.length = N.length) := by
        by_cases h : T.length = N.length
        · rw [h]; simp
        · rw [decide_eq_false h]; exact beq_noI (by omega)
      rw [HTD.out] at hdd
      clear hor hpre hti hlt ho hB
      go_wp2
      exact bodyPost_ret (v := .tuple #[.slice aT T.length cT, .bool t]) (by simp [results, Tryz.results65, go_sem]) rfl ⟨_, rfl, HO.out.base13 HB1.out.size, HB1.out.trans (HB.out.mono HB1.out.size)⟩

end Go.Proofs.YthchkhgimnchcaaGreat
/- Stage 16: the document's Reach. -/
namespace Go.Proofs.YthchkhgimnchcaaGreat
open Go.RowKit

set_option maxHeartbeats 16000000 in
set_option maxRecDepth 100000 in
theorem refReach_any (va vb vf : Value) (l : List Int) (arcs : List Arc16) (frm : List Int) (W : World) (ha : IntsAt W va l) (hb : ArcsAt W vb arcs) (hf : IntsAt W vf frm) (hl : l.length ≤ 1000) (hl2 : arcs.length ≤ 1000) (hl3 : frm.length ≤ 1000) :
    Calls Tryz.prog 45 #[va, vb, vf] W fun e w' => ∃ v, e = .returned v ∧ OwnI w' W.heap.size v (reachL l arcs frm) ∧ Below W.heap.size W w' := by
  have GS := Lib.hid (refSet_any va l W ha (by omega))
  have HA0 := Lib.hid hb
  have HF0 := Lib.hid hf
  obtain ⟨a0, c0, rfl⟩ := IntsAt.form ha
  obtain ⟨b0, d0, rfl⟩ := RowsAt.form hb
  obtain ⟨f0, g0, rfl⟩ := IntsAt.form hf
  have hnl := setL_le l
  have hst := startR_told l frm
  have hrl : reachL l arcs frm = setL (itR (setL l) arcs (setL l).length (startR l frm)) := rfl
  have hsf : startR l frm = (setL l).filter fun n => inL frm n := rfl
  obtain ⟨R, hR⟩ : ∃ R, reachL l arcs frm = R := ⟨_, rfl⟩
  rw [hR] at hrl ⊢
  clear hR
  generalize startR l frm = S0 at *
  generalize setL l = N at *
  have HRL := Lib.hid hrl
  have HSF := Lib.hid hsf
  have HST := Lib.hid hst
  have HNL := Lib.hid (show N.length ≤ 1000 by omega)
  have HAL := Lib.hid hl2
  have HFL := Lib.hid hl3
  clear ha hb hf hrl hsf hst hnl
  go_enter Tryz.func45, Tryz.ntmps45
  go_wp2_with (go_at_call 29; (with_reducible refine GS.out.mono ?_); rintro e w1 ⟨vn, rfl, hn, hbn⟩; obtain ⟨an, cn, e⟩ := RowsAt.form (OwnR.rows csI_len hn); subst e; have HN := Lib.hid (OwnI.ints hn); have HA := Lib.hid (RowsAt.kept HA0.out hbn); have HF := Lib.hid (IntsAt.below HF0.out hbn); have HB1 := Lib.hid hbn; clear hn hbn)
  clear HA0 HF0 GS
  go_loopw [8, 9] (fun tv iv wr => ∃ i : Nat, i ≤ N.length ∧ iv = .int .i64 i ∧ OwnI wr w1.heap.size tv ((N.take i).filter fun n => inL frm n) ∧ Below w1.heap.size w1 wr) (fun _ iv _ => N.length - (Go.RowKit.intOf iv).toNat)
  case atStart => exact ⟨0, by omega, rfl, OwnR.nil _ _ _ _ _, Below.refl _ _⟩
  case round =>
    obtain ⟨i, hi, rfl, ho, hB⟩ := hrel
    have HO3 := Lib.hid ho
    have HB3 := Lib.hid hB
    by_cases hlt : i < N.length
    · obtain ⟨g, o, cc, e, hlc, hg, p0⟩ := (IntsAt.below HN.out hB).spot i hlt
      cases e
      have HLT := Lib.hid hlt
      have K0 : (0 : Int) ≤ (i : Int) := by omega
      have K1 : (i : Int) < (N.length : Int) := by omega
      have K2 : (i : Int) ≤ 1000 := by have := HNL.out; omega
      have GI := refIn_any (.slice f0 frm.length g0) frm (N[i]'hlt) wr (IntsAt.below HF.out hB) (by have := HFL.out; omega)
      have hnx : (N.take (i + 1)).filter (fun n => inL frm n) = (N.take i).filter (fun n => inL frm n) ++ (if inL frm (N[i]'hlt) then [N[i]'hlt] else []) := by
        rw [List.take_succ_eq_append_getElem hlt, List.filter_append]
        congr 1
        cases h : inL frm (N[i]'hlt) <;> simp [h]
      have hfl : ((N.take i).filter fun n => inL frm n).length ≤ 1000 := Nat.le_trans (List.length_filter_le _ _) (by rw [List.length_take]; have := HNL.out; omega)
      generalize N[i]'hlt = x at *
      have HFL2 := Lib.hid hfl
      clear ho hB hfl
      cases hin : inL frm x with
      | false =>
        rw [hin] at GI hnx
        rw [if_neg (by simp), List.append_nil] at hnx
        have GI2 := Lib.hid GI
        have HNX := Lib.hid hnx
        clear GI hnx hin
        go_wp2_with (go_at_call 32; (with_reducible refine GI2.out.mono ?_); rintro e w3 ⟨rfl, rfl⟩)
        go_roundw
        case rel => exact ⟨i + 1, by have := HLT.out; omega, by go_num, by rw [HNX.out]; exact HO3.out, HB3.out⟩
        case measure => have := HLT.out; simp [Go.RowKit.intOf] <;> omega
      | true =>
        rw [hin] at GI hnx
        rw [if_pos rfl] at hnx
        have GI2 := Lib.hid GI
        have HNX := Lib.hid hnx
        clear GI hnx hin
        generalize (N.take i).filter (fun n => inL frm n) = T at *
        obtain ⟨aT, cT, e⟩ := RowsAt.form (OwnR.rows csI_len HO3.out)
        subst e
        go_wp2_with (first
          | (go_at_call 32; (with_reducible refine GI2.out.mono ?_); rintro e w3 ⟨rfl, rfl⟩)
          | (at_builtin; refine app1 HO3.out HB3.out.size (by have := HFL2.out; omega) rfl _ _ rfl rfl rfl ?_; intro v6 w6 o6 b6; have HO6 := Lib.hid o6; have HB6 := Lib.hid (HB3.out.trans b6); clear o6 b6 p0))
        go_roundw
        case rel => exact ⟨i + 1, by have := HLT.out; omega, by go_num, by rw [HNX.out]; exact HO6.out, HB6.out⟩
        case measure => have := HLT.out; simp [Go.RowKit.intOf] <;> omega
    · have hke : i = N.length := by omega
      subst hke
      rw [List.take_length, ← HSF.out] at HO3
      clear ho hB hlt hi
      obtain ⟨aT, cT, e⟩ := RowsAt.form (OwnR.rows csI_len HO3.out)
      subst e
      go_wp2
      generalize wr = wr0 at *
      go_loopw [8, 10, 11] (fun tv nv _ wr => ∃ n : Nat, n ≤ N.length ∧ nv = .int .i64 n ∧ OwnI wr w1.heap.size tv (itR N arcs n S0) ∧ Below w1.heap.size w1 wr) (fun _ nv _ _ => N.length - (Go.RowKit.intOf nv).toNat)
      case atStart => exact ⟨0, by omega, rfl, HO3.out, HB3.out⟩
      case round =>
        obtain ⟨n, hn, rfl, ho, hB⟩ := hrel
        have HOn := Lib.hid ho
        have HBn := Lib.hid hB
        have htn := itR_told (arcs := arcs) HST.out n
        have hitn : itR N arcs (n + 1) S0 = rowR N arcs (itR N arcs n S0) := rfl
        by_cases hlt : n < N.length
        · generalize itR N arcs n S0 = On at *
          have HTN := Lib.hid htn
          have HIT := Lib.hid hitn
          have HLT := Lib.hid hlt
          have K0 : (0 : Int) ≤ (n : Int) := by omega
          have K1 : (n : Int) < (N.length : Int) := by omega
          have K2 : (n : Int) ≤ 1000 := by have := HNL.out; omega
          obtain ⟨a1, c1, e⟩ := RowsAt.form (OwnR.rows csI_len HOn.out)
          subst e
          clear ho hB htn hitn
          go_wp2
          generalize wr = wr1 at *
          go_loopw [8, 11] (fun tv kv wr => ∃ k : Nat, k ≤ arcs.length ∧ kv = .int .i64 k ∧ OwnI wr w1.heap.size tv (rowR N (arcs.take k) On) ∧ Below w1.heap.size w1 wr) (fun _ kv _ => arcs.length - (Go.RowKit.intOf kv).toNat)
          case atStart => exact ⟨0, by omega, rfl, HOn.out, HBn.out⟩
          case round =>
            obtain ⟨k, hk, rfl, ho, hB⟩ := hrel
            have HOk := Lib.hid ho
            have HBk := Lib.hid hB
            by_cases hk2 : k < arcs.length
            · have htk := rowR_told (arcs.take k) On HTN.out
              have hnx := rowR_take N arcs On k hk2
              obtain ⟨g, o, cc, e, hlc, hg, q0, q1⟩ := ArcsAt.at (RowsAt.kept HA.out hB) k hk2
              cases e
              generalize rowR N (arcs.take k) On = T at *
              generalize arcs[k]'hk2 = x at *
              obtain ⟨xs, xd⟩ := x
              simp only at q0 q1 hnx
              have htl := htk.len
              have HK2 := Lib.hid hk2
              have J0 : (0 : Int) ≤ (k : Int) := by omega
              have J1 : (k : Int) < (arcs.length : Int) := by omega
              have J2 : (k : Int) ≤ 1000 := by have := HAL.out; omega
              have HTL := Lib.hid (show T.length ≤ 1000 by have := HNL.out; omega)
              obtain ⟨aT, cT, e⟩ := RowsAt.form (OwnR.rows csI_len HOk.out)
              subst e
              have G1 := refIn_any (.slice aT T.length cT) T xs wr (OwnI.ints ho) (by have := HTL.out; omega)
              have G2 := refIn_any (.slice an N.length cn) N xd wr (IntsAt.below HN.out hB) (by have := HNL.out; omega)
              have G3 := refIn_any (.slice aT T.length cT) T xd wr (OwnI.ints ho) (by have := HTL.out; omega)
              unfold stepR at hnx
              simp only at hnx
              clear ho hB htk htl
              cases h1 : inL T xs with
              | false =>
                rw [h1] at G1 hnx
                rw [if_neg (by simp)] at hnx
                have G1h := Lib.hid G1
                have HNX := Lib.hid hnx
                clear G1 G2 G3 hnx h1
                go_wp2_with (go_at_call 32; (with_reducible refine G1h.out.mono ?_); rintro e w3 ⟨rfl, rfl⟩)
                go_roundw
                case rel => exact ⟨k + 1, by have := HK2.out; omega, by go_num, by rw [HNX.out]; exact HOk.out, HBk.out⟩
                case measure => have := HK2.out; simp [Go.RowKit.intOf] <;> omega
              | true =>
                rw [h1] at G1 hnx
                cases h2 : inL N xd with
                | false =>
                  rw [h2] at G2 hnx
                  rw [if_neg (by simp)] at hnx
                  have G1h := Lib.hid G1
                  have G2h := Lib.hid G2
                  have HNX := Lib.hid hnx
                  clear G1 G2 G3 hnx h1 h2
                  go_wp2_with (first
                    | (go_at_call 32; (with_reducible refine G1h.out.mono ?_); rintro e w3 ⟨rfl, rfl⟩)
                    | (go_at_call 32; (with_reducible refine G2h.out.mono ?_); rintro e w3 ⟨rfl, rfl⟩))
                  go_roundw
                  case rel => exact ⟨k + 1, by have := HK2.out; omega, by go_num, by rw [HNX.out]; exact HOk.out, HBk.out⟩
                  case measure => have := HK2.out; simp [Go.RowKit.intOf] <;> omega
                | true =>
                  rw [h2] at G2 hnx
                  cases h3 : inL T xd with
                  | true =>
                    rw [h3] at G3 hnx
                    rw [if_neg (by simp)] at hnx
                    have G1h := Lib.hid G1
                    have G2h := Lib.hid G2
                    have G3h := Lib.hid G3
                    have HNX := Lib.hid hnx
                    clear G1 G2 G3 hnx h1 h2 h3
                    go_wp2_with (first
                      | (go_at_call 32; (with_reducible refine G1h.out.mono ?_); rintro e w3 ⟨rfl, rfl⟩)
                      | (go_at_call 32; (with_reducible refine G2h.out.mono ?_); rintro e w3 ⟨rfl, rfl⟩)
                      | (go_at_call 32; (with_reducible refine G3h.out.mono ?_); rintro e w3 ⟨rfl, rfl⟩))
                    go_roundw
                    case rel => exact ⟨k + 1, by have := HK2.out; omega, by go_num, by rw [HNX.out]; exact HOk.out, HBk.out⟩
                    case measure => have := HK2.out; simp [Go.RowKit.intOf] <;> omega
                  | false =>
                    rw [h3] at G3 hnx
                    rw [if_pos (by simp)] at hnx
                    have G1h := Lib.hid G1
                    have G2h := Lib.hid G2
                    have G3h := Lib.hid G3
                    have HNX := Lib.hid hnx
                    clear G1 G2 G3 hnx h1 h2 h3
                    go_wp2_with (first
                      | (go_at_call 32; (with_reducible refine G1h.out.mono ?_); rintro e w3 ⟨rfl, rfl⟩)
                      | (go_at_call 32; (with_reducible refine G2h.out.mono ?_); rintro e w3 ⟨rfl, rfl⟩)
                      | (go_at_call 32; (with_reducible refine G3h.out.mono ?_); rintro e w3 ⟨rfl, rfl⟩)
                      | (at_builtin; refine app1 HOk.out HBk.out.size (by have := HTL.out; omega) rfl _ _ rfl rfl rfl ?_; intro v6 w6 o6 b6; have HO6 := Lib.hid o6; have HB6 := Lib.hid (HBk.out.trans b6); clear o6 b6 q0 q1))
                    go_roundw
                    case rel => exact ⟨k + 1, by have := HK2.out; omega, by go_num, by rw [HNX.out]; exact HO6.out, HB6.out⟩
                    case measure => have := HK2.out; simp [Go.RowKit.intOf] <;> omega
            · have hke : k = arcs.length := by omega
              subst hke
              rw [List.take_length, ← HIT.out] at HOk
              clear ho hB hk2
              go_wp2
              go_roundw
              case rel => exact ⟨n + 1, by have := HLT.out; omega, by go_num, HOk.out, HBk.out⟩
              case measure => have := HLT.out; simp [Go.RowKit.intOf] <;> omega
        · have hke : n = N.length := by omega
          subst hke
          have htl := htn.len
          generalize itR N arcs N.length S0 = On at *
          have GE := Lib.hid (refSet_any _ On wr (OwnI.ints ho) (by have := HNL.out; omega))
          obtain ⟨a1, c1, e⟩ := RowsAt.form (OwnR.rows csI_len ho)
          subst e
          rw [← HRL.out] at GE
          clear ho hB htn hitn htl
          go_wp2_with (go_at_call 29; (with_reducible refine GE.out.mono ?_); rintro e w7 ⟨v7, rfl, h7, hb7⟩; have H7 := Lib.hid h7; have HB7 := Lib.hid (HBn.out.trans (hb7.mono HBn.out.size)); clear h7 hb7)
          go_ret
          exact ⟨_, rfl, H7.out.base13 (Nat.le_trans HB1.out.size HBn.out.size), HB1.out.trans (HB7.out.mono HB1.out.size)⟩
end Go.Proofs.YthchkhgimnchcaaGreat
/- Lists of numbers of one's own: made with so many zeros; one written in its place. FOR ALL LATER STAGES. -/
namespace Go.Proofs.YthchkhgimnchcaaGreat
open Go.RowKit

theorem flatsI_set : ∀ (L : List Int) (i : Nat) (x : Int), flats csI (L.set i x) = (flats csI L).set i (.int .i64 x)
  | [], _, _ => rfl
  | y :: L, 0, x => rfl
  | y :: L, i + 1, x => by
    have e1 : flats csI ((y :: L).set (i + 1) x) = csI y ++ flats csI (L.set i x) := rfl
    have e2 : flats csI (y :: L) = csI y ++ flats csI L := rfl
    rw [e1, e2, flatsI_set L i x]
    rfl
theorem OwnI.put {w : World} {B g n cap : Nat} {L : List Int} (h : OwnI w B (.slice (some ⟨g, 0, none⟩) n cap) L) (i : Nat) (x : Int) :
    OwnI (w.setCell ⟨g, i, none⟩ (.int .i64 x)) B (.slice (some ⟨g, 0, none⟩) n cap) (L.set i x) := by
  unfold OwnI OwnR at *
  rw [List.length_set, flatsI_set]
  refine ⟨by rw [List.length_set]; exact h.1, ?_⟩
  rcases h.2 with ⟨h0, _⟩ | ⟨g', cap', cur, e, hg, hh, hnc, hcp, hcs, htake⟩
  · cases h0
  · cases e
    refine .inr ⟨g, cap, cur.setIfInBounds i (.int .i64 x), rfl, hg, ?_, hnc, hcp, by simpa using hcs, ?_⟩
    · unfold World.setCell
      simp only [Array.getElem?_modify, if_pos, hh, Option.map_some]
      rfl
    · rw [Array.toList_setIfInBounds, List.take_set, htake]
/-- where it lies -/
theorem OwnI.place {w : World} {B : Nat} {v : Value} {L : List Int} (h : OwnI w B v L) (i : Nat) (hi : i < L.length) : ∃ g cap, v = .slice (some ⟨g, 0, none⟩) L.length cap ∧ B ≤ g ∧ L.length ≤ cap ∧ g < w.heap.size ∧ w.cell? ⟨g, i, none⟩ = some (.int .i64 (L[i]'hi)) ∧ w.frozen? ⟨g, i, none⟩ = false := by
  rcases h.2 with ⟨rfl, h0⟩ | ⟨g, cap, cur, rfl, hg, hh, hnc, hcp, hcs, htake⟩
  · omega
  · refine ⟨g, cap, rfl, hg, hnc, lt_of_block hh, ?_, by simp [World.frozen?, hh]⟩
    have h1 := flats_at csI_len L i _ (List.getElem?_eq_getElem hi) 0 (.int .i64 (L[i]'hi)) rfl
    rw [Nat.mul_one, Nat.add_zero, ← htake, List.getElem?_take_of_lt (by omega)] at h1
    simp only [World.cell?, hh]
    simpa using h1
theorem makeI (w : World) (n : Nat) (hn : n ≤ 1000000) : ∃ w', (Instr.makeSlice 32 (.int .i64 (n : Int)) (.int .i64 (n : Int))).run Tryz.prog w = .ok (.slice (some ⟨w.heap.size, 0, none⟩) n n) w' ∧ OwnI w' w.heap.size (.slice (some ⟨w.heap.size, 0, none⟩) n n) (List.replicate n 0) ∧ Below w.heap.size w w' := by
  obtain ⟨i0, hi, hz0, hz1, hz2⟩ := info_parts info_int
  have hmk := run_make (P := Tryz.prog) w 32 3 i0 (.int .i64 0) Tryz.underlying32 hi hz0 .i64 .i64 n n (by omega) (Int.le_refl _) (by rw [hz2]; omega) (by omega)
  rw [Int.toNat_natCast, hz1, Nat.mul_one] at hmk
  refine ⟨_, hmk, ?_, (Below.refl _ _).alloc (Nat.le_refl _) _⟩
  unfold OwnI OwnR
  rw [List.length_replicate]
  refine ⟨by rw [flats_length csI_len, List.length_replicate], .inr ⟨w.heap.size, n, _, rfl, Nat.le_refl _, heap_alloc_new w _, Nat.le_refl _, by unfold maxLen; omega, ?_, ?_⟩⟩
  · rw [size_madeCells]
    simp
  · show ((madeCells #[.int .i64 0] n).toList).take (n * 1) = _
    rw [toList_madeCells_one, Nat.mul_one, List.take_of_length_le (by simp)]
    clear hmk hn
    induction n with
    | zero => rfl
    | succ n ih =>
      rw [List.replicate_succ, List.replicate_succ, ih]
      rfl
end Go.Proofs.YthchkhgimnchcaaGreat
/- Stage 16: the document's Levels. -/
namespace Go.Proofs.YthchkhgimnchcaaGreat
open Go.RowKit

end Go.Proofs.YthchkhgimnchcaaGreat
/- The laws GraphOrders, GraphReaches, over the program's contracts as one structure. -/
namespace Go.Proofs.YthchkhgimnchcaaGreat
open Go.RowKit

theorem arcsLit (w : World) (l : List Arc16) (t : TypeId) : ArcsAt (w.alloc (.cells (flats csArc l).toArray t)) (.slice (some ⟨w.heap.size, 0, none⟩) l.length l.length) l := by
  refine ⟨_, l.length, rfl, Nat.le_refl _, fun _ => ⟨w.heap.size, 0, rfl, by simp, fun j x hj i u hu => ?_⟩⟩
  have h := flats_at csArc_len l j x hj i u hu
  have hh : (w.alloc (.cells (flats csArc l).toArray t)).heap[w.heap.size]? = some (.cells (flats csArc l).toArray t) := heap_alloc_new w _
  unfold World.cell?
  simp only [hh, Nat.zero_add]
  simpa using h

end Go.Proofs.YthchkhgimnchcaaGreat
/- Stage 16's program: levelsOfTold, Order, Left, Levels. -/
namespace Go.Proofs.YthchkhgimnchcaaGreat
open Go.RowKit

set_option maxHeartbeats 2000000 in
set_option maxRecDepth 100000 in
theorem gOrder_any (va vb : Value) (l : List Int) (arcs : List Arc16) (w : World) (ha : IntsAt w va l) (hb : ArcsAt w vb arcs) (hl : l.length ≤ 640) (hal : arcs.length ≤ 640) (hB : B64 l) (hBa : B64a arcs) :
    Calls Tryz.prog 89 #[va, vb] w fun e w' => ∃ v, e = .returned (.tuple #[v, .bool (decide ((ordL l arcs).length = (setL l).length))]) ∧ IntsAt w' v (ordL l arcs) ∧ Below w.heap.size w w' := by
  have hmf : ∀ (fn : Fn) (first cap : Array Value) (w : World), (Instr.makeFunc fn first cap).run Tryz.prog w = .ok (.func fn first cap) w := fun _ _ _ _ => rfl
  have hN : (setL l).length ≤ 640 := Nat.le_trans (setL_le l) hl
  have hBN : ∀ n ∈ setL l, I64 n := fun n hn => hB n ((setL_mem l n).1 hn)
  have GO := Lib.hid (gOf_any va vb l arcs w ha hb hl hal hB hBa)
  have HRI := Lib.hid (setL_ris l)
  have HBN := Lib.hid hBN
  have HOL := Lib.hid (show ordG (setL l) arcs (setL l).length [] = ordL l arcs from rfl)
  generalize ordL l arcs = O at *
  generalize setL l = N at *
  obtain ⟨t, ht⟩ : ∃ t, decide (O.length = N.length) = t := ⟨_, rfl⟩
  have he : ((O.length : Int) == (N.length : Int)) = t := by
    rw [← ht]
    by_cases e : O.length = N.length
    · simp [e]
    · rw [decide_eq_false e, beq_noI (by omega)]
  have HEE := Lib.hid he
  rw [ht]
  clear ha hb hB hBa hBN ht he
  go_enter Tryz.func89, Tryz.ntmps89
  go_upto_region 3 with (go_at_call 98; (with_reducible refine GO.out.mono ?_); rintro e w1 ⟨a, c, mb, ab, hm, gh, rfl, hab, hG, hI, hb1⟩; have HAB := Lib.hid hab; have HG := Lib.hid hG; have HI := Lib.hid hI; have HB1 := Lib.hid hb1; clear hab hG hI hb1)
  have b1 := (Below.refl w1.heap.size w1).alloc (Nat.le_refl _) (.cells #[.slice a N.length c, .map (some mb), .map (some ab)] 133)
  have hX := Blk.new w1 [.slice a N.length c, .map (some mb), .map (some ab)] 133
  have hz : (w1.alloc (.cells #[.slice a N.length c, .map (some mb), .map (some ab)] 133)).heap.size = w1.heap.size + 1 := by simp
  have b2 := (Below.refl _ (w1.alloc (.cells #[.slice a N.length c, .map (some mb), .map (some ab)] 133))).alloc (Nat.le_refl _) (.cells #[.slice none 0 0] 32)
  have hq := heap_alloc_new (w1.alloc (.cells #[.slice a N.length c, .map (some mb), .map (some ab)] 133)) (.cells #[.slice none 0 0] 32)
  rw [hz] at hq
  have hx2 := hX.kept b2
  have hB := b1.trans (b2.mono b1.size)
  generalize (w1.alloc (.cells #[.slice a N.length c, .map (some mb), .map (some ab)] 133)).alloc (.cells #[.slice none 0 0] 32) = w2 at *
  have hJ : JO (w1.heap.size + 1) [] (fun k => k = w1.heap.size + 1) w2 := ⟨_, hq, OwnR.nil _ _ _ _ _, fun k => by simp [Value.ownBlock]⟩
  have hba := HI.out.lt
  have hw1 := HB1.out.size
  have hE := gEach_O (.pointer (some ⟨w1.heap.size + 1, 0, none⟩)) (jo_tell (w1.heap.size + 1)) w2 a c mb hm ab gh N arcs HRI.out hN hal HBN.out (HG.out.kept hB) (HI.out.kept hB)
    (fun k hk => Nat.lt_of_lt_of_le hk.2.1 hB.size) (fun h => h.2.2 rfl) (fun k hk hr => by have := hr.2.1; omega) (fun h => by omega) hJ
    (fun t F' w' x hj hx hxt ht => gOrd1_any _ t F' w' x _ hj (by omega))
  rw [HOL.out] at hE
  have HE := Lib.hid hE
  have HX2 := Lib.hid hx2
  have g0 := hx2.cell 0 rfl
  have g1 := hx2.cell 1 rfl
  have g2 := hx2.cell 2 rfl
  have HBB := Lib.hid (HB1.out.trans (hB.mono hw1))
  have HBA := Lib.hid (And.intro hba hw1)
  clear hE hx2 hB hJ hba b1 b2 hz hq hX hw1 GO
  go_wp2_with (go_at_call 99; (with_reducible refine HE.out.mono ?_); rintro e w3 ⟨rfl, F', ⟨v, hj1, hj2, hj3⟩, hf, ho⟩; have hx3 := HX2.out.only ho (by rintro (h | h) <;> (have := HBA.out; omega)); have k0 := hx3.cell 0 rfl; have hc : w3.cell? ⟨w1.heap.size + 1, 0, none⟩ = some v := (by simp [World.cell?, hj1]); have HJ2 := Lib.hid hj2; have HO3 := Lib.hid ho; clear hj1 hj2 hj3 hf ho g0 g1 g2 hx3)
  obtain ⟨av, cv, ev⟩ := (OwnI.ints HJ2.out).form
  subst ev
  have HB3 : Hid (Below w.heap.size w w3) := Lib.hid (HBB.out.trans (HO3.out.below (fun k hk => by rcases hk with h | h <;> (have := HBA.out; have := HAB.out; omega)) HBB.out.size))
  have he := HEE.out
  refine wp_region_calm0 (by kernel_rfl) (by kernel_rfl) fun M => ?_
  have e0 := fun n : In M.w => n.cell (M.cell hc)
  have e1 := fun n : In M.w => n.cell (M.cell k0)
  repeat (go_big_quiet_step (fail))
  refine wpQuiet_nil ?_
  intro w4 hb4
  have HB4 := Lib.hid (HB3.out.trans (hb4.mono HB3.out.size))
  have HI4 := Lib.hid ((OwnI.ints HJ2.out).below hb4)
  clear e0 e1 M hb4 hc k0
  go_wp2
  exact bodyPost_ret (v := .tuple #[.slice av O.length cv, .bool t]) (by simp [results, Tryz.results89, go_sem]) rfl ⟨_, rfl, HI4.out, HB4.out⟩
end Go.Proofs.YthchkhgimnchcaaGreat
