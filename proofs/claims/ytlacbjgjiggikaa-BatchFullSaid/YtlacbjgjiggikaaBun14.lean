/- Texts of this proof, joined: GrD; GrE; GraphRefB; GraphRefC; IntsPut; GraphRefD; GraphLaw; GrF; IsMath; IsA; IsB; IsC. -/
import Derived.Test.YtlacbjgjiggikaaBun13
import Derived.Lib.MinMax
import Derived.Laws.MakeOwn
import Derived.Laws.OwnMore
import Derived.Deep.DeepCutAuto
import Derived.Shelf.Abstract
/- Stage 16's program: eachFree, once for each function that is told (by wip/tools/gen_greach.py). -/
namespace Go.Proofs.Ytlacbjgjiggikaa
open Go.RowKit

theorem gframe_ex {A : Act} {F : (Nat → Value) → Act} (h : A = F (fun i => A.tmps.getD i undef)) : ∃ f, A = F f := ⟨_, h⟩
theorem frT_nil {nodes : List Int} {A : Int → Nat} {told : List Int} (h : frL nodes A told = []) : frT nodes A told = [] := by unfold frT; rw [h]; rfl
theorem frT_cons {nodes : List Int} {A : Int → Nat} {told : List Int} {x : Int} {t : List Int} (h : frL nodes A told = x :: t) : frsT (frT nodes A told) = (x, true) := by unfold frT; rw [h]; rfl
theorem lvJ_bd {H : List Int} {lx : Int} {j : Nat} {old : Int → Int} {b : Int} (h1 : ∀ n, 0 ≤ old n ∧ old n ≤ b) (h2 : 0 ≤ lx ∧ lx ≤ b) (n : Int) : 0 ≤ lvJ H lx j old n ∧ lvJ H lx j old n ≤ b + 1 := by
  have := h1 n
  unfold lvJ
  split <;> omega
theorem frSt_start {J : List Int → (Nat → Prop) → World → Prop} (T : TellJ J) {R F Fh : Nat → Prop} {w w1 : World} {p : Nat} {ab am : Nat} {ga : Int → Option Int} {a : Option Addr} {c hb hm : Nat} {gh : Int → Option Hd} {nodes : List Int} {H : Int → List Int}
    (hG : GrAt R w (.slice a nodes.length c) hb hm gh nodes H) (hI : MapI w ab am ga) (hRl : ∀ k, R k → k < w.heap.size) (hS : ¬ R ab ∧ (∀ k, F k → ¬ R k) ∧ ¬ F ab) (hJ : J [] F w)
    (hF : ∀ k, Fh k → w.heap.size + 1 ≤ k) (hh : HeapAt Fh w1 p []) (hb1 : Below (w.heap.size + 1) (w.alloc (.cells #[.slice a nodes.length c, .map (some hb), .map (some ab)] 61)) w1) :
    FrSt J (fun k => F k ∨ k = ab ∨ w.heap.size ≤ k) (fun k => R k ∨ k = w.heap.size) F Fh w (w1.alloc (.map #[] 0)) p [] w1.heap.size 0 (fun _ => none) ab am ga [] w.heap.size a c hb hm gh nodes H := by
  have hal := (Below.refl w.heap.size w).alloc (Nat.le_refl _) (.cells #[.slice a nodes.length c, .map (some hb), .map (some ab)] 61)
  have hX := Blk.new w [.slice a nodes.length c, .map (some hb), .map (some ab)] 61
  have hsz : (w.alloc (.cells #[.slice a nodes.length c, .map (some hb), .map (some ab)] 61)).heap.size = w.heap.size + 1 := by simp
  have hz1 : w.heap.size + 1 ≤ w1.heap.size := by have := hb1.size; rwa [hsz] at this
  have hb2 := (Below.refl w1.heap.size w1).alloc (Nat.le_refl _) (.map #[] 0)
  have hz2 : (w1.alloc (.map #[] 0)).heap.size = w1.heap.size + 1 := by simp
  have hB : Below w.heap.size w (w1.alloc (.map #[] 0)) := (hal.trans (hb1.mono (by omega))).trans (hb2.mono (by omega))
  have hal2 := hI.lt
  have hjl := T.lt hJ
  refine ⟨hh.kept hb2, MapI.new w1, hI.kept hB, T.out hJ hB.size fun k hk => hB.block k (hjl k hk), (hG.kept hB).mono fun k hk => .inl hk, (hX.kept (by rw [hsz]; exact hb1)).kept hb2, .inr rfl, fun k hk => by have := hjl k hk; omega, fun k hk => ?_, fun k h1 h2 => by have := hF k h1; have := hjl k h2; omega,
    fun k h1 h2 => ?_, fun h1 => by have := hh.lt _ h1; omega, fun h1 => by have := hF _ h1; omega, fun k h1 h2 => ?_, fun h1 => by have := hjl _ h1; omega, hS.2.2, fun h1 => ?_, fun h1 => ?_, by omega, fun k hk => .inl hk, fun k hk => .inr (.inr (by have := hF k hk; omega)), .inr (.inr (by omega)), .inr (.inl rfl), fun k hk => .inr (.inr hk), Only.of_below hB⟩
  · rcases hk with hk | hk
    · have := hRl k hk; omega
    · omega
  · have := hF k h1
    rcases h2 with h2 | h2
    · have := hRl k h2; omega
    · omega
  · rcases h2 with h2 | h2
    · exact hS.2.1 k h1 h2
    · have := hjl k h1; omega
  · rcases h1 with h1 | h1
    · have := hRl _ h1; omega
    · omega
  · rcases h1 with h1 | h1
    · exact hS.1 h1
    · omega
theorem hat_form {R : Nat → Prop} {w : World} {vn : Value} {hb hm : Nat} {gh : Int → Option Hd} {nodes : List Int} {H : Int → List Int} (h : GrAt R w vn hb hm gh nodes H) {n : Int} (hn : I64 n) : ∃ r c, hat gh n = .slice r (H n).length c := (h.rows n hn).form

set_option maxHeartbeats 4000000 in
set_option maxRecDepth 100000 in
theorem gEach_O (q : Value) {J : List Int → (Nat → Prop) → World → Prop} (T : TellJ J) {R F : Nat → Prop} (w : World) (a : Option Addr) (c hb hm ab : Nat) (gh : Int → Option Hd) (nodes : List Int) (arcs : List Arc16)
    (hri : risL nodes) (hN : nodes.length ≤ 640) (hA : arcs.length ≤ 640) (hBN : ∀ n ∈ nodes, I64 n)
    (hG : GrAt R w (.slice a nodes.length c) hb hm gh nodes (hdsL nodes arcs)) (hI : MapI w ab nodes.length (gA nodes (awL nodes arcs []))) (hRl : ∀ k, R k → k < w.heap.size) (hRa : ¬ R ab) (hFR : ∀ k, F k → ¬ R k) (hFa : ¬ F ab) (hJ : J [] F w)
    (hT : ∀ t F' w' x, J t F' w' → x ∈ nodes → x ∉ t → t.length ≤ 640 → Calls Try.prog 27 #[.int .i64 x, .int .i64 (lvG arcs t x), q] w' fun e w'' => e = .returned (.tuple #[]) ∧ ∃ F'', J (t ++ [x]) F'' w'' ∧ Mv F' F'' w' w'') :
    Calls Try.prog 26 #[grv a nodes.length c hb ab, .func (.func 27) #[] #[q]] w fun e w' => e = .returned (.tuple #[]) ∧ ∃ F', J (ordG nodes arcs nodes.length []) F' w' ∧ (∀ k, F' k → F k ∨ w.heap.size ≤ k) ∧ Only (fun k => F k ∨ k = ab) w w' := by
  have hmk2 : ∀ w : World, (Instr.makeMap 39 none).run Try.prog w = .ok (.map (some w.heap.size)) (w.alloc (.map #[] 0)) := fun w => by kernel_rfl
  have hal := (Below.refl w.heap.size w).alloc (Nat.le_refl _) (.cells #[.slice a nodes.length c, .map (some hb), .map (some ab)] 61)
  have hX := Blk.new w [.slice a nodes.length c, .map (some hb), .map (some ab)] 61
  obtain ⟨O, hO⟩ : ∃ O, ordG nodes arcs nodes.length [] = O := ⟨_, rfl⟩
  rw [hO]
  have NW := Lib.hid fun w => hNew_any w
  have HT := Lib.hid hT
  have HO := Lib.hid hO
  have HAL := Lib.hid hal
  have HXB := Lib.hid hX
  have HRI := Lib.hid hri
  have HBN := Lib.hid hBN
  have HG := Lib.hid hG
  have HI := Lib.hid hI
  have HRL := Lib.hid hRl
  have HS := Lib.hid (And.intro hRa (And.intro hFR hFa))
  have HJ := Lib.hid hJ
  have HNL := Lib.hid hN
  have HAA := Lib.hid hA
  clear hT hO hal hX hri hBN hG hI hRl hRa hFR hFa hJ hN hA
  go_enter Try.func26, Try.ntmps26
  go_wp2
  refine wp_scope_goto 0 (fun n a' w' => ∃ (p lb lm : Nat) (gl : Int → Option Int) (F' Fh : Nat → Prop) (told : List Int), n = nodes.length - told.length ∧
    FrSt J (fun k => F k ∨ k = ab ∨ w.heap.size ≤ k) (fun k => R k ∨ k = w.heap.size) F' Fh w w' p (frT nodes (awL nodes arcs told) told) lb lm gl ab nodes.length (gA nodes (awL nodes arcs told)) told w.heap.size a c hb hm gh nodes (hdsL nodes arcs) ∧
    OrdI nodes arcs told ∧ (∀ n ∈ nodes, (gl n).getD 0 = lvG arcs told n) ∧ lm ≤ told.length * 640 ∧ ordG nodes arcs n told = O ∧ ∃ f : Nat → Value, a' = { tmps := #[grv a nodes.length c hb ab, .func (.func 27) #[] #[q], .pointer (some ⟨w.heap.size, 0, none⟩), f 3, ptr13 p, .map (some lb), f 6, f 7, f 8, f 9, f 10, f 11, f 12, f 13, f 14, f 15, f 16, f 17, f 18, f 19, f 20, f 21, f 22, f 23, f 24, f 25, f 26, f 27, f 28, f 29, f 30, f 31, f 32, f 33, f 34, f 35, f 36, f 37, f 38, f 39, f 40, f 41, f 42, f 43, f 44, f 45, f 46, f 47, f 48, f 49, f 50, f 51, f 52, f 53, f 54, f 55, f 56, f 57, f 58, f 59, f 60, f 61, f 62, f 63, f 64, f 65, f 66], defers := [] }) rfl rfl ?_ ?_
  · rintro n a' w' ⟨p, lb, lm, gl, F', Fh, told, rfl, hst, hord, hlv, hlm, hog, f, rfl⟩ K hK
    have HK := Lib.hid hK
    have HST := Lib.hid hst
    have HORD := Lib.hid hord
    have HLV := Lib.hid hlv
    have HOG := Lib.hid hog
    have hTL := hord.ti.len
    have hPop := hPop_any w' hst.hh (by have := frT_len nodes (awL nodes arcs told) told; have := HNL.out; omega)
    clear hK hst hord hlv hog
    cases hfr : frL nodes (awL nodes arcs told) told with
    | nil =>
      have he := fr_none hfr (nodes.length - told.length)
      rw [frT_nil hfr] at hPop
      simp only [frsT] at hPop
      have HP := Lib.hid hPop
      have HE := Lib.hid he
      clear hPop he hfr hTL hlm
      go_wp2_with (go_at_call 39; (with_reducible refine HP.out.mono ?_); rintro e w1 ⟨rfl, Fh1, h1, m1⟩)
      have FS := HST.out.heap T h1 m1
      simp only [Exit.jump]
      go_end0
      refine ⟨rfl, F', ?_, fun k hk => ?_, FS.only.os, FS.only.tape, FS.only.output, FS.only.size, fun k hk hf => FS.only.block k hk ?_⟩
      · have hj := FS.hj
        rwa [← HE.out, HOG.out] at hj
      · rcases FS.xf k hk with h | h | h
        · exact .inl h
        · exact absurd (h ▸ hk) FS.d7
        · exact .inr h
      · rintro (h | h | h)
        · exact hf (.inl h)
        · exact hf (.inr h)
        · omega
    | cons x t =>
      obtain ⟨hstep, hxn, hxb, hxt⟩ := fr_head hfr (nodes.length - (told.length + 1))
      have hlt := HORD.out.ti.lt hxn hxb
      have hpop := frT_pop HRI.out hfr
      rw [frT_cons hfr, hpop] at hPop
      simp only at hPop
      have hx64 := HBN.out x hxn
      have hhx : x ∉ hdsL nodes arcs x := fun hm => head_new HORD.out hxn hxb hm (by simp)
      have hlx := lvG_bd arcs told x
      have HT1 := Lib.hid fun w1 (hj : J told F' w1) => HT.out told F' w1 x hj hxn hxt (by have := HNL.out; omega)
      have HLX := Lib.hid (HLV.out x hxn)
      have hO2 := HOG.out
      rw [show nodes.length - told.length = nodes.length - (told.length + 1) + 1 by omega, hstep] at hO2
      have HO2 := Lib.hid hO2
      have hnext := HORD.out.next hxn hxb
      have HNX := Lib.hid hnext
      have HP := Lib.hid hPop
      have HXT := Lib.hid hxt
      have HXN := Lib.hid hxn
      have HXBB := Lib.hid hxb
      have HHX := Lib.hid hhx
      have HLT := Lib.hid hlt
      have hgs := fun n hn => lvG_step arcs told hxn (n := n) hn
      have HGS := Lib.hid hgs
      have hlvb := fun n => lvG_bd arcs told n
      have HLB := Lib.hid hlvb
      obtain ⟨lx, hlxe⟩ : ∃ lx, lvG arcs told x = lx := ⟨_, rfl⟩
      rw [hlxe] at HT1 HLX hlx HGS
      have HX64 := Lib.hid hx64
      clear hstep hxn hxb hxt hpop hPop hhx hO2 hnext hgs hlvb hlxe hfr hx64
      have hTL30 : told.length ≤ 639 := by have := HNL.out; omega
      go_upto_region 10 with (go_at_call 39; (with_reducible refine HP.out.mono ?_); rintro e w1 ⟨rfl, Fh1, h1, m1⟩; have FS1 := Lib.hid (HST.out.heap T h1 m1); clear h1 m1)
      have lk := FS1.out.hl.look1 HX64.out
      rw [HLX.out] at lk
      go_upto_region 11 with (go_at_call 27; (with_reducible refine (HT1.out _ FS1.out.hj).mono ?_); rintro e w2 ⟨rfl, F2, j2, m2⟩; have FS2 := Lib.hid (FS1.out.tell T j2 m2); clear j2 m2 lk)
      have g1 := FS2.out.bx.cell 1 rfl
      obtain ⟨r, rc, hre⟩ := hat_form FS2.out.hg HX64.out
      have lk := FS2.out.hg.map.look1 HX64.out
      rw [hre] at lk
      have HRE := Lib.hid hre
      have hHl := hdL_len nodes arcs x
      have hHm : ∀ j (h : j < (hdsL nodes arcs x).length), (hdsL nodes arcs x)[j] ∈ nodes ∧ (hdsL nodes arcs x)[j] ≠ x ∧ (hdsL nodes arcs x)[j] ∉ told ++ [x] := fun j h => by
        have hm := List.getElem_mem h
        obtain ⟨_, _, _, _, _, h5⟩ := hdL_mem.1 hm
        exact ⟨h5, fun e => HHX.out (by rw [e] at hm; exact hm), head_new HORD.out HXN.out HXBB.out hm⟩
      have HHM := Lib.hid hHm
      have HHL := Lib.hid hHl
      clear hre hHm hHl
      go_wp2
      clear lk g1
      go_loopw [43] (fun i wr => ∃ (j lm' : Nat) (gl' : Int → Option Int) (Fh' : Nat → Prop), j ≤ (hdsL nodes arcs x).length ∧ i = .int .i64 j ∧
        FrSt J (fun k => F k ∨ k = ab ∨ w.heap.size ≤ k) (fun k => R k ∨ k = w.heap.size) F2 Fh' w wr p (frT nodes (awJ nodes arcs told x j) (told ++ [x])) lb lm' gl' ab nodes.length (gA nodes (awJ nodes arcs told x j)) (told ++ [x]) w.heap.size a c hb hm gh nodes (hdsL nodes arcs) ∧
        (∀ n ∈ nodes, (gl' n).getD 0 = lvJ (hdsL nodes arcs x) lx j (lvG arcs told) n) ∧ lm' ≤ told.length * 640 + j) (fun i _ => (hdsL nodes arcs x).length - (intOf i).toNat)
      case atStart => exact ⟨0, lm, gl, Fh1, Nat.zero_le _, rfl, by rw [awJ_zero]; exact FS2.out, fun n hn => by rw [lvJ_zero]; exact HLV.out n hn, hlm⟩
      case round =>
        obtain ⟨j, lm', gl', Fh', hj, rfl, hst, hlv, hlm'⟩ := hrel
        have HSR := Lib.hid hst
        have HLR := Lib.hid hlv
        by_cases hjl : j < (hdsL nodes arcs x).length
        · obtain ⟨gr, go, gc, e, hcc, _, p0⟩ := IntsAt.spot (HSR.out.hg.rows x HX64.out) j hjl
          rw [HRE.out] at e
          cases e
          obtain ⟨hhn, hhx, hht⟩ := HHM.out j hjl
          have hh64 := HBN.out _ hhn
          have hnl := fun n => lvJ_next (lx := lx) (old := lvG arcs told) hjl n
          have hna := fun n => awJ_next (nodes := nodes) (arcs := arcs) (told := told) (x := x) hjl n
          have hpo := awJ_pos (nodes := nodes) (arcs := arcs) HXT.out hjl
          have hdn := fun A' hA => frT_down HRI.out (A := awJ nodes arcs told x j) (A' := A') hhn hA hpo hht
          have hxj : x ∉ (hdsL nodes arcs x).take j := fun hm => HHX.out (List.mem_of_mem_take hm)
          have hlxv : lvJ (hdsL nodes arcs x) lx j (lvG arcs told) x = lvG arcs told x := by unfold lvJ; rw [if_neg hxj]
          have hbd := fun n => lvJ_bd (H := hdsL nodes arcs x) (lx := lx) (j := j) (old := lvG arcs told) (b := told.length) HLB.out hlx n
          have hbj := hbd ((hdsL nodes arcs x)[j])
          have hl1 := HLR.out _ hhn
          have hl2 := HLR.out x HXN.out
          rw [hlxv] at hl2
          have hlxe : lvG arcs told x = lx := by
            have h1 := HLV.out x HXN.out
            rw [HLX.out] at h1
            exact h1.symm
          rw [hlxe] at hl2
          have k1 := HSR.out.hl.look1 hh64
          have k2 := HSR.out.hl.look1 HX64.out
          rw [hl1] at k1
          rw [hl2] at k2
          have hjl60 : (hdsL nodes arcs x).length ≤ 640 := by have := HHL.out; have := HAA.out; omega
          generalize (hdsL nodes arcs x)[j]'hjl = h at *
          obtain ⟨y, hy⟩ : ∃ y, lvJ (hdsL nodes arcs x) lx j (lvG arcs told) h = y := ⟨_, rfl⟩
          rw [hy] at k1 hbj
          obtain ⟨mx, hmx⟩ : ∃ mx, max y (lx + 1) = mx := ⟨_, rfl⟩
          have hmxb : 0 ≤ mx ∧ mx ≤ 641 := by omega
          obtain ⟨wa, hrun1, ha1, ga1⟩ := HSR.out.hl.put (by omega) hh64 mx (by unfold I64; omega)
          have FSa := HSR.out.lev T ha1 ga1
          have k3 := FSa.ha.look1 hh64
          rw [gA_getD hhn] at k3
          obtain ⟨v, hv⟩ : ∃ v, awJ nodes arcs told x j h = v := ⟨_, rfl⟩
          rw [hv] at k3 hpo
          have hv60 : v ≤ 640 := by
            rw [← hv]
            have h1 := awL_len nodes arcs told h
            have h2 : awJ nodes arcs told x j h ≤ awL nodes arcs told h := Nat.sub_le _ _
            have := HAA.out
            omega
          obtain ⟨wb, hrun2, ha2, ga2⟩ := FSa.ha.put (by have := HNL.out; omega) hh64 ((v : Int) - 1) (by unfold I64; omega)
          have hA' : ∀ n, awJ nodes arcs told x (j + 1) n = if n = h then awJ nodes arcs told x j n - 1 else awJ nodes arcs told x j n := hna
          rw [if_pos (by rw [gA_some]; exact inL_iff.2 hhn), show ((v : Int) - 1) = ((v - 1 : Nat) : Int) by omega, gA_upd (A' := awJ nodes arcs told x (j + 1)) hhn (fun n => by
            rw [hA']
            by_cases e : n = h
            · rw [if_pos e, if_pos e, e, hv]
            · rw [if_neg e, if_neg e])] at ha2
          have FSb := FSa.awa T ha2 ga2
          have hv2 : awJ nodes arcs told x (j + 1) h = v - 1 := by rw [hA', if_pos rfl, hv]
          have hPif := gPif_any a nodes.length c hb ab nodes.length _ h ((v - 1 : Nat) : Int) wb FSb.ha FSb.hh (by have := frT_len nodes (awJ nodes arcs told x j) (told ++ [x]); have := HNL.out; omega) hh64 (by rw [gA_getD hhn, hv2])
          have hdown := hdn _ hA'
          rw [hv2] at hdown
          have e0 : (if ((v - 1 : Nat) : Int) = 0 then putT (frT nodes (awJ nodes arcs told x j) (told ++ [x])) (th0 h) else frT nodes (awJ nodes arcs told x j) (told ++ [x])) = frT nodes (awJ nodes arcs told x (j + 1)) (told ++ [x]) := by
            rw [hdown]
            by_cases e : v - 1 = 0
            · rw [if_pos e, if_pos (by omega)]
            · rw [if_neg e, if_neg (by omega)]
          rw [e0] at hPif
          have hnewl : ∀ n ∈ nodes, ((updG gl' h (some mx)) n).getD 0 = lvJ (hdsL nodes arcs x) lx (j + 1) (lvG arcs told) n := fun n hn => by
            unfold updG
            rw [hnl]
            by_cases e : n = h
            · rw [if_pos e, if_pos e, e, hy, hmx]; rfl
            · rw [if_neg e, if_neg e]; exact HLR.out n hn
          have b0 := HSR.out.bx.cell 0 rfl
          have b2 := FSa.bx.cell 2 rfl
          have c0 := FSb.bx.cell 0 rfl
          have c1 := FSb.bx.cell 1 rfl
          have c2 := FSb.bx.cell 2 rfl
          have j0 : (0 : Int) ≤ (j : Int) := by omega
          have j1 : (j : Int) < ((hdsL nodes arcs x).length : Int) := by omega
          have j2 : (j : Int) ≤ 640 := by omega
          have v0 : (1 : Int) ≤ (v : Int) := by omega
          have v1 : (v : Int) ≤ 640 := by omega
          have l0 : 0 ≤ lx := hlx.1
          have l1 : lx ≤ 640 := by omega
          have HPF := Lib.hid hPif
          have HNEW := Lib.hid hnewl
          have HLM : Hid ((if (gl' h).isSome then lm' else lm' + 1) ≤ told.length * 640 + (j + 1)) := Lib.hid (by split <;> omega)
          have HFB := Lib.hid FSb
          have HJL := Lib.hid hjl
          have y0 := hbj.1
          have y1 : y ≤ 641 := by omega
          have hbb : (((v - 1 : Nat) : Int)) = (v : Int) - 1 := by omega
          have HHN := Lib.hid hhn
          clear hst hlv hlm' hhn hhx hht hh64 hnl hna hpo hdn hxj hlxv hbd hbj hl1 hl2 hlxe hy hmxb FSa ha1 ga1 hv hv60 ha2 ga2 hA' FSb hv2 hPif hdown e0 hnewl hlm hbb hjl hjl60 hj b0
          go_wp2_with (go_at_call 38; (with_reducible refine HPF.out.mono ?_); rintro e wc ⟨rfl, Fh3, h3, m3⟩; have HF3 := Lib.hid (HFB.out.heap T h3 m3); clear h3 m3)
          go_roundw
          case rel => exact ⟨j + 1, _, _, Fh3, HJL.out, by go_num, HF3.out, HNEW.out, HLM.out⟩
          case measure => have := HJL.out; simp [intOf]; omega
        · have hje : j = (hdsL nodes arcs x).length := by omega
          subst hje
          rw [awJ_all HXT.out] at HSR
          have hnl : ∀ n ∈ nodes, (gl' n).getD 0 = lvG arcs (told ++ [x]) n := fun n hn => by rw [HLR.out n hn]; exact (HGS.out n hn).symm
          have hfin := HK.out (nodes.length - (told.length + 1)) 
          have HFI := Lib.hid hfin
          have HNL2 := Lib.hid hnl
          have HLM2 : Hid (lm' ≤ (told ++ [x]).length * 640) := Lib.hid (by rw [List.length_append]; have := HHL.out; have := HAA.out; simp; omega)
          have HEQ : Hid (nodes.length - (told.length + 1) = nodes.length - (told ++ [x]).length) := Lib.hid (by rw [List.length_append]; rfl)
          have HLT2 : Hid (nodes.length - (told.length + 1) < nodes.length - told.length) := Lib.hid (by have := HLT.out; omega)
          clear hst hlv hlm' hj hjl hnl hfin hlm
          go_wp2
          go_step3
          exact ⟨rfl, HFI.out _ _ HLT2.out ⟨p, lb, lm', gl', F2, Fh', told ++ [x], HEQ.out, HSR.out, HNX.out, HNL2.out, HLM2.out, HO2.out, gframe_ex rfl⟩⟩
  · intro K hK
    have HK := Lib.hid hK
    clear hK
    go_upto_region 3 with (go_at_call 37; (with_reducible refine (NW.out _).mono ?_); rintro e w1 ⟨p, Fh, rfl, hF, hh, hb1⟩)
    rw [show (w.alloc (.cells #[.slice a nodes.length c, .map (some hb), .map (some ab)] 61)).heap.size = w.heap.size + 1 by simp] at hF hb1
    have hst := frSt_start T HG.out HI.out HRL.out HS.out HJ.out hF hh hb1
    generalize w1.alloc (.map #[] 0) = w2 at *
    generalize w1.heap.size = lb at *
    have HST := Lib.hid hst
    have g0 := hst.bx.cell 0 rfl
    clear hst hF hh hb1 NW HT HXB HAL HG HI HRL HS HJ
    go_wp2
    clear g0
    go_loopw [17] (fun i wr => ∃ (k : Nat) (Fh' : Nat → Prop), k ≤ nodes.length ∧ i = .int .i64 k ∧
      FrSt J (fun k => F k ∨ k = ab ∨ w.heap.size ≤ k) (fun k => R k ∨ k = w.heap.size) F Fh' w wr p (frT (nodes.take k) (awL nodes arcs []) []) lb 0 (fun _ => none) ab nodes.length (gA nodes (awL nodes arcs [])) [] w.heap.size a c hb hm gh nodes (hdsL nodes arcs)) (fun i _ => nodes.length - (intOf i).toNat)
    case atStart => exact ⟨0, Fh, Nat.zero_le _, rfl, HST.out⟩
    case round =>
      obtain ⟨k, Fh', hk, rfl, hst⟩ := hrel
      have HSR := Lib.hid hst
      by_cases hlt : k < nodes.length
      · obtain ⟨gr, go, gc, e, hcc, _, p0⟩ := HSR.out.hg.row.spot k hlt
        cases e
        have hx64 := HBN.out _ (List.getElem_mem hlt)
        have hput := frT_put HRI.out (awL nodes arcs []) k hlt
        have hskip := frT_skip (awL nodes arcs []) k hlt
        obtain ⟨v, hv⟩ : ∃ v, awL nodes arcs [] nodes[k] = v := ⟨_, rfl⟩
        have hPif := gPif_any (some ⟨gr, go, none⟩) nodes.length c hb ab nodes.length _ nodes[k] (v : Int) wr HSR.out.ha HSR.out.hh (by have := frT_len (nodes.take k) (awL nodes arcs []) []; rw [List.length_take] at this; have := HNL.out; omega) hx64 (by rw [gA_getD (List.getElem_mem hlt), hv])
        rw [hv] at hput hskip
        have e0 : (if (v : Int) = 0 then putT (frT (nodes.take k) (awL nodes arcs []) []) (th0 nodes[k]) else frT (nodes.take k) (awL nodes arcs []) []) = frT (nodes.take (k + 1)) (awL nodes arcs []) [] := by
          by_cases e : v = 0
          · rw [if_pos (by omega), hput e]
          · rw [if_neg (by omega), hskip e]
        rw [e0] at hPif
        have c0 := HSR.out.bx.cell 0 rfl
        have c1 := HSR.out.bx.cell 1 rfl
        have c2 := HSR.out.bx.cell 2 rfl
        have j0 : (0 : Int) ≤ (k : Int) := by omega
        have j1 : (k : Int) < (nodes.length : Int) := by omega
        have j2 : (k : Int) ≤ 640 := by have := HNL.out; omega
        generalize nodes[k]'hlt = x at *
        have HPF := Lib.hid hPif
        clear hput hskip hPif e0 hv hst hx64
        go_wp2_with (go_at_call 38; (with_reducible refine HPF.out.mono ?_); rintro e wc ⟨rfl, Fh3, h3, m3⟩; have HF3 := Lib.hid (HSR.out.heap T h3 m3); clear h3 m3)
        go_roundw
        case rel => exact ⟨k + 1, Fh3, by omega, by go_num, HF3.out⟩
        case measure => simp [intOf]; omega
      · have hke : k = nodes.length := by omega
        subst hke
        rw [List.take_length] at HSR
        clear hst hk hlt
        go_wp2
        go_step3
        rename_i hback
        refine hback _ _ ?_
        exact HK.out _ _ _ ⟨p, lb, 0, fun _ => none, F, Fh', [], rfl, HSR.out, OrdI.nil _ _, fun n _ => (lvG_nil arcs n).symm ▸ rfl, Nat.zero_le _, HO.out, gframe_ex rfl⟩

end Go.Proofs.Ytlacbjgjiggikaa
/- Stage 16's program: what is told: a list in its box, a map of levels in its box; levelsOfTold. -/
namespace Go.Proofs.Ytlacbjgjiggikaa
open Go.RowKit

theorem hset1g {w : World} {b : Nat} {x : Value} {t : TypeId} (h : w.heap[b]? = some (.cells #[x] t)) (x' : Value) : (w.setCell ⟨b, 0, none⟩ x').heap[b]? = some (.cells #[x'] t) := by
  unfold World.setCell
  simp only [Array.getElem?_modify, if_pos, h, Option.map_some]
  rfl
/-- numbers that were told, in the box q -/
def JO (q : Nat) (t : List Int) (F : Nat → Prop) (w : World) : Prop := ∃ v, w.heap[q]? = some (.cells #[v] 29) ∧ OwnI w 0 v t ∧ ∀ k, F k ↔ k = q ∨ v.ownBlock = some k
theorem jo_tell (q : Nat) : TellJ (JO q) where
  lt := by
    rintro t F w ⟨v, h1, h2, h3⟩ k hk
    rcases (h3 k).1 hk with rfl | h
    · exact lt_of_block h1
    · exact (h2.cells k h).2.1
  out := by
    rintro t F w w' ⟨v, h1, h2, h3⟩ _ he
    exact ⟨v, (he q ((h3 q).2 (.inl rfl))).trans h1, h2.same fun k hk => he k ((h3 k).2 (.inr hk)), h3⟩
theorem jo_ne {q : Nat} {w : World} {v u : Value} {l : List Int} (hr : w.heap[q]? = some (.cells #[u] 29)) (h : OwnI w 0 v l) : v.ownBlock ≠ some q := fun e => by
  obtain ⟨_, _, cur, hc⟩ := h.cells q e
  rw [hr] at hc
  cases hc
/-- levels that were told, in the map tb of the box q -/
def JL (arcs : List Arc16) (q tb : Nat) (t : List Int) (F : Nat → Prop) (w : World) : Prop := w.heap[q]? = some (.cells #[.map (some tb)] 39) ∧ MapI w tb t.length (gT arcs t) ∧ ∀ k, F k ↔ k = q ∨ k = tb
theorem jl_tell (arcs : List Arc16) (q tb : Nat) : TellJ (JL arcs q tb) where
  lt := by
    rintro t F w ⟨h1, h2, h3⟩ k hk
    rcases (h3 k).1 hk with rfl | rfl
    · exact lt_of_block h1
    · exact h2.lt
  out := by
    rintro t F w w' ⟨h1, h2, h3⟩ _ he
    exact ⟨(he q ((h3 q).2 (.inl rfl))).trans h1, h2.same (he tb ((h3 tb).2 (.inr rfl))), h3⟩

set_option maxHeartbeats 1000000 in
theorem gOrd1_any (q : Nat) (t : List Int) (F : Nat → Prop) (w : World) (x : Int) (lv : Int) (h : JO q t F w) (ht : t.length ≤ 1000) :
    Calls Try.prog 27 #[.int .i64 x, .int .i64 lv, .pointer (some ⟨q, 0, none⟩)] w fun e w' => e = .returned (.tuple #[]) ∧ ∃ F', JO q (t ++ [x]) F' w' ∧ Mv F F' w w' := by
  obtain ⟨i0, hi, hz0, hz1, hz2⟩ := info_parts info_int
  obtain ⟨v, h1, h2, h3⟩ := h
  have hal := (Below.refl w.heap.size w).alloc (Nat.le_refl _) (.cells #[.int .i64 x] 3)
  have hr4 : (w.alloc (.cells #[.int .i64 x] 3)).heap[q]? = some (.cells #[v] 29) := (Below.heap_alloc w _ q (lt_of_block h1)).trans h1
  have ho4 := OwnR.alloc h2 (.cells #[.int .i64 x] 3)
  have c0 : w.cell? ⟨q, 0, none⟩ = some v := by simp [World.cell?, h1]
  have HNE := Lib.hid (jo_ne h1 h2)
  have HQ := Lib.hid (lt_of_block h1)
  have HR4 := Lib.hid hr4
  have HO4 := Lib.hid ho4
  have H3 := Lib.hid h3
  have HAL := Lib.hid hal
  obtain ⟨a, c, hv⟩ := (OwnI.ints h2).form
  subst hv
  clear h1 h2 h3 hr4 ho4 hal
  go_enter Try.func27, Try.ntmps27
  go_wp2_with (at_builtin; refine wpList_append_lies _ rfl _ _ 29 rfl 0 3 i0 (.int .i64 0) 1 8 Try.underlying29 hi hz0 hz1 hz2 rfl (by omega) (.slice a t.length c) t.length (flats csI t) rfl HO4.out ⟨w.heap.size, 0, none⟩ 1 1 [.int .i64 x] rfl rfl (World.news_of_block (cs := #[.int .i64 x]) (t := 3) (fr := (0, 0)) (heap_alloc_new w _)) (by simp [Value.oneCell']) (by omega) (by unfold maxLen; omega) (by omega) (Nat.zero_le _) (w.heap.size + 1) (by simp) ?_; intro gg cap w5 ho5 hg5 hat5 hlt5; have hr5 := (hg5.block q (by have := HQ.out; simp; omega) (fun e => HNE.out e.symm)).trans HR4.out; have c5 : w5.cell? ⟨q, 0, none⟩ = some (.slice a t.length c) := (by simp [World.cell?, hr5]); have z5 : w5.frozen? ⟨q, 0, none⟩ = false := (by simp [World.frozen?, hr5]); have O5 : Hid (OwnI w5 0 (.slice (some ⟨gg, 0, none⟩) (t.length + 1) cap) (t ++ [x])) := Lib.hid (OwnR.snoc ho5 rfl rfl); have R5 := Lib.hid hr5; have G5 := Lib.hid hg5; have A5 := Lib.hid hat5; clear ho5 hr5 hg5 hat5 hlt5)
  go_end0
  have hgq : gg ≠ q := fun e => by
    rcases A5.out with h | h
    · exact HNE.out (e ▸ h)
    · have := HQ.out; omega
  have hgrow := (Only.of_below (F := F) HAL.out).trans (Only.grown G5.out fun k e => (H3.out k).2 (.inr e))
  refine ⟨rfl, fun k => k = q ∨ k = gg, ⟨_, hset1g R5.out _, OwnR.away O5.out _ _ (by simpa [Value.ownBlock] using hgq), fun k => ?_⟩, ⟨hgrow.set _ _ ((H3.out q).2 (.inl rfl)), fun k hk => ?_⟩⟩
  · simp [Value.ownBlock, eq_comm]
  · rcases hk with rfl | rfl
    · exact .inl ((H3.out k).2 (.inl rfl))
    · rcases A5.out with h | h
      · exact .inl ((H3.out k).2 (.inr h))
      · exact .inr (by omega)

end Go.Proofs.Ytlacbjgjiggikaa
/- Stage 16: the document's Order, Left. -/
namespace Go.Proofs.Ytlacbjgjiggikaa
open Go.RowKit

def slen : Value → Nat
  | .slice _ n _ => n
  | _ => 0

end Go.Proofs.Ytlacbjgjiggikaa
/- Stage 16: the document's Reach. -/
namespace Go.Proofs.Ytlacbjgjiggikaa
open Go.RowKit

end Go.Proofs.Ytlacbjgjiggikaa
/- Lists of numbers of one's own: made with so many zeros; one written in its place. FOR ALL LATER STAGES. -/
namespace Go.Proofs.Ytlacbjgjiggikaa
open Go.RowKit

theorem flatsI_set : ∀ (L : List Int) (i : Nat) (x : Int), flats csI (L.set i x) = (flats csI L).set i (.int .i64 x)
  | [], _, _ => rfl
  | y :: L, 0, x => rfl
  | y :: L, i + 1, x => by
    have e1 : flats csI ((y :: L).set (i + 1) x) = csI y ++ flats csI (L.set i x) := rfl
    have e2 : flats csI (y :: L) = csI y ++ flats csI L := rfl
    rw [e1, e2, flatsI_set L i x]
    rfl
theorem OwnI.put {w : World} {B g n cap : Nat} {L : List Int} (h : OwnI w B (.slice (some ⟨g, 0, none⟩) n cap) L) (i : Nat) (x : Int) :
    OwnI (w.setCell ⟨g, i, none⟩ (.int .i64 x)) B (.slice (some ⟨g, 0, none⟩) n cap) (L.set i x) := by
  unfold OwnI OwnR at *
  rw [List.length_set, flatsI_set]
  refine ⟨by rw [List.length_set]; exact h.1, ?_⟩
  rcases h.2 with ⟨h0, _⟩ | ⟨g', cap', cur, e, hg, hh, hnc, hcp, hcs, htake⟩
  · cases h0
  · cases e
    refine .inr ⟨g, cap, cur.setIfInBounds i (.int .i64 x), rfl, hg, ?_, hnc, hcp, by simpa using hcs, ?_⟩
    · unfold World.setCell
      simp only [Array.getElem?_modify, if_pos, hh, Option.map_some]
      rfl
    · rw [Array.toList_setIfInBounds, List.take_set, htake]
/-- where it lies -/
theorem OwnI.place {w : World} {B : Nat} {v : Value} {L : List Int} (h : OwnI w B v L) (i : Nat) (hi : i < L.length) : ∃ g cap, v = .slice (some ⟨g, 0, none⟩) L.length cap ∧ B ≤ g ∧ L.length ≤ cap ∧ g < w.heap.size ∧ w.cell? ⟨g, i, none⟩ = some (.int .i64 (L[i]'hi)) ∧ w.frozen? ⟨g, i, none⟩ = false := by
  rcases h.2 with ⟨rfl, h0⟩ | ⟨g, cap, cur, rfl, hg, hh, hnc, hcp, hcs, htake⟩
  · omega
  · refine ⟨g, cap, rfl, hg, hnc, lt_of_block hh, ?_, by simp [World.frozen?, hh]⟩
    have h1 := flats_at csI_len L i _ (List.getElem?_eq_getElem hi) 0 (.int .i64 (L[i]'hi)) rfl
    rw [Nat.mul_one, Nat.add_zero, ← htake, List.getElem?_take_of_lt (by omega)] at h1
    simp only [World.cell?, hh]
    simpa using h1
theorem makeI (w : World) (n : Nat) (hn : n ≤ 1000000) : ∃ w', (Instr.makeSlice 29 (.int .i64 (n : Int)) (.int .i64 (n : Int))).run Try.prog w = .ok (.slice (some ⟨w.heap.size, 0, none⟩) n n) w' ∧ OwnI w' w.heap.size (.slice (some ⟨w.heap.size, 0, none⟩) n n) (List.replicate n 0) ∧ Below w.heap.size w w' := by
  obtain ⟨i0, hi, hz0, hz1, hz2⟩ := info_parts info_int
  have hmk := run_make (P := Try.prog) w 29 3 i0 (.int .i64 0) Try.underlying29 hi hz0 .i64 .i64 n n (by omega) (Int.le_refl _) (by rw [hz2]; omega) (by omega)
  rw [Int.toNat_natCast, hz1, Nat.mul_one] at hmk
  refine ⟨_, hmk, ?_, (Below.refl _ _).alloc (Nat.le_refl _) _⟩
  unfold OwnI OwnR
  rw [List.length_replicate]
  refine ⟨by rw [flats_length csI_len, List.length_replicate], .inr ⟨w.heap.size, n, _, rfl, Nat.le_refl _, heap_alloc_new w _, Nat.le_refl _, by unfold maxLen; omega, ?_, ?_⟩⟩
  · rw [size_madeCells]
    simp
  · show ((madeCells #[.int .i64 0] n).toList).take (n * 1) = _
    rw [toList_madeCells_one, Nat.mul_one, List.take_of_length_le (by simp)]
    clear hmk hn
    induction n with
    | zero => rfl
    | succ n ih =>
      rw [List.replicate_succ, List.replicate_succ, ih]
      rfl
end Go.Proofs.Ytlacbjgjiggikaa
/- Stage 16: the document's Levels. -/
namespace Go.Proofs.Ytlacbjgjiggikaa
open Go.RowKit

end Go.Proofs.Ytlacbjgjiggikaa
/- The laws GraphOrders, GraphReaches, over the program's contracts as one structure. -/
namespace Go.Proofs.Ytlacbjgjiggikaa
open Go.RowKit

theorem arcsLit (w : World) (l : List Arc16) (t : TypeId) : ArcsAt (w.alloc (.cells (flats csArc l).toArray t)) (.slice (some ⟨w.heap.size, 0, none⟩) l.length l.length) l := by
  refine ⟨_, l.length, rfl, Nat.le_refl _, fun _ => ⟨w.heap.size, 0, rfl, by simp, fun j x hj i u hu => ?_⟩⟩
  have h := flats_at csArc_len l j x hj i u hu
  have hh : (w.alloc (.cells (flats csArc l).toArray t)).heap[w.heap.size]? = some (.cells (flats csArc l).toArray t) := heap_alloc_new w _
  unfold World.cell?
  simp only [hh, Nat.zero_add]
  simpa using h

end Go.Proofs.Ytlacbjgjiggikaa
/- Stage 16's program: levelsOfTold, Order, Left, Levels. -/
namespace Go.Proofs.Ytlacbjgjiggikaa
open Go.RowKit

set_option maxHeartbeats 2000000 in
set_option maxRecDepth 100000 in
theorem gOrder_any (va vb : Value) (l : List Int) (arcs : List Arc16) (w : World) (ha : IntsAt w va l) (hb : ArcsAt w vb arcs) (hl : l.length ≤ 640) (hal : arcs.length ≤ 640) (hB : B64 l) (hBa : B64a arcs) :
    Calls Try.prog 19 #[va, vb] w fun e w' => ∃ v, e = .returned (.tuple #[v, .bool (decide ((ordL l arcs).length = (setL l).length))]) ∧ IntsAt w' v (ordL l arcs) ∧ Below w.heap.size w w' := by
  have hmf : ∀ (fn : Fn) (first cap : Array Value) (w : World), (Instr.makeFunc fn first cap).run Try.prog w = .ok (.func fn first cap) w := fun _ _ _ _ => rfl
  have hN : (setL l).length ≤ 640 := Nat.le_trans (setL_le l) hl
  have hBN : ∀ n ∈ setL l, I64 n := fun n hn => hB n ((setL_mem l n).1 hn)
  have GO := Lib.hid (gOf_any va vb l arcs w ha hb hl hal hB hBa)
  have HRI := Lib.hid (setL_ris l)
  have HBN := Lib.hid hBN
  have HOL := Lib.hid (show ordG (setL l) arcs (setL l).length [] = ordL l arcs from rfl)
  generalize ordL l arcs = O at *
  generalize setL l = N at *
  obtain ⟨t, ht⟩ : ∃ t, decide (O.length = N.length) = t := ⟨_, rfl⟩
  have he : ((O.length : Int) == (N.length : Int)) = t := by
    rw [← ht]
    by_cases e : O.length = N.length
    · simp [e]
    · rw [decide_eq_false e, beq_noI (by omega)]
  have HEE := Lib.hid he
  rw [ht]
  clear ha hb hB hBa hBN ht he
  go_enter Try.func19, Try.ntmps19
  go_upto_region 3 with (go_at_call 25; (with_reducible refine GO.out.mono ?_); rintro e w1 ⟨a, c, mb, ab, hm, gh, rfl, hab, hG, hI, hb1⟩; have HAB := Lib.hid hab; have HG := Lib.hid hG; have HI := Lib.hid hI; have HB1 := Lib.hid hb1; clear hab hG hI hb1)
  have b1 := (Below.refl w1.heap.size w1).alloc (Nat.le_refl _) (.cells #[.slice a N.length c, .map (some mb), .map (some ab)] 61)
  have hX := Blk.new w1 [.slice a N.length c, .map (some mb), .map (some ab)] 61
  have hz : (w1.alloc (.cells #[.slice a N.length c, .map (some mb), .map (some ab)] 61)).heap.size = w1.heap.size + 1 := by simp
  have b2 := (Below.refl _ (w1.alloc (.cells #[.slice a N.length c, .map (some mb), .map (some ab)] 61))).alloc (Nat.le_refl _) (.cells #[.slice none 0 0] 29)
  have hq := heap_alloc_new (w1.alloc (.cells #[.slice a N.length c, .map (some mb), .map (some ab)] 61)) (.cells #[.slice none 0 0] 29)
  rw [hz] at hq
  have hx2 := hX.kept b2
  have hB := b1.trans (b2.mono b1.size)
  generalize (w1.alloc (.cells #[.slice a N.length c, .map (some mb), .map (some ab)] 61)).alloc (.cells #[.slice none 0 0] 29) = w2 at *
  have hJ : JO (w1.heap.size + 1) [] (fun k => k = w1.heap.size + 1) w2 := ⟨_, hq, OwnR.nil _ _ _ _ _, fun k => by simp [Value.ownBlock]⟩
  have hba := HI.out.lt
  have hw1 := HB1.out.size
  have hE := gEach_O (.pointer (some ⟨w1.heap.size + 1, 0, none⟩)) (jo_tell (w1.heap.size + 1)) w2 a c mb hm ab gh N arcs HRI.out hN hal HBN.out (HG.out.kept hB) (HI.out.kept hB)
    (fun k hk => Nat.lt_of_lt_of_le hk.2.1 hB.size) (fun h => h.2.2 rfl) (fun k hk hr => by have := hr.2.1; omega) (fun h => by omega) hJ
    (fun t F' w' x hj hx hxt ht => gOrd1_any _ t F' w' x _ hj (by omega))
  rw [HOL.out] at hE
  have HE := Lib.hid hE
  have HX2 := Lib.hid hx2
  have g0 := hx2.cell 0 rfl
  have g1 := hx2.cell 1 rfl
  have g2 := hx2.cell 2 rfl
  have HBB := Lib.hid (HB1.out.trans (hB.mono hw1))
  have HBA := Lib.hid (And.intro hba hw1)
  clear hE hx2 hB hJ hba b1 b2 hz hq hX hw1 GO
  go_wp2_with (go_at_call 26; (with_reducible refine HE.out.mono ?_); rintro e w3 ⟨rfl, F', ⟨v, hj1, hj2, hj3⟩, hf, ho⟩; have hx3 := HX2.out.only ho (by rintro (h | h) <;> (have := HBA.out; omega)); have k0 := hx3.cell 0 rfl; have hc : w3.cell? ⟨w1.heap.size + 1, 0, none⟩ = some v := (by simp [World.cell?, hj1]); have HJ2 := Lib.hid hj2; have HO3 := Lib.hid ho; clear hj1 hj2 hj3 hf ho g0 g1 g2 hx3)
  obtain ⟨av, cv, ev⟩ := (OwnI.ints HJ2.out).form
  subst ev
  have HB3 : Hid (Below w.heap.size w w3) := Lib.hid (HBB.out.trans (HO3.out.below (fun k hk => by rcases hk with h | h <;> (have := HBA.out; have := HAB.out; omega)) HBB.out.size))
  have he := HEE.out
  refine wp_region_calm0 (by kernel_rfl) (by kernel_rfl) fun M => ?_
  have e0 := fun n : In M.w => n.cell (M.cell hc)
  have e1 := fun n : In M.w => n.cell (M.cell k0)
  repeat (go_big_quiet_step (fail))
  refine wpQuiet_nil ?_
  intro w4 hb4
  have HB4 := Lib.hid (HB3.out.trans (hb4.mono HB3.out.size))
  have HI4 := Lib.hid ((OwnI.ints HJ2.out).below hb4)
  clear e0 e1 M hb4 hc k0
  go_wp2
  exact bodyPost_ret (v := .tuple #[.slice av O.length cv, .bool t]) (by simp [results, Try.results19, go_sem]) rfl ⟨_, rfl, HI4.out, HB4.out⟩
end Go.Proofs.Ytlacbjgjiggikaa
/- Stage 17's program: plain mathematics of what is asked and told, one number behind the other. -/
namespace Go.Proofs.Ytlacbjgjiggikaa

/-- one number behind the other is asked, till it is so of one -/
def runS {σ : Type} (f : σ → Int → σ × Bool) : σ → List Int → σ × Bool
  | s, [] => (s, false)
  | s, x :: l => if (f s x).2 then ((f s x).1, true) else runS f (f s x).1 l
theorem runS_cons {σ : Type} (f : σ → Int → σ × Bool) (s : σ) (x : Int) (l : List Int) : runS f s (x :: l) = if (f s x).2 then ((f s x).1, true) else runS f (f s x).1 l := rfl
theorem runS_no {σ : Type} (f : σ → Int → σ × Bool) (s : σ) (l : List Int) (k : Nat) (h : k < l.length) (hf : (f s l[k]).2 = false) : runS f s (l.drop k) = runS f (f s l[k]).1 (l.drop (k + 1)) := by
  rw [List.drop_eq_getElem_cons h, runS_cons, hf]
  simp
theorem runS_yes {σ : Type} (f : σ → Int → σ × Bool) (s : σ) (l : List Int) (k : Nat) (h : k < l.length) (hf : (f s l[k]).2 = true) : runS f s (l.drop k) = ((f s l[k]).1, true) := by
  rw [List.drop_eq_getElem_cons h, runS_cons, hf]
  simp
theorem runS_end {σ : Type} (f : σ → Int → σ × Bool) (s : σ) (l : List Int) : runS f s (l.drop l.length) = (s, false) := by
  rw [List.drop_length]
  rfl
theorem runS_each {σ : Type} (g : σ → Int → σ) : ∀ (l : List Int) (s : σ), runS (fun s x => (g s x, false)) s l = (l.foldl g s, false)
  | [], _ => rfl
  | x :: l, s => by
    have := runS_each g l (g s x)
    rw [runS_cons]
    simpa using this
theorem runS_any (p : Int → Bool) : ∀ (l : List Int), (runS (fun (_ : Unit) x => ((), p x)) () l).2 = l.any p
  | [] => rfl
  | x :: l => by
    have := runS_any p l
    rw [runS_cons]
    cases h : p x <;> simp_all
theorem any_in (l : List Int) (n : Int) : l.any (fun m => m == n) = inL l n := by
  unfold inL
  rw [Bool.eq_iff_iff, List.any_eq_true, decide_eq_true_iff]
  constructor
  · rintro ⟨x, h1, h2⟩
    have := eq_of_beq h2
    rwa [← this]
  · intro h
    exact ⟨n, h, by simp⟩
theorem any_not (a b : List Int) : (!a.any fun x => !inL b x) = withinB a b := by
  rw [Bool.eq_iff_iff, within_iff, List.not_any_eq_all_not, List.all_eq_true]
  constructor
  · intro h x hx
    have := h x hx
    rw [Bool.not_not] at this
    exact inL_iff.1 this
  · intro h x hx
    rw [Bool.not_not]
    exact inL_iff.2 (h x hx)
/-- does it not rise -/
def rgt (a n : Int) : Int × Bool := (n, !decide (a < n))
theorem ris_two {a x : Int} {l : List Int} : risL (a :: x :: l) ↔ a < x ∧ risL (x :: l) := by
  unfold risL
  rw [List.pairwise_cons]
  constructor
  · rintro ⟨h1, h2⟩
    exact ⟨h1 x (by simp), h2⟩
  · rintro ⟨h1, h2⟩
    refine ⟨fun y hy => ?_, h2⟩
    rcases List.mem_cons.1 hy with rfl | hy
    · exact h1
    · have := (List.pairwise_cons.1 h2).1 y hy
      omega
theorem runS_right : ∀ (l : List Int) (a : Int), (runS rgt a l).2 = !rightB (a :: l)
  | [], a => by
    have : risL [a] := List.pairwise_singleton _ _
    simp [runS, rightB, this]
  | x :: l, a => by
    have ih := runS_right l x
    rw [runS_cons]
    show (if (!decide (a < x)) = true then (x, true) else runS rgt x l).2 = _
    by_cases h : a < x
    · have e : rightB (a :: x :: l) = rightB (x :: l) := by
        unfold rightB
        exact decide_eq_decide.2 (ris_two.trans (and_iff_right h))
      rw [e, ← ih]
      simp [h]
    · have e : rightB (a :: x :: l) = false := by
        unfold rightB
        exact decide_eq_false fun hr => h (ris_two.1 hr).1
      rw [e]
      simp [h]
/-- the least above n of those that were told -/
def abS (n : Int) (s : Int × Bool) (m : Int) : Int × Bool := if n < m ∧ (s.2 = false ∨ m < s.1) then (m, true) else s
def AbI (n : Int) (p : List Int) (s : Int × Bool) : Prop := (s = (0, false) ∧ ∀ x ∈ p, x ≤ n) ∨ (s.2 = true ∧ s.1 ∈ p ∧ n < s.1 ∧ ∀ x ∈ p, n < x → s.1 ≤ x)
theorem AbI.step {n : Int} {p : List Int} {s : Int × Bool} (h : AbI n p s) (m : Int) : AbI n (p ++ [m]) (abS n s m) := by
  unfold abS
  obtain ⟨a, b⟩ := s
  by_cases hc : n < m ∧ (b = false ∨ m < a)
  · rw [if_pos hc]
    refine .inr ⟨rfl, by simp, hc.1, fun x hx hn => ?_⟩
    rcases List.mem_append.1 hx with hx | hx
    · rcases h with ⟨e, h⟩ | ⟨e, h1, h2, h3⟩
      · have := h x hx; omega
      · have h4 := h3 x hx hn
        have h5 : m < a := hc.2.resolve_left fun e2 => by simp only at e; rw [e2] at e; cases e
        simp only at h4 ⊢
        omega
    · rw [List.mem_singleton.1 hx]
      exact Int.le_refl _
  · rw [if_neg hc]
    rcases h with ⟨e, h⟩ | ⟨e, h1, h2, h3⟩
    · refine .inl ⟨e, fun x hx => ?_⟩
      rcases List.mem_append.1 hx with hx | hx
      · exact h x hx
      · rw [List.mem_singleton.1 hx]
        cases e
        exact Int.not_lt.1 fun h => hc ⟨h, .inl rfl⟩
    · refine .inr ⟨e, List.mem_append_left _ h1, h2, fun x hx hn => ?_⟩
      rcases List.mem_append.1 hx with hx | hx
      · exact h3 x hx hn
      · rw [List.mem_singleton.1 hx] at hn ⊢
        exact Int.not_lt.1 fun h => hc ⟨hn, .inr h⟩
theorem AbI.fold {n : Int} : ∀ (l p : List Int) (s : Int × Bool), AbI n p s → AbI n (p ++ l) (l.foldl (abS n) s)
  | [], p, s, h => by simpa using h
  | x :: l, p, s, h => by
    have := AbI.fold l (p ++ [x]) _ (h.step x)
    rw [List.append_assoc] at this
    exact this
theorem AbI.is {n : Int} {l : List Int} {s : Int × Bool} (h : AbI n l s) : s = abvL l n := by
  unfold abvL
  rcases h with ⟨e, h⟩ | ⟨e, h1, h2, h3⟩
  · have hf : (setL l).find? (fun x => decide (n < x)) = none := by
      rw [List.find?_eq_none]
      intro x hx
      have := h x ((setL_mem l x).1 hx)
      simp; omega
    rw [hf, e]
  · obtain ⟨a, b⟩ := s
    simp only at e h1 h2 h3
    subst e
    obtain ⟨k, hk, e⟩ := List.getElem_of_mem ((setL_mem l a).2 h1)
    have hr := setL_ris l
    have hf := ris_find (n := n) hr hk (by omega) fun i hi => by
      have h4 := List.pairwise_iff_getElem.1 hr i k (by omega) hk hi
      have h5 := h3 _ ((setL_mem l _).1 (List.getElem_mem (show i < (setL l).length by omega)))
      omega
    rw [hf, e]
theorem abv_fold (l : List Int) (n : Int) : l.foldl (abS n) (0, false) = abvL l n := (AbI.fold l [] (0, false) (.inl ⟨rfl, fun _ h => by cases h⟩)).is
/-- those that are wanted -/
def pkS (p : Int → Bool) (t : List Int) (x : Int) : List Int := if p x then t ++ [x] else t
theorem pk_fold (p : Int → Bool) : ∀ (l t : List Int), l.foldl (pkS p) t = t ++ l.filter p
  | [], t => by simp
  | x :: l, t => by
    have := pk_fold p l (pkS p t x)
    rw [List.foldl_cons, this]
    unfold pkS
    cases h : p x <;> simp [h]
theorem pick_pos (a b : List Int) : (setL a).filter (inL b) = andL a b := by
  unfold andL pickL
  congr 1
  funext x
  cases inL b x <;> rfl
theorem pick_neg (a b : List Int) : ((setL a).filter fun x => !inL b x) = lessL a b := by
  unfold lessL pickL
  congr 1
  funext x
  cases inL b x <;> rfl
theorem inL_set (b : List Int) (x : Int) : inL (setL b) x = inL b x := by
  unfold inL
  exact decide_eq_decide.2 (setL_mem b x)
theorem or_cat (a b : List Int) : setL ([a, b].flatten) = orL a b := by
  unfold orL
  simp
theorem set_sort (l : List Int) : Lib.compact (l.mergeSort fun x y => decide (x ≤ y)) = setL l := by
  refine rise_ext (compact_rise (sorted_ms l)) (setL_ris l) fun m => ?_
  rw [compact_mem, List.mem_mergeSort, setL_mem]
end Go.Proofs.Ytlacbjgjiggikaa
/- Stage 17's program: some: a function that is handed on is asked one number of a list behind the other. -/
namespace Go.Proofs.Ytlacbjgjiggikaa
open Go.RowKit

/-- what a handed function keeps: s, in the blocks F -/
structure KeepJ {σ : Type} (J : σ → (Nat → Prop) → World → Prop) : Prop where
  lt : ∀ {s F w}, J s F w → ∀ k, F k → k < w.heap.size
  out : ∀ {s F w w'}, J s F w → w.heap.size ≤ w'.heap.size → (∀ k, F k → w'.heap[k]? = w.heap[k]?) → J s F w'
theorem KeepJ.kept {σ : Type} {J : σ → (Nat → Prop) → World → Prop} (T : KeepJ J) {s : σ} {F : Nat → Prop} {w w' : World} (h : J s F w) (hb : Below w.heap.size w w') : J s F w' := T.out h hb.size fun k hk => hb.block k (T.lt h k hk)

set_option maxHeartbeats 1000000 in
theorem iSome_any {σ : Type} {J : σ → (Nat → Prop) → World → Prop} (f : σ → Int → σ × Bool) (g : FuncId) (q : Value) (eg : ∀ args w, (callFunc g args).run Try.prog w = .ok (.enter g args) w)
    (va : Value) (l : List Int) (w : World) (hl : IntsAt w va l) (hlen : l.length ≤ 1000000) (s0 : σ) (F0 : Nat → Prop) (hF : OffV F0 va l.length) (hJ : J s0 F0 w) (R : Nat → σ → Prop) (hR0 : R 0 s0) (hRs : ∀ k s x, R k s → R (k + 1) (f s x).1)
    (hT : ∀ s F w' x k, x ∈ l → k < l.length → R k s → J s F w' → Only F0 w w' → Calls Try.prog g #[.int .i64 x, q] w' fun e w'' => e = .returned (.bool (f s x).2) ∧ ∃ F', J (f s x).1 F' w'' ∧ Mv F F' w' w'') :
    Calls Try.prog 47 #[va, .func (.func g) #[] #[q]] w fun e w' => e = .returned (.bool (runS f s0 l).2) ∧ ∃ F', J (runS f s0 l).1 F' w' ∧ Mv F0 F' w w' := by
  obtain ⟨r, hr⟩ : ∃ r, runS f s0 l = r := ⟨_, rfl⟩
  rw [hr]
  have HR := Lib.hid hr
  have HT := Lib.hid hT
  have HRS := Lib.hid hRs
  have HR0 := Lib.hid hR0
  have HJ := Lib.hid hJ
  have HF := Lib.hid hF
  have HL := Lib.hid hl
  have HLE := Lib.hid hlen
  obtain ⟨a, c, rfl⟩ := hl.form
  clear hr hT hJ hF hl hRs hR0
  go_enter Try.func47, Try.ntmps47
  go_wp2
  refine wp_scope_goto 0 (fun n a' w' => ∃ (j : Nat) (z : Int) (s : σ) (F : Nat → Prop), n = l.length - j ∧ z = j ∧ j ≤ l.length ∧ runS f s (l.drop j) = r ∧ R j s ∧ J s F w' ∧ Mv F0 F w w' ∧ ∃ u2 u3 u6 u7 u8 u9 u10 u11 u12 u13 u14 u15 u16 u17, a' = { tmps := #[.slice a l.length c, .func (.func g) #[] #[q], u2, u3, .bool false, .int .i64 z, u6, u7, u8, u9, u10, u11, u12, u13, u14, u15, u16, u17], defers := [] }) rfl rfl ?_ ?_
  · rintro n a' w' ⟨j, _, s, F, rfl, rfl, hj, hrun, hrk, hj2, hmv, u2, u3, u6, u7, u8, u9, u10, u11, u12, u13, u14, u15, u16, u17, rfl⟩ K hK
    have HK := Lib.hid hK
    have HJ2 := Lib.hid hj2
    have HM := Lib.hid hmv
    have HRU := Lib.hid hrun
    have HRK := Lib.hid hrk
    clear hK hj2 hmv hrun hrk
    by_cases hlt : j < l.length
    · have hrow := (HL.out.rows.only HM.out.only HF.out).ints
      obtain ⟨gb, o, cc, e, hlc, _, p0⟩ := hrow.spot j hlt
      cases e
      have hx := HT.out s F w' l[j] j (List.getElem_mem hlt) hlt HRK.out HJ2.out HM.out.only
      have hrn := HRS.out j s l[j] HRK.out
      have hno := runS_no f s l j hlt
      have hyes := runS_yes f s l j hlt
      generalize l[j] = x at *
      obtain ⟨s', b, hsb⟩ : ∃ s' b, f s x = (s', b) := ⟨_, _, rfl⟩
      rw [hsb] at hx hno hyes hrn
      have HRN := Lib.hid hrn
      have HX := Lib.hid hx
      have HN := Lib.hid hno
      have HY := Lib.hid hyes
      have j0 : (0 : Int) ≤ (j : Int) := by omega
      have j1 : (j : Int) < (l.length : Int) := by omega
      clear hx hno hyes hsb hrow hrn
      cases b with
      | false =>
        go_wp2_with (go_at_fn g; (with_reducible refine HX.out.mono ?_); rintro e w1 ⟨rfl, F', hj1, hm1⟩; have HJ3 := Lib.hid hj1; have HM3 := Lib.hid hm1; clear hj1 hm1)
        go_step3
        exact ⟨rfl, HK.out (l.length - (j + 1)) _ _ (by omega) ⟨j + 1, _, s', F', rfl, by omega, by omega, (HN.out trivial).symm.trans HRU.out, HRN.out, HJ3.out, HM.out.trans HM3.out, _, _, _, _, _, _, _, _, _, _, _, _, _, _,  rfl⟩⟩
      | true =>
        go_wp2_with (go_at_fn g; (with_reducible refine HX.out.mono ?_); rintro e w1 ⟨rfl, F', hj1, hm1⟩; have HJ3 := Lib.hid hj1; have HM3 := Lib.hid hm1; clear hj1 hm1)
        simp only [Exit.jump]
        go_ret
        have hrr := (HY.out trivial).symm.trans HRU.out
        rw [← hrr]
        exact ⟨rfl, F', HJ3.out, HM.out.trans HM3.out⟩
    · have e : j = l.length := by omega
      subst e
      have hrr := HRU.out
      rw [runS_end] at hrr
      have HRR := Lib.hid hrr
      clear hrr hlt
      go_wp2
      simp only [Exit.jump]
      go_ret
      rw [← HRR.out]
      exact ⟨rfl, F, HJ2.out, HM.out⟩
  · intro K hpass
    go_wp2
    go_step3
    rename_i hback
    exact hback _ _ (hpass (l.length - 0) _ _ ⟨0, _, s0, F0, rfl, rfl, by omega, HR.out, HR0.out, HJ.out, Mv.refl _ _, _, _, _, _, _, _, _, _, _, _, _, _, _, _,  rfl⟩)
end Go.Proofs.Ytlacbjgjiggikaa
/- Stage 17's program: each: a function that is handed on is told one number of a list behind the other. -/
namespace Go.Proofs.Ytlacbjgjiggikaa
open Go.RowKit

/-- what is told, and the box b in which the function (tv) lies that is told -/
def EaJ {σ : Type} (J : σ → (Nat → Prop) → World → Prop) (b : Nat) (tv : Value) (s : σ) (F : Nat → Prop) (w : World) : Prop := ∃ F1, J s F1 w ∧ ¬ F1 b ∧ (∀ k, F k ↔ F1 k ∨ k = b) ∧ Blk w b [tv]

end Go.Proofs.Ytlacbjgjiggikaa
/- Stage 17's program: Right, Has, Above: what is asked and told of a list. -/
namespace Go.Proofs.Ytlacbjgjiggikaa
open Go.RowKit

/-- one box -/
def BoJ (b : Nat) (s : Value) (F : Nat → Prop) (w : World) : Prop := Blk w b [s] ∧ ∀ k, F k ↔ k = b
theorem bo_keep {σ : Type} (b : Nat) (v : σ → Value) : KeepJ fun (s : σ) F w => BoJ b (v s) F w where
  lt := by
    rintro s F w ⟨h1, h2⟩ k hk
    rw [(h2 k).1 hk]
    exact h1.lt
  out := by
    rintro s F w w' ⟨h1, h2⟩ _ he
    exact ⟨h1.same (he b ((h2 b).2 rfl)), h2⟩

set_option maxHeartbeats 1000000 in
theorem iRight1_any (b : Nat) (s x : Int) (F : Nat → Prop) (w : World) (h : BoJ b (.int .i64 s) F w) :
    Calls Try.prog 48 #[.int .i64 x, .pointer (some ⟨b, 0, none⟩)] w fun e w' => e = .returned (.bool (rgt s x).2) ∧ ∃ F', BoJ b (.int .i64 (rgt s x).1) F' w' ∧ Mv F F' w w' := by
  obtain ⟨h1, h2⟩ := h
  have HS : Hid (∀ v, Blk (w.setCell ⟨b, 0, none⟩ v) b [v]) := Lib.hid fun v => h1.set 0 v
  have H2 := Lib.hid h2
  have c0 := h1.cell 0 rfl
  have z0 := h1.free 0 rfl
  clear h1 h2
  unfold rgt
  go_enter Try.func48, Try.ntmps48
  go_wp2
  go_ret
  exact ⟨rfl, F, ⟨HS.out _, H2.out⟩, (Only.refl _ _).set _ _ ((H2.out b).2 rfl), fun k hk => .inl hk⟩

set_option maxHeartbeats 1000000 in
theorem iHas1_any (b : Nat) (n x : Int) (w : World) (h : Blk w b [.int .i64 n]) :
    Calls Try.prog 49 #[.int .i64 x, .pointer (some ⟨b, 0, none⟩)] w fun e w' => e = .returned (.bool (x == n)) ∧ w' = w := by
  have c0 := h.cell 0 rfl
  clear h
  go_enter Try.func49, Try.ntmps49
  go_wp2
  go_ret
  exact ⟨rfl, rfl⟩

set_option maxHeartbeats 1000000 in
theorem iHas_any (va : Value) (l : List Int) (n : Int) (w : World) (ha : IntsAt w va l) (hl : l.length ≤ 1000000) :
    Calls Try.prog 41 #[va, .int .i64 n] w fun e w' => e = .returned (.bool (inL l n)) ∧ Below w.heap.size w w' := by
  have hmf : ∀ (fn : Fn) (first cap : Array Value) (w : World), (Instr.makeFunc fn first cap).run Try.prog w = .ok (.func fn first cap) w := fun _ _ _ _ => rfl
  have hal := (Below.refl w.heap.size w).alloc (Nat.le_refl _) (.cells #[.int .i64 n] 3)
  have hX := Blk.new w [.int .i64 n] 3
  have hS := iSome_any (J := fun (_ : Unit) F w' => BoJ w.heap.size (.int .i64 n) F w') (fun _ x => ((), x == n)) 49 (.pointer (some ⟨w.heap.size, 0, none⟩)) (fun _ _ => by kernel_rfl) va l _ (ha.below hal) hl ()
    (fun k => k = w.heap.size) (fun h0 k hk hf => by have := ha.rows.lt h0 k hk; omega) ⟨hX, fun k => Iff.rfl⟩ (fun _ _ => True) trivial (fun _ _ _ _ => trivial)
    (fun s F w' x k hx _ _ hj ho => (iHas1_any _ n x w' hj.1).mono (by
      rintro e w2 ⟨rfl, rfl⟩
      exact ⟨rfl, F, hj, Mv.refl _ _⟩))
  rw [show (fun (_ : Unit) (x : Int) => ((), x == n)) = (fun (_ : Unit) x => ((), (fun m => m == n) x)) from rfl, runS_any (fun m => m == n) l, any_in] at hS
  have HS := Lib.hid hS
  have HAL := Lib.hid hal
  clear hal hX hS ha
  go_enter Try.func41, Try.ntmps41
  go_wp2_with (go_at_call 47; (with_reducible refine HS.out.mono ?_); rintro e w1 ⟨rfl, F', h1, hm⟩; have HM := Lib.hid hm; clear h1 hm)
  go_ret
  exact ⟨rfl, HAL.out.trans (HM.out.only.below (fun k hk => by omega) HAL.out.size)⟩

/-- the list without its first number, as the model cuts it -/
theorem from17 (a : Option Addr) (n c : Nat) (hk : 1 ≤ n) (hn : n ≤ c) : ∃ a4 c4, (∀ w', (Instr.sliceAt 29 (.slice a n c) (some (.int .i64 1)) none none).run Try.prog w' = .ok (.slice a4 (n - 1) c4) w') ∧
    (∀ (w' : World) (l : List Int), l.length = n → RowsAt w' 1 csI (.slice a n c) l → RowsAt w' 1 csI (.slice a4 (n - 1) c4) (l.drop 1)) ∧ ∀ k, (Value.slice a4 (n - 1) c4).ownBlock = some k → (Value.slice a n c).ownBlock = some k := by
  have h1 : (1 : Int) ≤ (n : Int) := by omega
  by_cases hck : c = 1
  · have hc0 : n = 1 := by omega
    refine ⟨a, 0, fun w' => ?_, fun w' l hl h => ?_, fun k h => by cases a <;> simp [Value.ownBlock] at h ⊢; exact h⟩
    · simp [go_sem, hck, hc0, sliced]
    · have := restAt13 h 1 (by omega) a (fun h => by omega)
      rwa [hck, Nat.sub_self] at this
  · refine ⟨a.map (fun x => x.add 1), c - 1, fun w' => ?_, fun w' l hl h => ?_, fun k h => ?_⟩
    · simp [go_sem, sliced, h1]
      exact fun h => absurd h hck
    · exact restAt13 h 1 (by omega) _ (fun _ g o e => by subst e; simp [Addr.add])
    · cases a with
      | none => simp [Value.ownBlock] at h
      | some a => simpa [Value.ownBlock, Addr.add] using h

set_option maxHeartbeats 1000000 in
theorem iRight_any (va : Value) (l : List Int) (w : World) (ha : IntsAt w va l) (hl : l.length ≤ 1000000) :
    Calls Try.prog 40 #[va] w fun e w' => e = .returned (.bool (rightB l)) ∧ Below w.heap.size w w' := by
  have hmf : ∀ (fn : Fn) (first cap : Array Value) (w : World), (Instr.makeFunc fn first cap).run Try.prog w = .ok (.func fn first cap) w := fun _ _ _ _ => rfl
  cases l with
  | nil =>
    obtain ⟨a, c, rfl⟩ := ha.form
    have e : rightB [] = true := by decide
    rw [e]
    clear ha
    go_enter Try.func40, Try.ntmps40
    go_wp2
    go_ret
    exact ⟨rfl, Below.refl _ _⟩
  | cons x t =>
    obtain ⟨g, o, c, e, hlc, hg, p0⟩ := ha.spot 0 (by simp)
    subst e
    have hal := (Below.refl w.heap.size w).alloc (Nat.le_refl _) (.cells #[.int .i64 x] 3)
    have hX := Blk.new w [.int .i64 x] 3
    obtain ⟨a4, c4, hsl, hrows, how⟩ := from17 (some ⟨g, o, none⟩) (x :: t).length c (by simp) hlc
    have hr := (hrows _ (x :: t) rfl (ha.below hal).rows).ints
    have hS := iSome_any (J := fun (s : Int) F w' => BoJ w.heap.size (.int .i64 s) F w') rgt 48 (.pointer (some ⟨w.heap.size, 0, none⟩)) (fun _ _ => by kernel_rfl) _ t _ hr (by simp at hl; omega) x
      (fun k => k = w.heap.size) (fun h0 k hk hf => by have := ha.rows.lt (by simp) k (how k hk); omega) ⟨hX, fun k => Iff.rfl⟩ (fun _ _ => True) trivial (fun _ _ _ _ => trivial)
      (fun s F w' y k hx _ _ hj ho => iRight1_any _ s y F w' hj)
    rw [runS_right, List.length_cons, Nat.add_sub_cancel] at hS
    rw [List.length_cons, Nat.add_sub_cancel] at hsl
    have HS := Lib.hid hS
    have HAL := Lib.hid hal
    generalize rightB (x :: t) = r at *
    replace p0 : w.cell? ⟨g, o, none⟩ = some (.int .i64 x) := by simpa using p0
    rw [List.length_cons] at *
    clear hal hX hS ha hr hrows how hg
    generalize t.length = n at *
    have n0 : (0 : Int) ≤ (n : Int) := by omega
    have n1 : ¬ ((n : Int) + 1 = 0) := by omega
    go_enter Try.func40, Try.ntmps40
    go_wp2_with (go_at_call 47; (with_reducible refine HS.out.mono ?_); rintro e w1 ⟨rfl, F', h1, hm⟩; have HM := Lib.hid hm; clear h1 hm)
    go_ret
    exact ⟨by simp, HAL.out.trans (HM.out.only.below (fun k hk => by omega) HAL.out.size)⟩
end Go.Proofs.Ytlacbjgjiggikaa
