/- Texts of this proof, joined: TbB; OwnSet; AisRefA. -/
import Derived.Test.YtbkoogffnchldaaGreatBun10
import Derived.BigRegion
import Derived.Deep.AppendLies
import Derived.Deep.RegionLaw
/- Stage 20's program: claims; find, Got; the aisles, and the tokens of whose claims something is so. -/
namespace Go.Proofs.YtbkoogffnchldaaGreat
open Go.RowKit Go.Maps

set_option maxHeartbeats 1000000 in
theorem tIsFull_any (x : Cl) (w : World) : Calls Tryz.prog 52 #[clv x] w fun e w' => e = .returned (.bool (decide (x.held = (x.n : Int)))) ∧ Below w.heap.size w w' := by
  obtain ⟨g, n, c, d⟩ := x
  show Calls Tryz.prog _ #[.agg #[.slice (g.map fun b => ⟨b, 0, none⟩) n c, .int .i64 d]] w _
  have HB := Lib.hid ((Below.refl w.heap.size w).alloc (Nat.le_refl _) (.cells #[.slice (g.map fun b => ⟨b, 0, none⟩) n c, .int .i64 d] 75))
  generalize g.map (fun b => (⟨b, 0, none⟩ : Addr)) = a at *
  by_cases e : d = (n : Int)
  · have e1 : (d == (n : Int)) = true := by simpa using e
    rw [show decide ((⟨g, n, c, d⟩ : Cl).held = ((⟨g, n, c, d⟩ : Cl).n : Int)) = true from decide_eq_true e]
    clear e
    go_enter Tryz.func52, Tryz.ntmps52
    go_wp2
    go_ret
    exact ⟨rfl, HB.out⟩
  · have e1 : (d == (n : Int)) = false := beq_noI e
    rw [show decide ((⟨g, n, c, d⟩ : Cl).held = ((⟨g, n, c, d⟩ : Cl).n : Int)) = false from decide_eq_false e]
    clear e
    go_enter Tryz.func52, Tryz.ntmps52
    go_wp2
    go_ret
    exact ⟨rfl, HB.out⟩
set_option maxHeartbeats 1000000 in
theorem tWaits_any (x : Cl) (w : World) : Calls Tryz.prog 57 #[clv x] w fun e w' => e = .returned (.bool (!decide (x.held = (x.n : Int)))) ∧ Below w.heap.size w w' := by
  have hb := (Below.refl w.heap.size w).alloc (Nat.le_refl _) (.cells #[x.v, .int .i64 x.held] 75)
  have HF := Lib.hid (tIsFull_any x (w.alloc (.cells #[x.v, .int .i64 x.held] 75)))
  have HB := Lib.hid hb
  obtain ⟨r, hr⟩ : ∃ r, decide (x.held = (x.n : Int)) = r := ⟨_, rfl⟩
  rw [hr] at HF ⊢
  obtain ⟨g, n, c, d⟩ := x
  have HF := Lib.hid (show Calls Tryz.prog 52 #[.agg #[.slice (g.map fun b => ⟨b, 0, none⟩) n c, .int .i64 d]] _ _ from HF.out)
  show Calls Tryz.prog _ #[.agg #[.slice (g.map fun b => ⟨b, 0, none⟩) n c, .int .i64 d]] w _
  dsimp only [Cl.v] at HF HB
  generalize g.map (fun b => (⟨b, 0, none⟩ : Addr)) = a at *
  clear hb hr
  go_enter Tryz.func57, Tryz.ntmps57
  go_wp2_with (go_at_call 52; (with_reducible refine HF.out.mono ?_); rintro e w1 ⟨rfl, b1⟩; have HB1 := Lib.hid (HB.out.trans (b1.mono HB.out.size)); clear b1)
  go_ret
  exact ⟨rfl, HB1.out⟩

section
variable {b ml mc : Nat} {pt : Int → Nat} {Gf : Int → Nat → Prop} {cl : Int → Cl} {F : Nat → Prop} {w : World} {T : Tb}
set_option maxHeartbeats 4000000 in
set_option maxRecDepth 100000 in
theorem tFind_any (h : TbR b ml mc pt Gf cl F w T) (t : Int) (ht : I64 t) : Calls Tryz.prog 41 #[ptr18 b, .int .i64 t] w fun e w' => e = .returned (.tuple #[clv ((clG T cl t).getD cl0), .bool (clG T cl t).isSome]) ∧ Below w.heap.size w w' := by
  obtain ⟨x, hx⟩ : ∃ x, (clG T cl t).getD cl0 = x := ⟨_, rfl⟩
  obtain ⟨r, hr⟩ : ∃ r, (clG T cl t).isSome = r := ⟨_, rfl⟩
  have hb := (Below.refl w.heap.size w).alloc (Nat.le_refl _) (.cells #[.slice none 0 0, .int .i64 0] 75)
  have h1 := h.kept hb
  have hlk := MapC.look h1.cm ht
  rw [hx, hr] at hlk
  rw [hx, hr]
  have c1 := h1.blk.cell 1 rfl
  obtain ⟨g, n, c, d⟩ := x
  replace hlk : (Instr.lookup 78 (.map (some mc)) (.int .i64 t) true).run Tryz.prog (w.alloc (.cells #[.slice none 0 0, .int .i64 0] 75)) = .ok (.tuple #[.agg #[.slice (g.map fun b => ⟨b, 0, none⟩) n c, .int .i64 d], .bool r]) (w.alloc (.cells #[.slice none 0 0, .int .i64 0] 75)) := hlk
  show Calls Tryz.prog _ _ w fun e w' => e = .returned (.tuple #[.agg #[.slice (g.map fun b => ⟨b, 0, none⟩) n c, .int .i64 d], .bool r]) ∧ _
  generalize g.map (fun b => (⟨b, 0, none⟩ : Addr)) = a at *
  have HB := Lib.hid (((Below.refl w.heap.size w).alloc (Nat.le_refl _) (.cells #[.slice a n c, .int .i64 d] 75)).alloc (by simp) (.cells #[.slice a n c, .int .i64 d] 75))
  clear hb h1 hx hr h
  go_enter Tryz.func41, Tryz.ntmps41
  go_wp2
  refine bodyPost_ret (v := .tuple #[.agg #[.slice a n c, .int .i64 d], .bool r]) ?_ rfl ⟨rfl, HB.out⟩
  simp [results, Tryz.results41, go_sem]
end
theorem tFind_nil (t : Int) (w : World) : Calls Tryz.prog 41 #[.pointer none, .int .i64 t] w fun e w' => e = .returned (.tuple #[clv cl0, .bool false]) ∧ Below w.heap.size w w' := by
  have hb := (Below.refl w.heap.size w).alloc (Nat.le_refl _) (.cells #[.slice none 0 0, .int .i64 0] 75)
  show Calls Tryz.prog _ _ w fun e w' => e = .returned (.tuple #[.agg #[.slice none 0 0, .int .i64 0], .bool false]) ∧ _
  go_enter Tryz.func41, Tryz.ntmps41
  go_wp2
  refine bodyPost_ret (v := .tuple #[.agg #[.slice none 0 0, .int .i64 0], .bool false]) ?_ rfl ⟨rfl, hb⟩
  simp [results, Tryz.results41, go_sem]

set_option maxHeartbeats 4000000 in
set_option maxRecDepth 100000 in
theorem tGotC_any (v : Value) (t : Int) (x : Cl) (r : Bool) (w : World) (H : Calls Tryz.prog 41 #[v, .int .i64 t] w fun e w' => e = .returned (.tuple #[clv x, .bool r]) ∧ Below w.heap.size w w') :
    Calls Tryz.prog 16 #[v, .int .i64 t] w fun e w' => e = .returned (.tuple #[.int .i64 x.held, .int .i64 (x.n : Int), .bool r]) ∧ Below w.heap.size w w' := by
  obtain ⟨g, n, c, d⟩ := x
  have HF := Lib.hid (show Calls Tryz.prog 41 #[v, .int .i64 t] w fun e w' => e = .returned (.tuple #[.agg #[.slice (g.map fun b => ⟨b, 0, none⟩) n c, .int .i64 d], .bool r]) ∧ Below w.heap.size w w' from H)
  generalize g.map (fun b => (⟨b, 0, none⟩ : Addr)) = a at *
  clear H
  go_enter Tryz.func16, Tryz.ntmps16
  go_upto_region 2 with (go_at_call 41; (with_reducible refine HF.out.mono ?_); rintro e w1 ⟨rfl, b1⟩; have HB1 := Lib.hid b1; clear b1)
  have hX := Blk.new w1 [.slice a n c, .int .i64 d] 75
  have hb := (Below.refl w1.heap.size w1).alloc (Nat.le_refl _) (.cells #[.slice a n c, .int .i64 d] 75)
  have HB2 := Lib.hid (HB1.out.trans (hb.mono HB1.out.size))
  have x0 := hX.cell 0 rfl
  have x1 := hX.cell 1 rfl
  generalize w1.alloc (.cells #[.slice a n c, .int .i64 d] 75) = w2 at *
  clear hX hb
  refine wp_region_calm0 (by kernel_rfl) (by kernel_rfl) fun M => ?_
  have e0 := fun n : In M.w => n.cell (M.cell x0)
  have e1 := fun n : In M.w => n.cell (M.cell x1)
  repeat (go_big_quiet_step (fail))
  refine wpQuiet_nil ?_
  clear e0 e1 M
  intro w3 hb3
  have HB3 := Lib.hid (HB2.out.trans (hb3.mono HB2.out.size))
  clear hb3 x0 x1
  go_wp2
  exact bodyPost_ret (v := .tuple #[.int .i64 d, .int .i64 (n : Int), .bool r]) (by simp [results, Tryz.results16, go_sem]) rfl ⟨rfl, HB3.out⟩

/-! ### The aisles -/
theorem readL_inv (v : Value) (y : DataW Unit × List MemPlace) (h : EL.R v = some y) : ∃ c, v = EL.val c := by
  obtain ⟨c, h1, _⟩ := readP_inv v y h
  exact ⟨c, h1⟩
theorem readC_inv2 (v : Value) (y : DataW Unit × List MemPlace) (h : EC.R v = some y) : ∃ c, v = EC.val c := by
  obtain ⟨c, h1, _⟩ := readC_inv v y h
  exact ⟨c, h1⟩
theorem hso_at {g : FuncId} {p : Cl → Bool} (hso : ∀ (x : Cl) (w : World), Calls Tryz.prog g #[clv x] w fun e w' => e = .returned (.bool (p x)) ∧ Below w.heap.size w w') (x : Cl) (w : World) : Calls Tryz.prog g #[.agg #[x.v, .int .i64 x.held]] w fun e w' => e = .returned (.bool (p x)) ∧ Below w.heap.size w w' := hso x w
set_option maxHeartbeats 1000000 in
theorem iOfN_any (va : Value) (l : List Int) (w : World) (ha : IntsAt w va l) (hl : l.length ≤ 1000000) :
    Calls Tryz.prog 66 #[va] w fun e w' => ∃ v, e = .returned v ∧ IntsAt w' v (setL l) ∧ (∀ k, v.ownBlock = some k → w.heap.size ≤ k) ∧ Below w.heap.size w w' := by
  have CL := Lib.hid (cloneI_any va l w ha hl)
  have HSS := Lib.hid (set_sort l)
  clear ha
  go_enter Tryz.func66, Tryz.ntmps66
  go_upto_region 2 with (go_at_call 35; (with_reducible refine CL.out.mono ?_); rintro e w1 ⟨v1, rfl, ho, hb⟩; have HO1 := Lib.hid ho; have HB1 := Lib.hid hb; clear ho hb)
  have SO := Lib.hid (sortI_any w1 _ v1 l HO1.out hl)
  have HC := Lib.hid (OwnI.cells17 HO1.out)
  clear CL HO1
  go_wp2_with (first
    | (go_at_call 79; (with_reducible refine SO.out.mono ?_); rintro e w3 ⟨rfl, h3, o3, k3⟩; have CO := Lib.hid k3; clear h3 k3 o3)
    | (go_at_call 80; (with_reducible refine CO.out.mono ?_); rintro e w4 ⟨u4, rfl, h4, e4, o4⟩; rw [HSS.out] at h4; have HU := Lib.hid h4; have HO4 := Lib.hid o4; have HE4 := Lib.hid e4; clear h4 e4 o4))
  go_ret
  exact ⟨_, rfl, HU.out, fun k hk => (HC.out k (by rw [← HE4.out]; exact hk)).1, HB1.out.trans (Only.below HO4.out (fun k hk => (HC.out k hk).1) HB1.out.size)⟩
theorem setL_of {l T : List Int} (hr : risL T) (hm : ∀ x, x ∈ l ↔ x ∈ T) : setL l = T := risL.eq (setL_ris l) hr fun x => by rw [setL_mem, hm]
section
variable {b ml mc : Nat} {pt : Int → Nat} {Gf : Int → Nat → Prop} {cl : Int → Cl} {F : Nat → Prop} {w : World} {T : Tb}
set_option maxHeartbeats 8000000 in
set_option maxRecDepth 100000 in
theorem tIds_any (h : TbR b ml mc pt Gf cl F w T) (hok : T.Ok) : Calls Tryz.prog 34 #[ptr18 b] w fun e w' => ∃ v, e = .returned v ∧ IntsAt w' v T.ids ∧ (∀ k, v.ownBlock = some k → w.heap.size ≤ k) ∧ Below w.heap.size w w' := by
  have c0 := h.blk.cell 0 rfl
  have HL := Lib.hid h.lm
  have hml := MapG.lt h.lm
  have HIDS := Lib.hid (show (∀ x, x ∈ T.ids → I64 x) ∧ risL T.ids ∧ T.ids.length ≤ 32 from ⟨fun x hx => hok.ids64 hx, may_ris hok.may, may_len hok.may⟩)
  have HG := Lib.hid (show ∀ id, (lkG T pt id).isSome = true ↔ id ∈ T.ids from fun id => by unfold lkG; split <;> simp [*])
  clear h hok
  go_enter Tryz.func34, Tryz.ntmps34
  go_wp2_with (at_range; refine wpList_rangeG (E := EL) rfl _ _ rfl Tryz.underlying3 Tryz.underlying77 rfl HL.out ?_; intro w1 hrg hg hs; have HR := Lib.hid hrg; have HB1 := Lib.hid ((Below.refl w.heap.size w).grown hg (Nat.le_refl _) (by simp)); have HRT := Lib.hid (show w.heap.size < w1.heap.size by omega); have HMLT := Lib.hid (show ml < w1.heap.size by omega); clear hrg hg hs c0)
  go_frame
  go_loopw [3] (fun v wr => ∃ (S : Int → Prop) (cnt : Nat) (Tk : List Int), RngG EL 3 wr ml w.heap.size T.ids.length (lkG T pt) S cnt ∧ OwnI wr w1.heap.size v Tk ∧ (∀ id, I64 id → (id ∈ Tk ↔ id ∈ T.ids ∧ ¬ S id)) ∧ (∀ id ∈ Tk, I64 id) ∧ Tk.length + cnt ≤ T.ids.length ∧ Below w.heap.size w wr ∧ w1.heap.size ≤ wr.heap.size) (fun _ wr => wr.rangeLeft ml w.heap.size)
  case atStart => exact ⟨_, _, [], HR.out, OwnR.nil _ _ _ _ _, fun id _ => ⟨fun h => (by cases h), fun h => absurd ((HG.out id).2 h.1) h.2⟩, fun id h => (by cases h), by simp, HB1.out, Nat.le_refl _⟩
  case round =>
    clear HR
    obtain ⟨S, cnt, Tk, hrg, ho, hmem, h64, hlen, hB, hz⟩ := hrel
    have HO := Lib.hid ho
    have HMEM := Lib.hid hmem
    have H64 := Lib.hid h64
    have HLEN := Lib.hid hlen
    have HB := Lib.hid hB
    have HZ := Lib.hid hz
    have HRG := Lib.hid hrg
    obtain ⟨av, cv, e⟩ := (OwnI.ints ho).form
    subst e
    clear hrg ho hmem h64 hlen hB hz
    go_wp2_with (at_next; refine wpList_nextG (E := EL) readL_inv rfl _ rfl Tryz.underlying3 rfl HRG.out ?_ ?_)
    · intro hd
      have hset : setL Tk = T.ids := setL_of HIDS.out.2.1 fun x => by
        by_cases hx : I64 x
        · rw [HMEM.out x hx]
          exact ⟨fun h => h.1, fun h => ⟨h, hd x hx⟩⟩
        · exact ⟨fun h => absurd (H64.out x h) hx, fun h => absurd (HIDS.out.1 x h) hx⟩
      have hof := iOfN_any _ Tk wr (OwnI.ints HO.out) (by have := HLEN.out; have := HIDS.out.2.2; omega)
      rw [hset] at hof
      have HOF := Lib.hid hof
      clear hd hset hof
      go_wp2_with (go_at_call 66; (with_reducible refine HOF.out.mono ?_); rintro e w5 ⟨v5, rfl, h5, n5, b5⟩; have N5 := Lib.hid n5; have H5 := Lib.hid h5; have HB5 := Lib.hid (HB.out.trans (b5.mono HB.out.size)); clear h5 b5 n5)
      go_ret
      exact ⟨_, rfl, H5.out, fun k hk => Nat.le_trans HB.out.size (N5.out k hk), HB5.out⟩
    · intro id x w2 cnt2 hi hs hg2 hrg2 hlt hgr hsz hen
      have hin : id ∈ T.ids := (HG.out id).1 (by rw [hg2]; rfl)
      have hz1 : w.heap.size < w1.heap.size := HRT.out
      have ho2 : OwnI w2 w1.heap.size (.slice av Tk.length cv) Tk := OwnR.sameB HO.out fun k hk => hgr.block k (HO.out.lt k hk).2 fun e => by have := (HO.out.lt k hk).1; have := Option.some.inj e; omega
      have HO2 := Lib.hid ho2
      have HI := Lib.hid (And.intro hi (And.intro hin hs))
      have HLT := Lib.hid hlt
      have HSZ := Lib.hid hsz
      have HRG2 := Lib.hid hrg2
      have HB2 := Lib.hid (HB.out.grown hgr HB.out.size fun k hk => by have := Option.some.inj hk; omega)
      have HZ2 := Lib.hid (show w1.heap.size ≤ w2.heap.size by have := HZ.out; omega)
      have HNM := Lib.hid (fun h => ((HMEM.out id hi).1 h).2 hs : id ∉ Tk)
      clear hi hs hg2 hrg2 hlt hgr hsz hin ho2
      go_wp2_with (at_builtin; refine app1 HO2.out HZ2.out (by have := HLEN.out; have := HIDS.out.2.2; omega) rfl _ _ rfl rfl rfl ?_; intro v6 w6 o6 b6; have HO6 := Lib.hid o6; have HB6 := Lib.hid b6; clear o6 b6)
      go_roundw
      case rel =>
        refine ⟨_, cnt2, Tk ++ [id], HRG2.out.same (HB6.out.block ml HMLT.out) (HB6.out.block _ HRT.out), HO6.out, fun z hz => ?_, fun z hz => ?_, by have := HLEN.out; have := HLT.out; rw [List.length_append, List.length_singleton]; omega, HB2.out.trans (HB6.out.mono (Nat.le_of_lt HRT.out)), Nat.le_trans HZ2.out HB6.out.size⟩
        · rw [List.mem_append, HMEM.out z hz, List.mem_singleton]
          constructor
          · rintro (⟨h1, h2⟩ | rfl)
            · exact ⟨h1, fun h => h2 h.1⟩
            · exact ⟨HI.out.2.1, fun h => h.2 rfl⟩
          · rintro ⟨h1, h2⟩
            by_cases e : z = id
            · exact .inr e
            · exact .inl ⟨h1, fun h => h2 ⟨h, e⟩⟩
        · rcases List.mem_append.1 hz with hz | hz
          · exact H64.out z hz
          · rw [List.mem_singleton.1 hz]; exact HI.out.1
      case measure =>
        rw [(HRG2.out.same (HB6.out.block ml HMLT.out) (HB6.out.block _ HRT.out)).left, HRG.out.left]
        exact HLT.out

set_option maxHeartbeats 8000000 in
set_option maxRecDepth 100000 in
theorem tThoseW_any (g : FuncId) (eg : ∀ args w, (callFunc g args).run Tryz.prog w = .ok (.enter g args) w) (p : Cl → Bool) (hso : ∀ (x : Cl) (w : World), Calls Tryz.prog g #[clv x] w fun e w' => e = .returned (.bool (p x)) ∧ Below w.heap.size w w') (h : TbR b ml mc pt Gf cl F w T) (hok : (∀ x, x ∈ T.toks → I64 x) ∧ risL T.toks ∧ T.toks.length ≤ 64) :
    Calls Tryz.prog 51 #[ptr18 b, .func (.func g) #[] #[]] w fun e w' => ∃ v, e = .returned v ∧ IntsAt w' v (T.toks.filter fun t => p (cl t)) ∧ (∀ k, v.ownBlock = some k → w.heap.size ≤ k) ∧ Below w.heap.size w w' := by
  have c0 := h.blk.cell 1 rfl
  have HL := Lib.hid h.cm
  have hml := MapG.lt h.cm
  have HSO := Lib.hid hso
  have HIDS := Lib.hid (show (∀ x, x ∈ T.toks → I64 x) ∧ risL T.toks ∧ T.toks.length ≤ 64 from hok)
  have HG := Lib.hid (show ∀ id x, clG T cl id = some x ↔ id ∈ T.toks ∧ x = cl id from fun id x => by
    unfold clG
    split
    · rename_i h
      simp only [Option.some.injEq, h, true_and]
      exact eq_comm
    · rename_i h
      simp [h])
  obtain ⟨R, hR⟩ : ∃ R, T.toks.filter (fun t => p (cl t)) = R := ⟨_, rfl⟩
  rw [hR]
  have HRR := Lib.hid (show risL R ∧ ∀ x, x ∈ R ↔ x ∈ T.toks ∧ p (cl x) = true from by
    rw [← hR]
    exact ⟨hok.2.1.sublist List.filter_sublist, fun x => List.mem_filter⟩)
  clear h hok hR hso
  go_enter Tryz.func51, Tryz.ntmps51
  go_wp2_with (at_range; refine wpList_rangeG (E := EC) rfl _ _ rfl Tryz.underlying3 Tryz.underlying78 rfl HL.out ?_; intro w1 hrg hg hs; have HR := Lib.hid hrg; have HB1 := Lib.hid ((Below.refl w.heap.size w).grown hg (Nat.le_refl _) (by simp)); have HRT := Lib.hid (show w.heap.size < w1.heap.size by omega); have HMLT := Lib.hid (show mc < w1.heap.size by omega); clear hrg hg hs c0)
  go_frame
  go_loopw [5] (fun v wr => ∃ (S : Int → Prop) (cnt : Nat) (Tk : List Int), RngG EC 3 wr mc w.heap.size T.toks.length (clG T cl) S cnt ∧ OwnI wr w1.heap.size v Tk ∧ (∀ id, I64 id → (id ∈ Tk ↔ id ∈ R ∧ ¬ S id)) ∧ (∀ id ∈ Tk, I64 id) ∧ Tk.length + cnt ≤ T.toks.length ∧ Below w.heap.size w wr ∧ w1.heap.size ≤ wr.heap.size) (fun _ wr => wr.rangeLeft mc w.heap.size)
  case atStart =>
    refine ⟨_, _, [], HR.out, OwnR.nil _ _ _ _ _, fun id _ => ⟨fun h => (by cases h), fun h => absurd ?_ h.2⟩, fun id h => (by cases h), by simp, HB1.out, Nat.le_refl _⟩
    rw [(HG.out id (cl id)).2 ⟨((HRR.out.2 id).1 h.1).1, rfl⟩]
    rfl
  case round =>
    clear HR
    obtain ⟨S, cnt, Tk, hrg, ho, hmem, h64, hlen, hB, hz⟩ := hrel
    have HO := Lib.hid ho
    have HMEM := Lib.hid hmem
    have H64 := Lib.hid h64
    have HLEN := Lib.hid hlen
    have HB := Lib.hid hB
    have HZ := Lib.hid hz
    have HRG := Lib.hid hrg
    obtain ⟨av, cv, e⟩ := (OwnI.ints ho).form
    subst e
    clear hrg ho hmem h64 hlen hB hz
    go_wp2_with (at_next; refine wpList_nextG (E := EC) readC_inv2 rfl _ rfl Tryz.underlying3 rfl HRG.out ?_ ?_)
    · intro hd
      have hset : setL Tk = R := setL_of HRR.out.1 fun x => by
        by_cases hx : I64 x
        · rw [HMEM.out x hx]
          exact ⟨fun h => h.1, fun h => ⟨h, hd x hx⟩⟩
        · exact ⟨fun h => absurd (H64.out x h) hx, fun h => absurd (HIDS.out.1 x ((HRR.out.2 x).1 h).1) hx⟩
      have hof := iOfN_any _ Tk wr (OwnI.ints HO.out) (by have := HLEN.out; have := HIDS.out.2.2; omega)
      rw [hset] at hof
      have HOF := Lib.hid hof
      clear hd hset hof
      go_wp2_with (go_at_call 66; (with_reducible refine HOF.out.mono ?_); rintro e w5 ⟨v5, rfl, h5, n5, b5⟩; have H5 := Lib.hid h5; have HN5 := Lib.hid (fun k hk => Nat.le_trans HB.out.size (n5 k hk)); have HB5 := Lib.hid (HB.out.trans (b5.mono HB.out.size)); clear h5 n5 b5)
      go_ret
      exact ⟨_, rfl, H5.out, HN5.out, HB5.out⟩
    · intro id x w2 cnt2 hi hs hg2 hrg2 hlt hgr hsz hen
      obtain ⟨hin, hxc⟩ := (HG.out id x).1 hg2
      have hz1 : w.heap.size < w1.heap.size := HRT.out
      have ho2 : OwnI w2 w1.heap.size (.slice av Tk.length cv) Tk := OwnR.sameB HO.out fun k hk => hgr.block k (HO.out.lt k hk).2 fun e => by have := (HO.out.lt k hk).1; have := Option.some.inj e; omega
      have HI := Lib.hid (And.intro hi (And.intro hin hs))
      have HLT := Lib.hid hlt
      have HRG2 := Lib.hid hrg2
      have HB2 := Lib.hid (HB.out.grown hgr HB.out.size fun k hk => by have := Option.some.inj hk; omega)
      have HZ2 := Lib.hid (show w1.heap.size ≤ w2.heap.size by have := HZ.out; omega)
      have HXC := Lib.hid (show p x = p (cl id) by rw [hxc])
      have hal := (Below.refl w2.heap.size w2).alloc (Nat.le_refl _) (.cells #[x.v, .int .i64 x.held] 75)
      have HS2 := Lib.hid (hso_at HSO.out x (w2.alloc (.cells #[x.v, .int .i64 x.held] 75)))
      have HAL := Lib.hid hal
      have HO2 := Lib.hid (OwnR.kept ho2 hal)
      have HNM := Lib.hid (fun h => ((HMEM.out id hi).1 h).2 hs : id ∉ Tk)
      obtain ⟨r, hr⟩ : ∃ r, p x = r := ⟨_, rfl⟩
      rw [hr] at HS2 HXC
      obtain ⟨xg, xn, xc, xd⟩ := x
      replace hen : (Instr.entry (.pointer (some ⟨w.heap.size, 0, none⟩))).run Tryz.prog w2 = .ok (.tuple #[.int .i64 id, .agg #[.slice (xg.map fun b => ⟨b, 0, none⟩) xn xc, .int .i64 xd]]) w2 := hen
      replace HS2 := Lib.hid (show Calls Tryz.prog g #[.agg #[.slice (xg.map fun b => ⟨b, 0, none⟩) xn xc, .int .i64 xd]] (w2.alloc (.cells #[.slice (xg.map fun b => ⟨b, 0, none⟩) xn xc, .int .i64 xd] 75)) fun e w' => e = .returned (.bool r) ∧ Below (w2.alloc (.cells #[.slice (xg.map fun b => ⟨b, 0, none⟩) xn xc, .int .i64 xd] 75)).heap.size (w2.alloc (.cells #[.slice (xg.map fun b => ⟨b, 0, none⟩) xn xc, .int .i64 xd] 75)) w' from HS2.out)
      dsimp only [Cl.v] at HAL HO2
      generalize xg.map (fun b => (⟨b, 0, none⟩ : Addr)) = xa at *
      clear hi hs hg2 hrg2 hlt hgr hin ho2 hal hr hxc
      cases r with
      | true =>
        go_upto_region 8 with (go_at_fn g; (with_reducible refine HS2.out.mono ?_); rintro e w3 ⟨rfl, b3⟩; have HB3 := Lib.hid (HAL.out.trans (b3.mono HAL.out.size)); have HO3 := Lib.hid (OwnR.kept HO2.out b3); clear b3)
        clear hen
        have HZ3 := Lib.hid (Nat.le_trans HZ2.out HB3.out.size)
        go_wp2_with (at_builtin; refine app1 HO3.out HZ3.out (by have := HLEN.out; have := HIDS.out.2.2; omega) rfl _ _ rfl rfl rfl ?_; intro v6 w6 o6 b6; have HO6 := Lib.hid o6; have HB6 := Lib.hid b6; clear o6 b6)
        have HR6 := Lib.hid ((HRG2.out.kept HB3.out).same (HB6.out.block mc HMLT.out) (HB6.out.block _ HRT.out))
        go_roundw
        case rel =>
          refine ⟨_, cnt2, Tk ++ [id], HR6.out, HO6.out, fun z hz => ?_, fun z hz => ?_, by have := HLEN.out; have := HLT.out; rw [List.length_append, List.length_singleton]; omega, (HB2.out.trans (HB3.out.mono HB2.out.size)).trans (HB6.out.mono (Nat.le_of_lt HRT.out)), Nat.le_trans HZ3.out HB6.out.size⟩
          · rw [List.mem_append, HMEM.out z hz, List.mem_singleton]
            constructor
            · rintro (⟨h1, h2⟩ | rfl)
              · exact ⟨h1, fun h => h2 h.1⟩
              · exact ⟨(HRR.out.2 z).2 ⟨HI.out.2.1, HXC.out.symm⟩, fun h => h.2 rfl⟩
            · rintro ⟨h1, h2⟩
              by_cases e : z = id
              · exact .inr e
              · exact .inl ⟨h1, fun h => h2 ⟨h, e⟩⟩
          · rcases List.mem_append.1 hz with hz | hz
            · exact H64.out z hz
            · rw [List.mem_singleton.1 hz]; exact HI.out.1
        case measure =>
          rw [HR6.out.left, HRG.out.left]
          exact HLT.out
      | false =>
        go_wp2_with (go_at_fn g; (with_reducible refine HS2.out.mono ?_); rintro e w3 ⟨rfl, b3⟩; have HB3 := Lib.hid (HAL.out.trans (b3.mono HAL.out.size)); have HO3 := Lib.hid (OwnR.kept HO2.out b3); clear b3)
        clear hen
        have HZ3 := Lib.hid (Nat.le_trans HZ2.out HB3.out.size)
        have HR6 := Lib.hid (HRG2.out.kept HB3.out)
        go_roundw
        case rel =>
          refine ⟨_, cnt2, Tk, HR6.out, HO3.out, fun z hz => ?_, H64.out, by have := HLEN.out; have := HLT.out; omega, HB2.out.trans (HB3.out.mono HB2.out.size), HZ3.out⟩
          rw [HMEM.out z hz]
          refine ⟨fun h => ⟨h.1, fun h2 => h.2 h2.1⟩, fun h => ⟨h.1, fun h2 => h.2 ⟨h2, fun e => ?_⟩⟩⟩
          have := ((HRR.out.2 z).1 h.1).2
          rw [e, ← HXC.out] at this
          cases this
        case measure =>
          rw [HR6.out.left, HRG.out.left]
          exact HLT.out
theorem OkX.toks3 {x : Option Int} (hok : OkX T x) : (∀ x, x ∈ T.toks → I64 x) ∧ risL T.toks ∧ T.toks.length ≤ 64 := ⟨fun _ hx => hok.tok64 hx, hok.ris, hok.few⟩
theorem tThose_any (g : FuncId) (eg : ∀ args w, (callFunc g args).run Tryz.prog w = .ok (.enter g args) w) (p : Cl → Bool) (hso : ∀ (x : Cl) (w : World), Calls Tryz.prog g #[clv x] w fun e w' => e = .returned (.bool (p x)) ∧ Below w.heap.size w w') (h : TbR b ml mc pt Gf cl F w T) (hok : T.Ok) :
    Calls Tryz.prog 51 #[ptr18 b, .func (.func g) #[] #[]] w fun e w' => ∃ v, e = .returned v ∧ IntsAt w' v (T.toks.filter fun t => p (cl t)) ∧ (∀ k, v.ownBlock = some k → w.heap.size ≤ k) ∧ Below w.heap.size w w' := tThoseW_any g eg p hso h hok.toks3
end
end Go.Proofs.YtbkoogffnchldaaGreat
/- Lists of one's own (XOwnO): a thing laid in place, the first ones alone, what stands at a place. FOR ALL STAGES WITH STATE. -/
namespace Go.Proofs.YtbkoogffnchldaaGreat
open Go.RowKit

section
variable {α : Type} {w w' : World} {K : Nat} {cs : α → List Value} {v : Value} {l : List α}
theorem OwnO.spot (hK : ∀ x, (cs x).length = K) (h : OwnO w K cs v l) (i : Nat) (hi : i < l.length) : ∃ g o cap, v = .slice (some ⟨g, o, none⟩) l.length cap ∧ g < w.heap.size ∧ l.length ≤ cap ∧
    ∀ j u, (cs l[i])[j]? = some u → w.cell? ⟨g, o + i * K + j, none⟩ = some u ∧ w.frozen? ⟨g, o + i * K + j, none⟩ = false := by
  have hr := h.rows hK
  rcases h with ⟨_, rfl⟩ | ⟨g, o, cap, rfl, hg, hl, hc, h1, h2⟩
  · simp at hi
  · obtain ⟨a, c, e, _, hx⟩ := hr
    cases e
    obtain ⟨g', o', e, _, hx⟩ := hx (by omega)
    cases e
    refine ⟨g, o, cap, rfl, hg, hl, fun j u hu => ⟨hx i l[i] (List.getElem?_eq_getElem hi) j u hu, ?_⟩⟩
    have hj : j < K := by rw [← hK l[i]]; exact (List.getElem?_eq_some_iff.1 hu).1
    have := (h2 (i * K + j) (by
      have h3 : (i + 1) * K ≤ cap * K := Nat.mul_le_mul_right K (by omega)
      rw [Nat.add_mul] at h3
      omega)).2
    rwa [← Nat.add_assoc] at this
theorem OwnO.put (hK : ∀ x, (cs x).length = K) {g o n cap : Nat} (h : OwnO w K cs (.slice (some ⟨g, o, none⟩) n cap) l) (i : Nat) (hi : i < l.length) (x : α) (hz : w.heap.size ≤ w'.heap.size)
    (hin : ∀ j, j < K → w'.cell? ⟨g, o + i * K + j, none⟩ = (cs x)[j]?)
    (hout : ∀ m, m < cap * K → ¬ (i * K ≤ m ∧ m < i * K + K) → w'.cell? ⟨g, o + m, none⟩ = w.cell? ⟨g, o + m, none⟩)
    (hfz : ∀ a, w'.frozen? a = w.frozen? a) : OwnO w' K cs (.slice (some ⟨g, o, none⟩) n cap) (l.set i x) := by
  rcases h with ⟨e, _⟩ | ⟨g', o', cap', e, hg, hl, hc, h1, h2⟩
  · cases e
  · cases e
    refine .inr ⟨g, o, cap, by rw [List.length_set], by omega, by rw [List.length_set]; exact hl, hc, fun m hm => ?_, fun m hm => ⟨?_, by rw [hfz]; exact (h2 m hm).2⟩⟩
    · rw [List.length_set] at hm
      have hK0 : 0 < K := Nat.pos_of_ne_zero fun e => by subst e; simp at hm
      have hq : m / K < l.length := (Nat.div_lt_iff_lt_mul hK0).2 hm
      have hr : m % K < K := Nat.mod_lt _ hK0
      have e : m / K * K + m % K = m := by rw [Nat.mul_comm]; exact Nat.div_add_mod m K
      have hmc : m < cap * K := Nat.lt_of_lt_of_le hm (Nat.mul_le_mul_right K hl)
      by_cases hqi : m / K = i
      · have hu : (cs x)[m % K]? = some ((cs x)[m % K]'(by rw [hK]; exact hr)) := List.getElem?_eq_getElem _
        have h3 := flats_at hK (l.set i x) (m / K) x (by rw [List.getElem?_set, if_pos hqi.symm, if_pos hi]) (m % K) _ hu
        rw [e] at h3
        rw [h3, ← hu, ← hin _ hr, ← hqi, Nat.add_assoc, e]
      · have hu : (cs l[m / K])[m % K]? = some ((cs l[m / K])[m % K]'(by rw [hK]; exact hr)) := List.getElem?_eq_getElem _
        have h3 := flats_at hK (l.set i x) (m / K) l[m / K] (by rw [List.getElem?_set, if_neg (fun h => hqi h.symm)]; exact List.getElem?_eq_getElem hq) (m % K) _ hu
        have h4 := flats_at hK l (m / K) l[m / K] (List.getElem?_eq_getElem hq) (m % K) _ hu
        rw [e] at h3 h4
        rw [h3, ← h4, ← h1 m hm]
        refine hout m hmc fun hh => hqi ?_
        have h5 : m / K < i + 1 := (Nat.div_lt_iff_lt_mul hK0).2 (by rw [Nat.add_mul]; omega)
        have h6 : i ≤ m / K := (Nat.le_div_iff_mul_le hK0).2 hh.1
        omega
    · by_cases hh : i * K ≤ m ∧ m < i * K + K
      · have := hin (m - i * K) (by omega)
        rw [Nat.add_assoc, show i * K + (m - i * K) = m by omega] at this
        rw [this, List.getElem?_eq_getElem (by rw [hK]; omega)]
        rfl
      · rw [hout m hm hh]
        exact (h2 m hm).1
/-- the first k of them -/
theorem OwnO.take {a : Option Addr} {n cap : Nat} (hK : ∀ x, (cs x).length = K) (h : OwnO w K cs (.slice a n cap) l) (k : Nat) (hk : k ≤ l.length) : OwnO w K cs (.slice a k cap) (l.take k) := by
  rcases h with ⟨e, rfl⟩ | ⟨g, o, cap', e, hg, hl, hc, h1, h2⟩
  · cases e
    have : k = 0 := by simpa using hk
    subst this
    exact .inl ⟨rfl, rfl⟩
  · cases e
    have hlen : (l.take k).length = k := by rw [List.length_take]; omega
    refine .inr ⟨g, o, cap, by rw [hlen], hg, by omega, hc, fun m hm => ?_, h2⟩
    rw [hlen] at hm
    have hm2 : m < l.length * K := Nat.lt_of_lt_of_le hm (Nat.mul_le_mul_right K hk)
    rw [h1 m hm2]
    have e : flats cs l = flats cs (l.take k) ++ flats cs (l.drop k) := by rw [← flats_append, List.take_append_drop]
    rw [e, List.getElem?_append_left (by rw [flats_length hK, hlen]; exact hm)]
/-- a struct of three cells is stored -/
theorem OwnO.put3 {g o n cap : Nat} (hK : ∀ x, (cs x).length = 3) (h : OwnO w 3 cs (.slice (some ⟨g, o, none⟩) n cap) l) (i : Nat) (hi : i < l.length) (x : α) (u0 u1 u2 : Value) (hx : cs x = [u0, u1, u2]) :
    OwnO (((w.setCell ⟨g, o + i * 3, none⟩ u0).setCell ⟨g, o + i * 3 + 1, none⟩ u1).setCell ⟨g, o + i * 3 + 2, none⟩ u2) 3 cs (.slice (some ⟨g, o, none⟩) n cap) (l.set i x) := by
  have hl : l.length ≤ cap := by
    rcases h with ⟨e, _⟩ | ⟨g', o', cap', e, hg, hl, _⟩
    · cases e
    · cases e; exact hl
  have hs : ∀ j, j < 3 → (w.cell? ⟨g, o + i * 3 + j, none⟩).isSome = true := by
    intro j hj
    rcases h with ⟨e, _⟩ | ⟨g', o', cap', e, hg, hl, hc, h1, h2⟩
    · cases e
    · cases e
      have := (h2 (i * 3 + j) (by omega)).1
      rwa [← Nat.add_assoc] at this
  refine OwnO.put hK h i hi x (by simp [World.setCell]) (fun j hj => ?_) (fun m hm hh => ?_) (fun a => by rw [World.frozen?_setCell, World.frozen?_setCell, World.frozen?_setCell])
  · rw [hx]
    have hs0 := hs 0 (by omega)
    have hs1 := hs 1 (by omega)
    have hs2 := hs 2 (by omega)
    rw [Nat.add_zero] at hs0
    match j, hj with
    | 0, _ =>
      rw [Nat.add_zero, World.cell?_setCell_other _ _ _ _ (by intro e; simp at e), World.cell?_setCell_other _ _ _ _ (by intro e; simp at e)]
      obtain ⟨y, hy⟩ := Option.isSome_iff_exists.1 hs0
      exact World.cell?_setCell_same _ _ _ (by rw [hy])
    | 1, _ =>
      rw [World.cell?_setCell_other _ _ _ _ (by intro e; simp at e)]
      obtain ⟨y, hy⟩ := Option.isSome_iff_exists.1 hs1
      exact World.cell?_setCell_same _ _ _ (by rw [World.cell?_setCell_other _ _ _ _ (by intro e; simp at e), hy])
    | 2, _ =>
      obtain ⟨y, hy⟩ := Option.isSome_iff_exists.1 hs2
      exact World.cell?_setCell_same _ _ _ (by rw [World.cell?_setCell_other _ _ _ _ (by intro e; simp at e), World.cell?_setCell_other _ _ _ _ (by intro e; simp at e), hy])
  · rw [World.cell?_setCell_other _ _ _ _ (by intro e; injection e; omega), World.cell?_setCell_other _ _ _ _ (by intro e; injection e; omega), World.cell?_setCell_other _ _ _ _ (by intro e; injection e; omega)]
end
end Go.Proofs.YtbkoogffnchldaaGreat
/- Stage 20: a table of the document's in memory while it is worked on: its rows are its own; ask. -/
namespace Go.Proofs.YtbkoogffnchldaaGreat
open Go.RowKit

def lkp (x : Lr) : Int × Int × List Int := (x.id, x.holder, x.wait)
def stp (x : Sr) : Int × Int × List Int := (x.token, x.got, x.want)
def Tb.lks (T : Tb) : List (Int × Int × List Int) := T.ids.map fun id => (id, T.hd id, T.wt id)
def Tb.sts (T : Tb) : List (Int × Int × List Int) := T.toks.map fun t => (t, (T.got t : Int), T.want t)
abbrev Lr.val (x : Lr) : Value := .agg #[.int .i64 x.id, .int .i64 x.holder, x.v]
abbrev Sr.val (x : Sr) : Value := .agg #[.int .i64 x.token, .int .i64 x.got, x.v]
theorem csL_one1 (x : Lr) : ∀ u ∈ csL x, u.oneCell' = true := csL_one x

/-- its rows are new (from B on) and may be written; its lists lie apart from them, in G or new -/
structure WkAt (w : World) (B : Nat) (G : Nat → Prop) (vl vs : Value) (Ls : List Lr) (Ss : List Sr) : Prop where
  lr : RowsAt w 3 csL vl Ls
  lo : Ls ≠ [] → OwnO w 3 csL vl Ls ∧ ∀ g, vl.ownBlock = some g → B ≤ g
  sr : RowsAt w 3 csSt vs Ss
  so : Ss ≠ [] → OwnO w 3 csSt vs Ss ∧ ∀ g, vs.ownBlock = some g → B ≤ g
  ne : Ls ≠ [] → Ss ≠ [] → vl.ownBlock ≠ vs.ownBlock
  el : ∀ x ∈ Ls, IntsAt w x.v x.wait ∧ (0 < x.wait.length → ∀ k, x.v.ownBlock = some k → (G k ∨ B ≤ k) ∧ vl.ownBlock ≠ some k ∧ (Ss ≠ [] → vs.ownBlock ≠ some k))
  es : ∀ x ∈ Ss, IntsAt w x.v x.want ∧ (0 < x.want.length → ∀ k, x.v.ownBlock = some k → (G k ∨ B ≤ k) ∧ (Ls ≠ [] → vl.ownBlock ≠ some k) ∧ vs.ownBlock ≠ some k)
theorem IntsAt.lt {w : World} {v : Value} {l : List Int} (h : IntsAt w v l) (h0 : 0 < l.length) : ∀ k, v.ownBlock = some k → k < w.heap.size := h.rows.lt h0
theorem IntsAt.same {w w' : World} {v : Value} {l : List Int} (h : IntsAt w v l) (hz : w.heap.size ≤ w'.heap.size) (he : 0 < l.length → ∀ k, v.ownBlock = some k → w'.heap[k]? = w.heap[k]?) : IntsAt w' v l := (RowsAt.same h.rows hz fun h0 g hg => he h0 g hg).ints
section
variable {w w1 w' : World} {B : Nat} {G : Nat → Prop} {vl vs : Value} {Ls : List Lr} {Ss : List Sr}
/-- nothing of it has changed -/
theorem WkAt.same (h : WkAt w B G vl vs Ls Ss) (hz : w.heap.size ≤ w'.heap.size) (he : ∀ k, k < w.heap.size → (G k ∨ B ≤ k) → w'.heap[k]? = w.heap[k]?) : WkAt w' B G vl vs Ls Ss where
  lr := h.lr.same hz fun h0 g hg => he g (h.lr.lt h0 g hg) (.inr ((h.lo (List.length_pos_iff.1 h0)).2 g hg))
  lo h0 := ⟨(h.lo h0).1.same hz fun g hg => he g ((h.lo h0).1.lt g hg) (.inr ((h.lo h0).2 g hg)), (h.lo h0).2⟩
  sr := h.sr.same hz fun h0 g hg => he g (h.sr.lt h0 g hg) (.inr ((h.so (List.length_pos_iff.1 h0)).2 g hg))
  so h0 := ⟨(h.so h0).1.same hz fun g hg => he g ((h.so h0).1.lt g hg) (.inr ((h.so h0).2 g hg)), (h.so h0).2⟩
  ne := h.ne
  el x hx := ⟨(h.el x hx).1.same hz fun h0 k hk => he k ((h.el x hx).1.lt h0 k hk) ((h.el x hx).2 h0 k hk).1, (h.el x hx).2⟩
  es x hx := ⟨(h.es x hx).1.same hz fun h0 k hk => he k ((h.es x hx).1.lt h0 k hk) ((h.es x hx).2 h0 k hk).1, (h.es x hx).2⟩
theorem WkAt.kept (h : WkAt w B G vl vs Ls Ss) (hb : Below w.heap.size w w') : WkAt w' B G vl vs Ls Ss := h.same hb.size fun k hk _ => hb.block k hk
theorem WkAt.locks (h : WkAt w B G vl vs Ls Ss) : LocksAt w vl Ls := ⟨h.lr, fun x hx => (h.el x hx).1⟩
theorem WkAt.seats (h : WkAt w B G vl vs Ls Ss) : SeatsAt w vs Ss := ⟨h.sr, fun x hx => (h.es x hx).1⟩
/-- a store at a place that is none of its -/
theorem WkAt.away (h : WkAt w B G vl vs Ls Ss) (p : Addr) (u : Value) (hp : ¬ G p.block ∧ p.block < B) : WkAt (w.setCell p u) B G vl vs Ls Ss :=
  h.same (by simp [World.setCell]) fun k _ hk => Below.heap_setCell w p u k fun e => by
    subst e
    rcases hk with hk | hk
    · exact hp.1 hk
    · omega
/-- a lock is written -/
theorem WkAt.put (h : WkAt w B G vl vs Ls Ss) (hb : Below w.heap.size w w1) (hB : B ≤ w.heap.size) (i : Nat) (hi : i < Ls.length) (x : Lr) (hx : IntsAt w1 x.v x.wait) (hf : FromV Ls[i].v x.v Ls[i].wait.length x.wait.length w.heap.size)
    {g o n c : Nat} (hv : vl = .slice (some ⟨g, o, none⟩) n c) :
    WkAt (((w1.setCell ⟨g, o + i * 3, none⟩ (.int .i64 x.id)).setCell ⟨g, o + i * 3 + 1, none⟩ (.int .i64 x.holder)).setCell ⟨g, o + i * 3 + 2, none⟩ x.v) B G vl vs (Ls.set i x) Ss ∧
    Only (fun k => vl.ownBlock = some k) w (((w1.setCell ⟨g, o + i * 3, none⟩ (.int .i64 x.id)).setCell ⟨g, o + i * 3 + 1, none⟩ (.int .i64 x.holder)).setCell ⟨g, o + i * 3 + 2, none⟩ x.v) := by
  have hne : Ls ≠ [] := List.ne_nil_of_length_pos (by omega)
  have hne2 : Ls.set i x ≠ [] := List.ne_nil_of_length_pos (by rw [List.length_set]; omega)
  have k1 := h.kept hb
  have hgo : vl.ownBlock = some g := by rw [hv]; rfl
  have hz : w1.heap.size ≤ (((w1.setCell ⟨g, o + i * 3, none⟩ (.int .i64 x.id)).setCell ⟨g, o + i * 3 + 1, none⟩ (.int .i64 x.holder)).setCell ⟨g, o + i * 3 + 2, none⟩ x.v).heap.size := by simp [World.setCell]
  have hout : ∀ k, k ≠ g → (((w1.setCell ⟨g, o + i * 3, none⟩ (.int .i64 x.id)).setCell ⟨g, o + i * 3 + 1, none⟩ (.int .i64 x.holder)).setCell ⟨g, o + i * 3 + 2, none⟩ x.v).heap[k]? = w1.heap[k]? := fun k hk => by
    rw [Below.heap_setCell _ _ _ _ hk, Below.heap_setCell _ _ _ _ hk, Below.heap_setCell _ _ _ _ hk]
  have hown := ((k1.lo hne).1)
  rw [hv] at hown
  have hp := OwnO.put3 csL_len hown i hi x _ _ _ rfl
  rw [← hv] at hp
  have hgz : g < w.heap.size := (h.lo hne).1.lt g hgo
  refine ⟨⟨OwnO.rows csL_len hp, fun _ => ⟨hp, (h.lo hne).2⟩, k1.sr.same hz fun h0 k hk => hout k (fun e => ?_), fun h0 => ⟨(k1.so h0).1.same hz fun k hk => hout k (fun e => ?_), (h.so h0).2⟩, fun _ h0 => h.ne hne h0, fun y hy => ?_, fun y hy => ⟨(k1.es y hy).1.same hz fun h0 k hk => hout k (fun e => ?_), fun h0 k hk => ⟨((h.es y hy).2 h0 k hk).1, fun _ => ((h.es y hy).2 h0 k hk).2.1 hne, ((h.es y hy).2 h0 k hk).2.2⟩⟩⟩, ?_⟩
  · exact h.ne hne (List.length_pos_iff.1 h0) (by rw [hgo, hk, e])
  · exact h.ne hne h0 (by rw [hgo, hk, e])
  · rcases List.mem_or_eq_of_mem_set hy with hy | rfl
    · exact ⟨(k1.el y hy).1.same hz fun h0 k hk => hout k (fun e => ((h.el y hy).2 h0 k hk).2.1 (by rw [hgo, e])), (h.el y hy).2⟩
    · have hin := h.el Ls[i] (List.getElem_mem hi)
      have hk0 : 0 < y.wait.length → ∀ k, y.v.ownBlock = some k → (G k ∨ B ≤ k) ∧ vl.ownBlock ≠ some k ∧ (Ss ≠ [] → vs.ownBlock ≠ some k) := fun h0 k hk => by
        rcases hf h0 k hk with ⟨h1, h2⟩ | h1
        · exact hin.2 h2 k h1
        · refine ⟨.inr (by omega), fun e => ?_, fun h2 e => ?_⟩
          · rw [hgo] at e
            have := Option.some.inj e
            omega
          · have := (h.so h2).1.lt k e
            omega
      exact ⟨hx.same hz fun h0 k hk => hout k (fun e => (hk0 h0 k hk).2.1 (by rw [hgo, e])), hk0⟩
  · exact ((h.es y hy).2 h0 k hk).2.1 hne (by rw [hgo, e])
  · exact ((((Only.of_below hb).set ⟨g, o + i * 3, none⟩ _ hgo).set ⟨g, o + i * 3 + 1, none⟩ _ hgo).set ⟨g, o + i * 3 + 2, none⟩ _ hgo)
/-- a seat's Got is written -/
theorem WkAt.inc (h : WkAt w B G vl vs Ls Ss) (i : Nat) (hi : i < Ss.length) (n' : Int) {g o n c : Nat} (hv : vs = .slice (some ⟨g, o, none⟩) n c) :
    WkAt (w.setCell ⟨g, o + i * 3 + 1, none⟩ (.int .i64 n')) B G vl vs Ls (Ss.set i { Ss[i] with got := n' }) ∧ Only (fun k => vs.ownBlock = some k) w (w.setCell ⟨g, o + i * 3 + 1, none⟩ (.int .i64 n')) := by
  have hne : Ss ≠ [] := List.ne_nil_of_length_pos (by omega)
  have hgo : vs.ownBlock = some g := by rw [hv]; rfl
  have hz : w.heap.size ≤ (w.setCell ⟨g, o + i * 3 + 1, none⟩ (.int .i64 n')).heap.size := by simp [World.setCell]
  have hout : ∀ k, k ≠ g → (w.setCell ⟨g, o + i * 3 + 1, none⟩ (.int .i64 n')).heap[k]? = w.heap[k]? := fun k hk => Below.heap_setCell _ _ _ _ hk
  have hown := (h.so hne).1
  rw [hv] at hown
  obtain ⟨g', o', c', e, _, _, hsp⟩ := OwnO.spot csSt_len hown i hi
  cases e
  have hp : OwnO (w.setCell ⟨g, o + i * 3 + 1, none⟩ (.int .i64 n')) 3 csSt (.slice (some ⟨g, o, none⟩) Ss.length c) (Ss.set i { Ss[i] with got := n' }) := by
    refine OwnO.put csSt_len hown i hi _ hz (fun j hj => ?_) (fun m _ hm => ?_) (fun a => World.frozen?_setCell _ _ _ _)
    · match j, hj with
      | 0, _ =>
        rw [World.cell?_setCell_other _ _ _ _ (by intro e; simp at e)]
        exact (hsp 0 _ rfl).1
      | 1, _ => exact World.cell?_setCell_same _ _ _ (by rw [(hsp 1 _ rfl).1])
      | 2, _ =>
        rw [World.cell?_setCell_other _ _ _ _ (by intro e; simp at e)]
        exact (hsp 2 _ rfl).1
    · exact World.cell?_setCell_other _ _ _ _ (by intro e; injection e; omega)
  rw [← hv] at hp
  refine ⟨⟨h.lr.same hz fun h0 k hk => hout k (fun e => h.ne (List.length_pos_iff.1 h0) hne (by rw [hgo, hk, e])), fun h0 => ⟨(h.lo h0).1.same hz fun k hk => hout k (fun e => h.ne h0 hne (by rw [hgo, hk, e])), (h.lo h0).2⟩, OwnO.rows csSt_len hp, fun _ => ⟨hp, (h.so hne).2⟩, fun h0 _ => h.ne h0 hne,
    fun y hy => ⟨(h.el y hy).1.same hz fun h0 k hk => hout k (fun e => ((h.el y hy).2 h0 k hk).2.2 hne (by rw [hgo, e])), fun h0 k hk => ⟨((h.el y hy).2 h0 k hk).1, ((h.el y hy).2 h0 k hk).2.1, fun _ => ((h.el y hy).2 h0 k hk).2.2 hne⟩⟩, fun y hy => ?_⟩, (Only.refl _ _).set ⟨g, o + i * 3 + 1, none⟩ _ hgo⟩
  rcases List.mem_or_eq_of_mem_set hy with hy | rfl
  · exact ⟨(h.es y hy).1.same hz fun h0 k hk => hout k (fun e => ((h.es y hy).2 h0 k hk).2.2 (by rw [hgo, e])), (h.es y hy).2⟩
  · have hy := List.getElem_mem hi
    exact ⟨(h.es _ hy).1.same hz fun h0 k hk => hout k (fun e => ((h.es _ hy).2 h0 k hk).2.2 (by rw [hgo, e])), (h.es _ hy).2⟩
end

/-- a lock that a call hands back, its list with it; e: what stands beside it -/
def lkLk (id h : Int) (m : Nat) (L : List Int) (e : Value) (va : Value) (n B : Nat) : Lk :=
  ⟨Option Addr × Nat, ⟨(none, 0)⟩, fun x => .tuple #[lkv id h (.slice x.1 m x.2), e], fun x w => IntsAt w (.slice x.1 m x.2) L ∧ FromV va (.slice x.1 m x.2) n m B⟩
theorem lkLk_at {P : Program} {o : Oper} {a : Act} {W : World} {Gq : World → Prop} {id h : Int} {m : Nat} {L : List Int} {e va : Value} {n B : Nat} {f : FuncId} {args : Array Value} (hm : L.length = m) (hB : B ≤ W.heap.size) (he : ∀ k : In W, (execOp a.eval o).run P k.w = .ok (.enter f args) k.w)
    (hc : ∀ k : In W, Calls P f args k.w fun x w' => ∃ v, x = .returned (.tuple #[lkv id h v, e]) ∧ IntsAt w' v L ∧ FromV va v n L.length k.w.heap.size ∧ Below k.w.heap.size k.w w') : (lkLk id h m L e va n B).at P o a W Gq :=
  ⟨fun _ _ _ h hb => ⟨IntsAt.below h.1 hb, h.2⟩, fun k _ => by
    subst hm
    rw [he k]
    refine ⟨rfl, (hc k).mono ?_⟩
    rintro x w' ⟨v, rfl, h1, h2, h3⟩
    obtain ⟨b, c, rfl⟩ := h1.form
    exact ⟨(b, c), rfl, ⟨h1, fun h0 j hj => (h2 h0 j hj).imp (fun h => h) fun h => Nat.le_trans hB (Nat.le_trans k.h.size h)⟩, h3.mono k.h.size⟩⟩

set_option maxHeartbeats 2000000 in
set_option maxRecDepth 100000 in
theorem refAskNone_any (vl vs : Value) (hvl : ∃ a n c, vl = .slice a n c) (hvs : ∃ a n c, vs = .slice a n c) (s : Sr) (h : s.got = (s.want.length : Int)) (W : World) :
    Calls Tryz.prog 40 #[tbv vl vs, s.val] W fun e w' => e = .returned (.tuple #[]) ∧ Below W.heap.size W w' := by
  obtain ⟨al, nl, cl, rfl⟩ := hvl
  obtain ⟨a2, ns, cs, rfl⟩ := hvs
  obtain ⟨tok, got, a, c, want⟩ := s
  simp only at h
  have hb := ((Below.refl W.heap.size W).alloc (Nat.le_refl _) (.cells #[.slice al nl cl, .slice a2 ns cs] 38)).alloc (by simp) (.cells #[.int .i64 tok, .int .i64 got, .slice a want.length c] 68)
  have HB := Lib.hid hb
  have k1 : ¬ got < (want.length : Int) := by omega
  clear hb h
  go_enter Tryz.func40, Tryz.ntmps40
  go_wp2
  go_end0
  exact ⟨rfl, HB.out⟩

set_option maxHeartbeats 4000000 in
set_option maxRecDepth 100000 in
theorem refAskSome_any {B : Nat} {G : Nat → Prop} {vl vs : Value} {Ls : List Lr} {Ss : List Sr} {W : World} (K : WkAt W B G vl vs Ls Ss) (hB : B ≤ W.heap.size) (s : Sr) (hs : IntsAt W s.v s.want) (j : Nat) (hj : s.got = (j : Int)) (hlt : j < s.want.length) (hw : s.want.length ≤ 1000)
    (hl : Ls.length ≤ 1000) (i : Nat) (hi : i < Ls.length) (hp : plcL (idsL Ls) s.want[j] = (i : Int)) (xi xh : Int) (xa : Option Addr) (xc : Nat) (xw : List Int) (hX : Ls[i] = ⟨xi, xh, xa, xc, xw⟩) (hwl : xw.length ≤ 1000) :
    Calls Tryz.prog 40 #[tbv vl vs, s.val] W fun e w' => e = .returned (.tuple #[]) ∧
      ∃ x : Lr, lkp x = (xi, xh, (askL xh xw s.token).1) ∧ FromV (.slice xa xw.length xc) x.v xw.length x.wait.length W.heap.size ∧ WkAt w' B G vl vs (Ls.set i x) Ss ∧ Only (fun k => vl.ownBlock = some k) W w' := by
  have HK := Lib.hid K
  have hne : Ls ≠ [] := List.ne_nil_of_length_pos (by omega)
  obtain ⟨al, cl, evl⟩ := RowsAt.form K.lr
  obtain ⟨a2, cs, evs⟩ := RowsAt.form K.sr
  subst evl evs
  obtain ⟨tok, got, a, c, want⟩ := s
  simp only at hj hs hlt hw hp ⊢
  subst hj
  -- the boxes
  have b1 := (Below.refl W.heap.size W).alloc (Nat.le_refl _) (.cells #[.slice al Ls.length cl, .slice a2 Ss.length cs] 38)
  have hX0 := Blk.new W [.slice al Ls.length cl, .slice a2 Ss.length cs] 38
  have hz1 : (W.alloc (.cells #[.slice al Ls.length cl, .slice a2 Ss.length cs] 38)).heap.size = W.heap.size + 1 := by simp
  have b2 := (Below.refl (W.alloc (.cells #[.slice al Ls.length cl, .slice a2 Ss.length cs] 38)).heap.size _).alloc (Nat.le_refl _) (.cells #[.int .i64 tok, .int .i64 j, .slice a want.length c] 68)
  have hY := Blk.new (W.alloc (.cells #[.slice al Ls.length cl, .slice a2 Ss.length cs] 38)) [.int .i64 tok, .int .i64 j, .slice a want.length c] 68
  rw [hz1] at hY
  have hX1 := hX0.kept b2
  have HB := Lib.hid (b1.trans (b2.mono b1.size))
  have x0 := hX1.cell 0 rfl
  have x1 := hX1.cell 1 rfl
  have y0 := hY.cell 0 rfl
  have y1 := hY.cell 1 rfl
  have y2 := hY.cell 2 rfl
  have hs2 := hs.below HB.out
  obtain ⟨gw, ow, cw, e, hcw, _, p0⟩ := hs2.spot j hlt
  cases e
  have K2 := K.kept HB.out
  have HK2 := Lib.hid K2
  have HLK := Lib.hid fun (w' : World) (hb : Below ((W.alloc (.cells #[.slice al Ls.length cl, .slice a2 Ss.length cs] 38)).alloc (.cells #[.int .i64 tok, .int .i64 j, .slice (some ⟨gw, ow, none⟩) want.length c] 68)).heap.size ((W.alloc (.cells #[.slice al Ls.length cl, .slice a2 Ss.length cs] 38)).alloc (.cells #[.int .i64 tok, .int .i64 j, .slice (some ⟨gw, ow, none⟩) want.length c] 68)) w') => refLock20_any (.slice al Ls.length cl) a2 Ss.length cs Ls want[j] w' (K2.lr.kept hb) (by omega)
  rw [hp] at HLK
  have HZ := Lib.hid (show ((W.alloc (.cells #[.slice al Ls.length cl, .slice a2 Ss.length cs] 38)).alloc (.cells #[.int .i64 tok, .int .i64 j, .slice (some ⟨gw, ow, none⟩) want.length c] 68)).heap.size = W.heap.size + 2 by simp)
  have HX := Lib.hid hX1
  have HY := Lib.hid hY
  obtain ⟨L', hL'⟩ : ∃ L', (askL xh xw tok).1 = L' := ⟨_, rfl⟩
  obtain ⟨er, her⟩ : ∃ er, (askL xh xw tok).2 = er := ⟨_, rfl⟩
  rw [hL']
  have HLL := Lib.hid hL'
  have HER := Lib.hid her
  obtain ⟨m, hm⟩ : ∃ m, L'.length = m := ⟨_, rfl⟩
  have HM := Lib.hid hm
  have HXE := Lib.hid hX
  clear hL' her hm hX
  have k1 : (j : Int) < (want.length : Int) := by omega
  have k2 : (0 : Int) ≤ (j : Int) := by omega
  have k3 : (want.length : Int) ≤ 1000 := by omega
  have k4 : (0 : Int) ≤ (i : Int) := by omega
  have k5 : (i : Int) < (Ls.length : Int) := by omega
  have k6 : (Ls.length : Int) ≤ 1000 := by omega
  generalize want[j] = id at *
  clear b1 hX0 hz1 b2 hY hX1 K hs hs2 hp K2
  go_enter Tryz.func40, Tryz.ntmps40
  go_upto_region 2 with fail
  generalize (W.alloc (.cells #[.slice al Ls.length cl, .slice a2 Ss.length cs] 38)).alloc (.cells #[.int .i64 tok, .int .i64 j, .slice (some ⟨gw, ow, none⟩) want.length c] 68) = w1 at *
  refine wp_region_calm0 (by kernel_rfl) (by kernel_rfl) fun M => ?_
  have e0 := fun n : In M.w => n.cell (M.cell x0)
  have e1 := fun n : In M.w => n.cell (M.cell x1)
  have e3 := fun n : In M.w => n.cell (M.cell y1)
  have e4 := fun n : In M.w => n.cell (M.cell y2)
  have e5 := fun n : In M.w => n.cell (M.cell p0)
  have HL2 := fun n : In M.w => HLK.out n.w (M.h.trans (n.h.mono M.h.size))
  repeat (go_big_quiet_step ((go_at_call 37; with_reducible exact In.call (HL2 _))))
  refine wpQuiet_nil ?_
  clear e0 e1 e3 e4 e5 HL2 M
  intro w2 hb2
  have HB2 := Lib.hid hb2
  have hX2 := HX.out.kept hb2
  have hY2 := HY.out.kept hb2
  have K2 := HK2.out.kept hb2
  have u0 := hX2.cell 0 rfl
  have u1 := hX2.cell 1 rfl
  have v0 := hY2.cell 0 rfl
  have v1 := hY2.cell 1 rfl
  have v2 := hY2.cell 2 rfl
  have HBA := Lib.hid (HB.out.trans (hb2.mono HB.out.size))
  have HK3 := Lib.hid K2
  obtain ⟨g, o, cc, e, _, _, hsp⟩ := OwnO.spot csL_len (K2.lo hne).1 i hi
  cases e
  rw [HXE.out] at hsp
  have q0 := (hsp 0 _ rfl).1
  have q1 := (hsp 1 _ rfl).1
  have q2 := (hsp 2 _ rfl).1
  have hiw := (K2.el Ls[i] (List.getElem_mem hi)).1
  rw [HXE.out] at hiw
  dsimp only [Lr.v] at q0 q1 q2 hiw
  rw [Nat.add_zero] at q0
  have HAS := Lib.hid fun (w' : World) (hb : Below w2.heap.size w2 w') => refAsk19_any xi xh tok (.slice xa xw.length xc) xw w' (hiw.below hb) (by omega)
  rw [HLL.out, HER.out] at HAS
  have HDR := Lib.hid ((Below.refl w2.heap.size w2).drew)
  have HZD := Lib.hid fun (w5 : World) (hb5 : Below w2.heap.size w2 w5) => (show w5.frozen? ⟨g, o + i * 3, none⟩ = false ∧ w5.frozen? ⟨g, o + i * 3 + 1, none⟩ = false ∧ w5.frozen? ⟨g, o + i * 3 + 2, none⟩ = false ∧ w5.cell? ⟨g, o + i * 3, none⟩ = some (.int .i64 xi) ∧ w5.cell? ⟨g, o + i * 3 + 1, none⟩ = some (.int .i64 xh) ∧ w5.cell? ⟨g, o + i * 3 + 2, none⟩ = some (.slice xa xw.length xc) from by
    have k5 := HK3.out.kept hb5
    obtain ⟨g', o', cc', e, _, _, hsp5⟩ := OwnO.spot csL_len (k5.lo hne).1 i hi
    cases e
    rw [HXE.out] at hsp5
    exact ⟨(hsp5 0 _ rfl).2, (hsp5 1 _ rfl).2, (hsp5 2 _ rfl).2, (hsp5 0 _ rfl).1, (hsp5 1 _ rfl).1, (hsp5 2 _ rfl).1⟩)
  clear hb2 hX2 hY2 K2 hsp x0 x1 y0 y1 y2 p0 hiw hwl HLK HK2 HX HY
  go_upto_region 3 with fail
  go_region_law (first
    | (go_simp; go_at_call 67; (with_reducible refine (HAS.out _ HDR.out).mono ?_); rintro e w5 ⟨v5, rfl, h5, h6, hb5⟩; obtain ⟨y1, y2, e5⟩ := h5.form; rw [HM.out] at e5; subst e5; rw [HM.out] at h6; have hb5 := (HDR.out.trans hb5); have HB5 := Lib.hid hb5; have U0 := (hb5.cell (World.block_lt_of_cell? _ _ u0)).trans u0; obtain ⟨z0, z1, z2, d0, d1, d2⟩ := HZD.out w5 hb5; have H5 := Lib.hid h5; have H6 := Lib.hid h6; clear hb5 h5 h6))
  all_goals (
    have hWP := HK3.out.put HB5.out (by have := HBA.out.size; omega) i hi ⟨xi, xh, y1, y2, L'⟩ (by dsimp only [Lr.v]; rw [HM.out]; exact H5.out) (by rw [HXE.out]; dsimp only [Lr.v]; rw [HM.out]; exact H6.out) rfl
    dsimp only [Lr.v] at hWP
    rw [HM.out] at hWP
    have HWP := Lib.hid hWP
    clear hWP z0 z1 z2 d0 d1 d2 U0
    go_wp2
    go_end0
    exact ⟨rfl, ⟨xi, xh, y1, y2, L'⟩, rfl, fun h0 k hk => (H6.out (by dsimp only at h0; rw [HM.out] at h0; exact h0) k (by dsimp only [Lr.v] at hk; rw [HM.out] at hk; exact hk)).imp (fun h => h) fun h => Nat.le_trans HBA.out.size h, HWP.out.1, (Only.of_below HBA.out).trans HWP.out.2⟩)
end Go.Proofs.YtbkoogffnchldaaGreat
