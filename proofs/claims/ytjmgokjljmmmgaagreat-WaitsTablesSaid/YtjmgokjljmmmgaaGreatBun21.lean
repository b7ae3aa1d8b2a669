/- Texts of this proof, joined: TbD; TbF; TbG; TbH. -/
import Derived.Test.YtjmgokjljmmmgaaGreatBun20
/- Stage 20's program: what may be aisles; the next ask; one aisle more is held; all locks, one behind the other. -/
namespace Go.Proofs.YtjmgokjljmmmgaaGreat
open Go.RowKit Go.Maps

set_option maxHeartbeats 8000000 in
set_option maxRecDepth 100000 in
theorem tMay_any (va : Value) (l : List Int) (W : World) (ha : IntsAt W va l) (hl : l.length ≤ 1000) :
    Calls Tryz.prog 21 #[va] W fun e w' => e = .returned (.bool (mayB l)) ∧ Below W.heap.size W w' := by
  obtain ⟨r, hr⟩ : ∃ r, mayB l = r := ⟨_, rfl⟩
  rw [hr]
  have HR := Lib.hid hr
  have GR := Lib.hid (iRight_any va l W ha (by omega))
  have HA := Lib.hid ha
  obtain ⟨a, c, rfl⟩ := IntsAt.form ha
  have HL := Lib.hid hl
  clear hr ha
  by_cases h0 : l.length = 0
  · have HF := Lib.hid (show true = r by rw [← HR.out, List.eq_nil_of_length_eq_zero h0]; rfl)
    have k0 : ((l.length : Int) == 0) = true := by rw [h0]; rfl
    clear h0
    go_enter Tryz.func21, Tryz.ntmps21
    go_wp2
    go_ret
    exact ⟨ret_b HF.out, Below.refl _ _⟩
  have k0 : ((l.length : Int) == 0) = false := beq_noI (by omega)
  by_cases h1 : l.length ≤ 32
  · have k1 : (l.length : Int) ≤ 32 := by omega
    cases hq : rightB l with
    | false =>
      have HF := Lib.hid (show false = r by rw [← HR.out]; unfold mayB; rw [hq]; simp)
      rw [hq] at GR
      clear hq h0
      go_enter Tryz.func21, Tryz.ntmps21
      go_wp2_with (go_at_call 23; (with_reducible refine GR.out.mono ?_); rintro e w1 ⟨rfl, hb⟩; have HB := Lib.hid hb; clear hb)
      go_ret
      exact ⟨ret_b HF.out, HB.out⟩
    | true =>
      rw [hq] at GR
      obtain ⟨g, o, cc, e, _, _, p0⟩ := HA.out.spot 0 (by omega)
      cases e
      obtain ⟨g2, o2, cc2, e, _, _, p1⟩ := HA.out.spot (l.length - 1) (by omega)
      cases e
      have hR : (decide ((1 : Int) ≤ l[0]'(by omega)) && decide (l[l.length - 1]'(by omega) ≤ (999 : Int))) = r := by
        rw [← HR.out]
        unfold mayB
        rw [hq, decide_eq_true h1, decide_eq_false h0, List.getElem?_eq_getElem (by omega : 0 < l.length), List.getElem?_eq_getElem (by omega : l.length - 1 < l.length)]
        simp
      generalize l[0]'(by omega) = x at *
      generalize l[l.length - 1]'(by omega) = y at *
      rw [Nat.add_zero] at p0
      have HP0 := Lib.hid p0
      have HP1 := Lib.hid p1
      have k2 : (l.length : Int) - 1 = ((l.length - 1 : Nat) : Int) := by omega
      have k3 : (0 : Int) ≤ ((l.length - 1 : Nat) : Int) := by omega
      have k4 : ((l.length - 1 : Nat) : Int) < (l.length : Int) := by omega
      have k5 : (0 : Int) < (l.length : Int) := by omega
      clear hq p0 p1 h0
      by_cases hx : (1 : Int) ≤ x
      · by_cases hy : y ≤ (999 : Int)
        · have HF := Lib.hid (show true = r by rw [← hR, decide_eq_true hx, decide_eq_true hy]; rfl)
          clear hR
          go_enter Tryz.func21, Tryz.ntmps21
          go_wp2_with (go_at_call 23; (with_reducible refine GR.out.mono ?_); rintro e w1 ⟨rfl, hb⟩; have HB := Lib.hid hb; have q0 := (hb.cell (World.block_lt_of_cell? _ _ HP0.out)).trans HP0.out; have q1 := (hb.cell (World.block_lt_of_cell? _ _ HP1.out)).trans HP1.out; clear hb)
          go_ret
          exact ⟨ret_b HF.out, HB.out⟩
        · have HF := Lib.hid (show false = r by rw [← hR, decide_eq_true hx, decide_eq_false hy]; rfl)
          clear hR
          go_enter Tryz.func21, Tryz.ntmps21
          go_wp2_with (go_at_call 23; (with_reducible refine GR.out.mono ?_); rintro e w1 ⟨rfl, hb⟩; have HB := Lib.hid hb; have q0 := (hb.cell (World.block_lt_of_cell? _ _ HP0.out)).trans HP0.out; have q1 := (hb.cell (World.block_lt_of_cell? _ _ HP1.out)).trans HP1.out; clear hb)
          go_ret
          exact ⟨ret_b ((decide_eq_false (by omega)).trans HF.out), HB.out⟩
      · have HF := Lib.hid (show false = r by rw [← hR, decide_eq_false hx]; rfl)
        have hx2 : x < 1 := by omega
        clear hR
        go_enter Tryz.func21, Tryz.ntmps21
        go_wp2_with (go_at_call 23; (with_reducible refine GR.out.mono ?_); rintro e w1 ⟨rfl, hb⟩; have HB := Lib.hid hb; have q0 := (hb.cell (World.block_lt_of_cell? _ _ HP0.out)).trans HP0.out; have q1 := (hb.cell (World.block_lt_of_cell? _ _ HP1.out)).trans HP1.out; clear hb)
        go_ret
        exact ⟨ret_b HF.out, HB.out⟩
  · have k1 : ¬ (l.length : Int) ≤ 32 := by omega
    have HF := Lib.hid (show false = r by rw [← HR.out]; unfold mayB; rw [decide_eq_false h1]; rfl)
    clear h0
    go_enter Tryz.func21, Tryz.ntmps21
    go_wp2
    go_ret
    exact ⟨ret_b HF.out, Below.refl _ _⟩

theorem upF_self {α : Type} (f : Int → α) (k : Int) : upF f k (f k) = f := by
  funext x
  unfold upF
  split
  · rename_i h
    rw [h]
  · rfl
section
variable {b ml mc : Nat} {pt : Int → Nat} {Gf : Int → Nat → Prop} {cl : Int → Cl} {F : Nat → Prop} {w : World} {T : Tb}
set_option maxHeartbeats 8000000 in
set_option maxRecDepth 100000 in
theorem tAskNext_any (h : TbR b ml mc pt Gf cl F w T) {t : Int} (hok : OkX T (some t)) : Calls Tryz.prog 27 #[ptr18 b, .int .i64 t] w fun e w' => e = .returned (.tuple #[]) ∧ ∃ Gf' F', TbR b ml mc pt Gf' cl F' w' (T.ask t) ∧ Mv F F' w w' := by
  obtain ⟨htk, _⟩ := hok.off t rfl
  have h64 := hok.tok64 htk
  obtain ⟨h1, h2, h3⟩ := h.ch t htk
  have hlk := MapC.look1 h.cm h64
  rw [(clG_at cl htk).1] at hlk
  obtain ⟨x, hx⟩ : ∃ x, cl t = x := ⟨_, rfl⟩
  rw [hx] at h1 h2 h3 hlk
  have hal := (Below.refl w.heap.size w).alloc (Nat.le_refl _) (.cells #[x.v, .int .i64 x.held] 64)
  have hwt := tWaits_any x (w.alloc (.cells #[x.v, .int .i64 x.held] 64))
  have hX := Blk.new w [x.v, .int .i64 x.held] 64
  obtain ⟨xg, xn, xc, xd⟩ := x
  simp only at h1 h2
  have c1 := h.blk.cell 1 rfl
  replace hlk : (Instr.lookup 58 (.map (some mc)) (.int .i64 t) false).run Tryz.prog w = .ok (.agg #[.slice (xg.map fun b => ⟨b, 0, none⟩) xn xc, .int .i64 xd]) w := hlk
  replace hwt : Calls Tryz.prog 37 #[.agg #[.slice (xg.map fun b => ⟨b, 0, none⟩) xn xc, .int .i64 xd]] _ _ := hwt
  dsimp only [Cl.v] at hal hwt hX h3
  generalize xg.map (fun b => (⟨b, 0, none⟩ : Addr)) = xa at *
  have H := Lib.hid h
  have HAL := Lib.hid hal
  have HX := Lib.hid hX
  have HOK := Lib.hid hok
  have H3 := Lib.hid h3
  have HTK := Lib.hid htk
  obtain ⟨T', hT'⟩ : ∃ T', T.ask t = T' := ⟨_, rfl⟩
  rw [hT']
  have HT' := Lib.hid hT'
  cases hn : T.nx t with
  | none =>
    have hg : T.got t = (T.want t).length := by
      have h1 := hok.gl _ htk
      have h2 := List.getElem?_eq_none_iff.1 hn
      omega
    rw [show decide (xd = (xn : Int)) = true from decide_eq_true (by omega)] at hwt
    have HW := Lib.hid hwt
    have HTT := Lib.hid (show T = T' from (Tb.ask_none hn).symm.trans hT')
    clear h htk h64 h1 h2 h3 hx hal hwt hX hok hT' hn hg
    go_enter Tryz.func27, Tryz.ntmps27
    go_wp2_with (go_at_call 37; (with_reducible refine HW.out.mono ?_); rintro e w1 ⟨rfl, b1⟩; have HB1 := Lib.hid (HAL.out.trans (b1.mono HAL.out.size)); clear b1)
    go_end0
    exact ⟨rfl, Gf, F, by rw [← HTT.out]; exact H.out.kept HB1.out, Mv.of_below HB1.out⟩
  | some id =>
    obtain ⟨hg, hge⟩ := nx_at hn
    have hid := hok.nx_ids htk hn
    have hwl := hok.wantlen htk
    rw [show decide (xd = (xn : Int)) = false from decide_eq_false (by omega)] at hwt
    have HW := Lib.hid hwt
    subst h1 h2
    obtain ⟨g, o, cc, e, hcc, hgz, p0⟩ := h3.spot (T.got t) hg
    cases e
    rw [hge] at p0
    have HP0 := Lib.hid p0
    have HHN := Lib.hid hn
    have HID := Lib.hid hid
    have hli := MapL.look1 h.lm (hok.ids64 hid)
    rw [lkG_at pt hid] at hli
    have HLI := Lib.hid fun (w' : World) (hb : Below w.heap.size w w') => (show (Instr.lookup 57 (.map (some ml)) (.int .i64 id) false).run Tryz.prog w' = .ok (ptr18 (pt id)) w' from by
      have := MapL.look1 (h.kept hb).lm (hok.ids64 hid)
      rwa [lkG_at pt hid] at this)
    have HASK := Lib.hid fun (w' : World) (hb : Below w.heap.size w w') => lkAsk_any t ((h.kept hb).lk id hid) h64
    have k1 : (T.got t : Int) < ((T.want t).length : Int) := by omega
    have k2 : (0 : Int) ≤ (T.got t : Int) := by omega
    have k3 : (T.got t : Int) ≤ 32 := by omega
    have k4 : ((T.want t).length : Int) ≤ 32 := by omega
    obtain ⟨er, her⟩ : ∃ er, (askL (T.hd id) (T.wt id) t).2 = er := ⟨_, rfl⟩
    obtain ⟨L', hL'⟩ : ∃ L', (askL (T.hd id) (T.wt id) t).1 = L' := ⟨_, rfl⟩
    simp only [her, hL'] at HASK
    have HLL := Lib.hid hL'
    have c0' := h.blk.cell 0 rfl
    have HC0 := Lib.hid c0'
    clear h htk h64 h3 hx hal hwt hX hok hn hg hge hid hwl p0 hli her hL' c0'
    go_enter Tryz.func27, Tryz.ntmps27
    go_upto_region 2 with (go_at_call 37; (with_reducible refine HW.out.mono ?_); rintro e w1 ⟨rfl, b1⟩; have HX1 := Lib.hid (HX.out.kept b1); have HB1 := Lib.hid (HAL.out.trans (b1.mono HAL.out.size)); clear b1)
    have c0 := (HB1.out.cell (World.block_lt_of_cell? _ _ HC0.out)).trans HC0.out
    have p0 := (HB1.out.cell (World.block_lt_of_cell? _ _ HP0.out)).trans HP0.out
    have x0 := HX1.out.cell 0 rfl
    have x1 := HX1.out.cell 1 rfl
    have HLI2 := fun (w' : World) (hb : Below w1.heap.size w1 w') => HLI.out w' (HB1.out.trans (hb.mono HB1.out.size))
    clear hlk c1
    refine wp_region_calmT 12 (by kernel_rfl) (by simp) (by kernel_rfl) fun M => ?_
    simp only [List.take_succ_cons, List.take_zero, List.drop_succ_cons, List.drop_zero]
    have e0 := fun n : In M.w => n.cell (M.cell c0)
    have e1 := fun n : In M.w => n.cell (M.cell x0)
    have e2 := fun n : In M.w => n.cell (M.cell x1)
    have e3 := fun n : In M.w => n.cell (M.cell p0)
    have e4 := fun n : In M.w => HLI2 n.w (M.h.trans (n.h.mono M.h.size))
    repeat (go_big_quiet_step (fail))
    refine wpQuiet_nil ?_
    clear e0 e1 e2 e3 e4 M
    intro w2 hb2
    have HB2 := Lib.hid (HB1.out.trans (hb2.mono HB1.out.size))
    clear hb2 c0 p0 x0 x1 HLI2
    go_wp2_with (go_at_call 56; (with_reducible refine (HASK.out _ HB2.out).mono ?_); rintro e w3 ⟨rfl, G', q1, q2⟩; have HQ1 := Lib.hid q1; have HQ2 := Lib.hid q2; clear q1 q2)
    go_end0
    obtain ⟨r1, r2⟩ := (H.out.kept HB2.out).lock HID.out HQ1.out HQ2.out
    rw [upF_self] at r1
    refine ⟨rfl, upF Gf id G', fun k => F k ∨ G' k, ?_, (Mv.of_below HB2.out).trans r2⟩
    have : T' = { T with wt := upF T.wt id L' } := by rw [← HT'.out, Tb.ask_some HHN.out, HLL.out]
    rw [this]
    exact r1

set_option maxHeartbeats 8000000 in
set_option maxRecDepth 100000 in
theorem tGoOn_any (h : TbR b ml mc pt Gf cl F w T) {t : Int} (htk : t ∈ T.toks) (hg : T.got t < (T.want t).length) (h32 : (T.want t).length ≤ 32) (h64 : I64 t) (h64l : T.toks.length ≤ 64) (hok : OkX { T with got := upF T.got t (T.got t + 1) } (some t)) :
    Calls Tryz.prog 33 #[ptr18 b, .int .i64 t] w fun e w' => e = .returned (.tuple #[]) ∧ ∃ Gf' cl' F', TbR b ml mc pt Gf' cl' F' w' (({ T with got := upF T.got t (T.got t + 1) } : Tb).ask t) ∧ Mv F F' w w' := by
  obtain ⟨h1, h2, h3⟩ := h.ch t htk
  have hcf := h.cf t htk
  have hlk := MapC.look1 h.cm h64
  rw [(clG_at cl htk).1] at hlk
  obtain ⟨x, hx⟩ : ∃ x, cl t = x := ⟨_, rfl⟩
  rw [hx] at h1 h2 h3 hlk hcf
  obtain ⟨xg, xn, xc, xd⟩ := x
  simp only at h1 h2
  subst h1 h2
  have c1 := h.blk.cell 1 rfl
  have HC1 := Lib.hid c1
  replace hlk : (Instr.lookup 58 (.map (some mc)) (.int .i64 t) false).run Tryz.prog w = .ok (.agg #[.slice (xg.map fun b => ⟨b, 0, none⟩) (T.want t).length xc, .int .i64 (T.got t)]) w := hlk
  have hal := (Below.refl w.heap.size w).alloc (Nat.le_refl _) (.cells #[.slice (xg.map fun b => ⟨b, 0, none⟩) (T.want t).length xc, .int .i64 ((T.got t : Int) + 1)] 64)
  have hX := Blk.new w [.slice (xg.map fun b => ⟨b, 0, none⟩) (T.want t).length xc, .int .i64 ((T.got t : Int) + 1)] 64
  have HAL := Lib.hid hal
  have HX := Lib.hid hX
  have HPUT := Lib.hid fun (w' : World) (hb : Below w.heap.size w w') => (show ∃ w'', (Instr.mapUpdate 58 (.map (some mc)) (.int .i64 t) (.agg #[.slice (xg.map fun b => ⟨b, 0, none⟩) (T.want t).length xc, .int .i64 ((T.got t : Int) + 1)])).run Tryz.prog w' = .ok () w'' ∧ TbR b ml mc pt Gf (upF cl t ⟨xg, (T.want t).length, xc, (T.got t : Int) + 1⟩) (fun k => F k ∨ False) w'' { T with got := upF T.got t (T.got t + 1) } ∧ w'.grownBy w'' (some mc) from by
    have k := h.kept hb
    obtain ⟨w'', q1, q2, q3⟩ := MapC.put k.cm (by omega) h64 ⟨xg, (T.want t).length, xc, (T.got t : Int) + 1⟩
    rw [(clG_at cl htk).2, if_pos rfl] at q2
    refine ⟨w'', q1, k.claim (X := fun _ => False) rfl rfl rfl (fun x => ⟨.inr, fun h => h.elim (fun e => e ▸ htk) fun h => h⟩) (fun x hx => ⟨upF_ne _ _ hx, rfl⟩) ⟨?_, rfl, h3.below hb⟩ (fun h0 k hk => ?_) (fun _ h => h.elim) q3 q2, q3⟩
    · show (T.got t : Int) + 1 = ((upF T.got t (T.got t + 1) t : Nat) : Int)
      rw [upF_same]
      simp
    · obtain ⟨a1, a2⟩ := hcf h0 k hk
      exact ⟨.inl a1, a2⟩)
  have HFC := Lib.hid h.fc
  have HASK := Lib.hid fun (w' : World) (q : TbR b ml mc pt Gf (upF cl t ⟨xg, (T.want t).length, xc, (T.got t : Int) + 1⟩) (fun k => F k ∨ False) w' { T with got := upF T.got t (T.got t + 1) }) => tAskNext_any q hok
  obtain ⟨T2, hT2⟩ : ∃ T2, (({ T with got := upF T.got t (T.got t + 1) } : Tb)) = T2 := ⟨_, rfl⟩
  rw [hT2] at HPUT HASK ⊢
  obtain ⟨T3, hT3⟩ : ∃ T3, T2.ask t = T3 := ⟨_, rfl⟩
  rw [hT3] at HASK ⊢
  have k1 : (T.got t : Int) + 1 ≤ 32 := by omega
  have k2 : (0 : Int) ≤ (T.got t : Int) := by omega
  generalize hn : (T.want t).length = n at *
  generalize (T.got t : Int) = j at *
  have hwr : IntKind.i64.wrap (j + 1) = j + 1 := by rw [IntKind.wrap_i64]; omega
  generalize xg.map (fun b => (⟨b, 0, none⟩ : Addr)) = xa at *
  clear h htk hg h32 h64 h64l hok h3 hcf hx hal hX hT2 hT3 hn
  go_enter Tryz.func33, Tryz.ntmps33
  go_upto_region 2 with fail
  have c1 := (HAL.out.cell (World.block_lt_of_cell? _ _ HC1.out)).trans HC1.out
  have x0 := HX.out.cell 0 rfl
  have x1 := HX.out.cell 1 rfl
  generalize w.alloc (.cells #[.slice xa n xc, .int .i64 (j + 1)] 64) = w1 at *
  clear hlk
  refine wp_region_calmT 6 (by kernel_rfl) (by simp) (by kernel_rfl) fun M => ?_
  simp only [List.take_succ_cons, List.take_zero, List.drop_succ_cons, List.drop_zero]
  have e0 := fun n : In M.w => n.cell (M.cell c1)
  have e1 := fun n : In M.w => n.cell (M.cell x0)
  have e2 := fun n : In M.w => n.cell (M.cell x1)
  repeat (go_big_quiet_step (fail))
  refine wpQuiet_nil ?_
  clear e0 e1 e2 M
  intro w2 hb2
  have HB2 := Lib.hid (HAL.out.trans (hb2.mono HAL.out.size))
  obtain ⟨w3, hrun, q2, q3⟩ := HPUT.out w2 HB2.out
  have HQ2 := Lib.hid q2
  have HQ3 := Lib.hid q3
  clear hb2 c1 x0 x1 q2 q3
  go_upto_region 3 with fail
  clear hrun
  go_wp2_with (go_at_call 27; (with_reducible refine (HASK.out _ HQ2.out).mono ?_); rintro e w4 ⟨rfl, Gf4, F4, r1, r2⟩; have HR1 := Lib.hid r1; have HR2 := Lib.hid r2; clear r1 r2)
  go_end0
  have hmv : Mv F (fun k => F k ∨ False) w w3 := ⟨(Only.of_below HB2.out).trans (Only.grown HQ3.out fun k hk => by have := Option.some.inj hk; rw [← this]; exact HFC.out), fun k hk => .inl (hk.elim (fun h => h) fun h => h.elim)⟩
  exact ⟨rfl, Gf4, _, F4, HR1.out, hmv.trans HR2.out⟩

/-- all locks, by rising IDs: a function that is handed on (g) is told each -/
theorem tEach_any {J : Nat → (Nat → Prop) → World → Prop} (KJ : KeepJ J) (g : FuncId) (caps : Array Value) (eg : ∀ args w, (callFunc g args).run Tryz.prog w = .ok (.enter g args) w)
    (h : TbR b ml mc pt Gf cl F w T) (hok : T.Ok) (F0 : Nat → Prop) (hJ : J 0 F0 w) (hF0 : ∀ k, F0 k → k < w.heap.size)
    (hR : ∀ i F' w', J i F' w' → Blk w' b [.map (some ml), .map (some mc)] ∧ MapL w' ml T.ids.length (lkG T pt))
    (hT : ∀ i F' w' (hi : i < T.ids.length), J i F' w' → Calls Tryz.prog g (#[.int .i64 T.ids[i], ptr18 (pt T.ids[i])] ++ caps) w' fun e w'' => e = .returned (.tuple #[]) ∧ ∃ F'', J (i + 1) F'' w'' ∧ Mv F' F'' w' w'') :
    Calls Tryz.prog 30 #[ptr18 b, .func (.func g) #[] caps] w fun e w' => e = .returned (.tuple #[]) ∧ ∃ F', J T.ids.length F' w' ∧ Mv F0 F' w w' := by
  have HID := Lib.hid (tIds_any h hok)
  have HJ := Lib.hid hJ
  have HF0 := Lib.hid hF0
  have HT := Lib.hid hT
  have HR := Lib.hid hR
  have HI64 := Lib.hid (fun id (hi : id ∈ T.ids) => (show I64 id ∧ ptv ((lkG T pt id).getD none) = ptr18 (pt id) from ⟨hok.ids64 hi, lkG_at pt hi⟩))
  have HLEN := Lib.hid (may_len hok.may)
  clear h hok hJ hF0 hT hR
  go_enter Tryz.func30, Tryz.ntmps30
  go_wp2
  refine wp_scope_goto 0 (fun n a' w' => ∃ (j : Nat) (z : Int) (F1 : Nat → Prop) (la : Option Addr) (lc : Nat), n = T.ids.length - j ∧ z = j ∧ j ≤ T.ids.length ∧ IntsAt w' (.slice la T.ids.length lc) T.ids ∧ OffV F1 (.slice la T.ids.length lc) T.ids.length ∧ J j F1 w' ∧ Mv F0 F1 w w' ∧ ∃ u2 u3 u6 u7 u8 u9 u10 u11 u12 u13 u14 u15 u16 u17 u18 u19 u20 u21 u22 u23 u24 u25 u26 u27 u28, a' = { tmps := #[ptr18 b, .func (.func g) #[] caps, u2, u3, .slice la T.ids.length lc, .int .i64 z, u6, u7, u8, u9, u10, u11, u12, u13, u14, u15, u16, u17, u18, u19, u20, u21, u22, u23, u24, u25, u26, u27, u28], defers := [] }) rfl rfl ?_ ?_
  · rintro n a' w' ⟨j, _, F1, la, lc, rfl, rfl, hj, hli, hoff, hj2, hmv, u2, u3, u6, u7, u8, u9, u10, u11, u12, u13, u14, u15, u16, u17, u18, u19, u20, u21, u22, u23, u24, u25, u26, u27, u28, rfl⟩ K hK
    have HK := Lib.hid hK
    have HJ2 := Lib.hid hj2
    have HM := Lib.hid hmv
    have HLI := Lib.hid hli
    have HOFF := Lib.hid hoff
    obtain ⟨hblk, hlm⟩ := HR.out j F1 w' hj2
    have HJL := Lib.hid hj
    clear hK hj2 hmv hoff
    by_cases hlt : j < T.ids.length
    · obtain ⟨gb, o, cc, e, _, _, p0⟩ := hli.spot j hlt
      cases e
      have hm := List.getElem_mem hlt
      obtain ⟨h64, hpt⟩ := HI64.out _ hm
      have HCALL := Lib.hid fun (w2 : World) (hb : Below w'.heap.size w' w2) => HT.out j F1 w2 hlt (KJ.kept HJ2.out hb)
      generalize T.ids[j] = id at *
      have HLK := Lib.hid fun (w2 : World) (hb : Below w'.heap.size w' w2) => (show (Instr.lookup 57 (.map (some ml)) (.int .i64 id) false).run Tryz.prog w2 = .ok (ptr18 (pt id)) w2 from by
        have := MapL.look1 (MapG.kept hlm hb) h64
        rwa [hpt] at this)
      have c0 := hblk.cell 0 rfl
      have j0 : (0 : Int) ≤ (j : Int) := by omega
      have j1 : (j : Int) < (T.ids.length : Int) := by omega
      have j2 : (j : Int) ≤ 32 := by have := HLEN.out; omega
      have HLT := Lib.hid hlt
      clear hli hblk hlm hm h64 hpt
      go_upto_region 3 with fail
      refine wp_region_calmT 14 (by kernel_rfl) (by simp) (by kernel_rfl) fun M => ?_
      simp only [List.take_succ_cons, List.take_zero, List.drop_succ_cons, List.drop_zero]
      have e0 := fun n : In M.w => n.cell (M.cell c0)
      have e1 := fun n : In M.w => n.cell (M.cell p0)
      have e2 := fun n : In M.w => HLK.out n.w (M.h.trans (n.h.mono M.h.size))
      repeat (go_big_quiet_step (fail))
      refine wpQuiet_nil ?_
      clear e0 e1 e2 M
      intro w2 hb2
      have HB2 := Lib.hid hb2
      clear hb2 c0 p0
      go_wp2_with (go_at_fn g; (with_reducible refine (HCALL.out _ HB2.out).mono ?_); rintro e w3 ⟨rfl, F3, q1, q2⟩; have HQ1 := Lib.hid q1; have HQ2 := Lib.hid q2; clear q1 q2)
      go_step3
      have hli2 := HLI.out.below HB2.out
      exact ⟨rfl, HK.out (T.ids.length - (j + 1)) _ _ (by have := HLT.out; omega) ⟨j + 1, _, F3, _, _, rfl, by omega, by have := HLT.out; omega, (hli2.rows.only HQ2.out.only HOFF.out).ints, HOFF.out.mv hli2.rows HQ2.out, HQ1.out, (HM.out.trans (Mv.of_below HB2.out)).trans HQ2.out, _, _, _, _, _, _, _, _, _, _, _, _, _, _, _, _, _, _, _, _, _, _, _, _, _,  rfl⟩⟩
    · have e : j = T.ids.length := by omega
      subst e
      have g2 : ¬ (T.ids.length : Int) < (T.ids.length : Int) := by omega
      clear hlt hli hblk hlm
      go_wp2
      simp only [Exit.jump]
      go_end0
      exact ⟨rfl, F1, HJ2.out, HM.out⟩
  · intro K hpass
    go_wp2_with (go_at_call 25; (with_reducible refine HID.out.mono ?_); rintro e w1 ⟨v1, rfl, h1, n1, b1⟩; obtain ⟨la, lc, e1⟩ := h1.form; subst e1; have H1 := Lib.hid h1; have N1 := Lib.hid n1; have B1 := Lib.hid b1; clear h1 n1 b1)
    go_step3
    rename_i hback
    exact hback _ _ (hpass (T.ids.length - 0) _ _ ⟨0, _, F0, la, lc, rfl, rfl, by omega, H1.out, fun _ k hk hf => by have := N1.out k hk; have := HF0.out k hf; omega, KJ.kept HJ.out B1.out, Mv.of_below B1.out, _, _, _, _, _, _, _, _, _, _, _, _, _, _, _, _, _, _, _, _, _, _, _, _, _,  rfl⟩)
end
end Go.Proofs.YtjmgokjljmmmgaaGreat
/- Stage 20's program: Scan. -/
namespace Go.Proofs.YtjmgokjljmmmgaaGreat
open Go.RowKit Go.Maps

/-- the first i locks have granted: the box of the table, the box of the grants -/
structure ScJ (b ml mc : Nat) (pt : Int → Nat) (T : Tb) (q i : Nat) (FJ : Nat → Prop) (w : World) (Gf : Int → Nat → Prop) (cl : Int → Cl) (F : Nat → Prop) (vv : Value) : Prop where
  tb : TbR b ml mc pt Gf cl F w (T.scanL (T.ids.take i)).1
  b1 : Blk w q [ptr18 b]
  b2 : Blk w (q + 1) [vv]
  own : OwnR w (q + 2) 74 2 csG vv (T.scanL (T.ids.take i)).2
  few : (T.scanL (T.ids.take i)).2.length ≤ i
  nF : ∀ k, F k → k ≠ q ∧ k ≠ q + 1 ∧ vv.ownBlock ≠ some k
  fF : ∀ k, F k → FJ k
  fq : FJ q
  fr : FJ (q + 1)
  fo : ∀ k, vv.ownBlock = some k → FJ k
  lt : ∀ k, FJ k → k < w.heap.size
section
variable {b ml mc : Nat} {pt : Int → Nat} {Gf : Int → Nat → Prop} {cl : Int → Cl} {F : Nat → Prop} {w w' : World} {T : Tb} {q i : Nat} {FJ : Nat → Prop} {vv : Value}
theorem ScJ.keep : KeepJ (fun i FJ w => ∃ Gf cl F vv, ScJ b ml mc pt T q i FJ w Gf cl F vv) where
  lt := fun ⟨_, _, _, _, h⟩ => h.lt
  out := fun ⟨Gf, cl, F, vv, h⟩ hz he => ⟨Gf, cl, F, vv, { tb := h.tb.same hz fun k hk => he k (h.fF k hk), b1 := h.b1.same (he q h.fq), b2 := h.b2.same (he _ h.fr), own := OwnR.sameB h.own fun k hk => he k (h.fo k hk), few := h.few, nF := h.nF, fF := h.fF, fq := h.fq, fr := h.fr, fo := h.fo, lt := fun k hk => Nat.lt_of_lt_of_le (h.lt k hk) hz }⟩
theorem ScJ.next (h : ScJ b ml mc pt T q i FJ w Gf cl F vv) {w2 w3 : World} {Gf2 : Int → Nat → Prop} {cl2 : Int → Cl} {F2 : Nat → Prop} {vv' : Value} (ht : TbR b ml mc pt Gf2 cl2 F2 w2 (T.scanL (T.ids.take (i + 1))).1) (hm : Mv F F2 w w2) (ho : Only (fun k => k = q + 1 ∨ vv.ownBlock = some k) w2 w3)
    (hb : Blk w3 (q + 1) [vv']) (hw : OwnR w3 (q + 2) 74 2 csG vv' (T.scanL (T.ids.take (i + 1))).2) (hf : (T.scanL (T.ids.take (i + 1))).2.length ≤ i + 1) (hv : ∀ k, vv'.ownBlock = some k → vv.ownBlock = some k ∨ w2.heap.size ≤ k) :
    ∃ FJ', (∃ Gf cl F vv, ScJ b ml mc pt T q (i + 1) FJ' w3 Gf cl F vv) ∧ Mv FJ FJ' w w3 := by
  have hq := h.lt q h.fq
  have hr := h.lt _ h.fr
  have hvl : ∀ k, vv.ownBlock = some k → q + 2 ≤ k ∧ k < w.heap.size := h.own.lt
  have hz2 := hm.only.size
  have hz3 := ho.size
  have hF2 : ∀ k, F2 k → k ≠ q ∧ k ≠ q + 1 ∧ vv.ownBlock ≠ some k := fun k hk => by
    rcases hm.sub k hk with hk | hk
    · exact h.nF k hk
    · exact ⟨by omega, by omega, fun e => by have := hvl k e; omega⟩
  refine ⟨fun k => FJ k ∨ (w.heap.size ≤ k ∧ k < w3.heap.size), ⟨Gf2, cl2, F2, vv', { tb := ht.same hz3 fun k hk => ho.block k (ht.lt k hk) (fun e => e.elim (hF2 k hk).2.1 (hF2 k hk).2.2), b1 := ?_, b2 := hb, own := hw, few := hf, nF := fun k hk => ⟨(hF2 k hk).1, (hF2 k hk).2.1, fun e => ?_⟩, fF := fun k hk => ?_, fq := .inl h.fq, fr := .inl h.fr, fo := fun k hk => ?_, lt := fun k hk => ?_ }⟩, ?_, fun k hk => hk.imp (fun h => h) fun h => h.1⟩
  · refine (h.b1.same (hm.only.block q hq fun hf => (h.nF q hf).1 rfl)).same (ho.block q (by omega) fun e => ?_)
    rcases e with e | e
    · omega
    · have := hvl q e
      omega
  · rcases hv k e with e | e
    · exact (hF2 k hk).2.2 e
    · have := ht.lt k hk
      omega
  · rcases hm.sub k hk with h1 | h1
    · exact .inl (h.fF k h1)
    · have := ht.lt k hk
      exact .inr ⟨h1, by omega⟩
  · rcases hv k hk with e | e
    · exact .inl (h.fo k e)
    · have := (hw.lt k hk).2
      exact .inr ⟨by omega, this⟩
  · rcases hk with hk | hk
    · have := h.lt k hk
      omega
    · exact hk.2
  · exact (hm.only.mono h.fF).trans (ho.mono fun k hk => hk.elim (fun e => e ▸ h.fr) (h.fo k))

theorem info_grantA : (Tryz.prog.info? 74).map (fun i => (i.zero, i.size, i.bytes)) = some (some (.agg #[.int .i64 0, .int .i64 0]), 2, 16) := by kernel_rfl
theorem appA {ops : Array Oper} {rest : List Oper} {o : Oper} {a : Act} {Q : Exit → Act → World → Prop} {B : Nat} {w : World} (t id : Int) {v : Value} {l : List (Int × Int)} (hown : OwnR w B 74 2 csG v l) (hB : B ≤ w.heap.size) (hl : l.length ≤ 1000000)
    (hgd : o.guard = none) (s y : Operand) (ho : o.op = .call { callee := .builtin .append, args := #[s, y], argTypes := #[36, 36] }) (hs : a.eval s = v) (hx : a.eval y = .slice (some ⟨w.heap.size, 0, none⟩) 1 1)
    (hK : ∀ v' w', OwnR w' B 74 2 csG v' (l ++ [(t, id)]) → Below B w w' → Only (fun k => v.ownBlock = some k) w w' → (∀ k, v'.ownBlock = some k → v.ownBlock = some k ∨ w.heap.size ≤ k) → wpList Tryz.prog ops Q rest (a.put o.dst v') w') : wpList Tryz.prog ops Q (o :: rest) a (w.alloc (.cells #[.int .i64 t, .int .i64 id] 74)) := by
  obtain ⟨i, hi, hz, hs1, hb1⟩ := info_parts info_grantA
  exact appK csG_len (by decide) csG_one 74 36 i _ 16 Tryz.underlying36 hi hz hs1 hb1 rfl (by decide) hown hB hl hgd s y ho hs hx hK

set_option maxHeartbeats 8000000 in
set_option maxRecDepth 100000 in
theorem tScan1_any (h : ScJ b ml mc pt T q i FJ w Gf cl F vv) (hok : T.Ok) (hi : i < T.ids.length) :
    Calls Tryz.prog 31 #[.int .i64 T.ids[i], ptr18 (pt T.ids[i]), .pointer (some ⟨q, 0, none⟩), .pointer (some ⟨q + 1, 0, none⟩)] w fun e w' => e = .returned (.tuple #[]) ∧ ∃ FJ', (∃ Gf cl F vv, ScJ b ml mc pt T q (i + 1) FJ' w' Gf cl F vv) ∧ Mv FJ FJ' w w' := by
  have hnx := scanL_next T T.ids i hi
  have hTi := scanL_ids T (T.ids.take i)
  have hok2 := scanL_ok hok (T.ids.take i) fun x hx => List.mem_of_mem_take hx
  have h32 := may_len hok.may
  have HNEXT := Lib.hid fun (w2 w3 : World) (Gf2 : Int → Nat → Prop) (cl2 : Int → Cl) (F2 : Nat → Prop) (vv' : Value) => h.next (w2 := w2) (w3 := w3) (Gf2 := Gf2) (cl2 := cl2) (F2 := F2) (vv' := vv')
  have htb := h.tb
  have hown := h.own
  have hfew := h.few
  obtain ⟨P, gs, hP⟩ : ∃ P gs, T.scanL (T.ids.take i) = (P, gs) := ⟨_, _, rfl⟩
  rw [hP] at hnx hTi hok2 htb hown hfew
  simp only at hnx hTi hok2 htb hown hfew
  have hm : T.ids[i] ∈ P.ids := by rw [hTi.1]; exact List.getElem_mem hi
  generalize T.ids[i] = id at *
  have hg := lkGrant_any (htb.lk id hm)
  simp only at hg
  have HNX := Lib.hid hnx
  have HTB := Lib.hid htb
  have HM := Lib.hid hm
  have HB2 := Lib.hid h.b2
  have HOWN := Lib.hid hown
  have HFEW := Lib.hid hfew
  have HNF := Lib.hid h.nF
  have HQZ := Lib.hid (And.intro (h.lt q h.fq) (h.lt _ h.fr))
  have HB1 := Lib.hid h.b1
  have H32 := Lib.hid (show i < 32 by omega)
  have hGF : ∀ k, Gf id k → F k := htb.fg id hm
  obtain ⟨va, vc, ev⟩ := RowsAt.form (OwnR.rows csG_len hown)
  rcases step_cases P id with hno | ⟨t, r, h0, hw⟩
  · have hgr : grantL (P.hd id) (P.wt id) = (P.hd id, P.wt id, 0, false) := by
      unfold grantL
      rcases hno with h | h
      · rw [if_neg h]
      · rw [h]; split <;> rfl
    rw [step_none hno, List.append_nil] at HNX
    rw [hgr] at hg
    simp only at hg
    have HG := Lib.hid hg
    have HGF := Lib.hid hGF
    clear h htb hown hfew hnx hTi hok2 hm hg hok h32 hi hP hGF hgr hno
    go_enter Tryz.func31, Tryz.ntmps31
    go_wp2_with (go_at_call 32; (with_reducible refine HG.out.mono ?_); rintro e w1 ⟨rfl, G', g1, g2⟩; have G1 := Lib.hid g1; have G2 := Lib.hid g2; clear g1 g2)
    go_end0
    obtain ⟨r1, r2⟩ := HTB.out.lock HM.out G1.out G2.out
    rw [upF_self, upF_self] at r1
    refine ⟨rfl, HNEXT.out w1 w1 _ _ _ vv (by rw [HNX.out]; exact r1) r2 (Only.refl _ _) (HB2.out.same (r2.only.block _ HQZ.out.2 fun hf => (HNF.out _ hf).2.1 rfl)) (by rw [HNX.out]; exact OwnR.sameB HOWN.out fun k hk => r2.only.block k (HOWN.out.lt k hk).2 fun hf => (HNF.out _ hf).2.2 hk) (by rw [HNX.out]; have := HFEW.out; simp only; omega) (fun k hk => .inl hk)⟩
  · have hmt : t ∈ P.wt id := by rw [hw]; simp
    obtain ⟨htk, hnt⟩ := hok2.wait id hm t hmt
    obtain ⟨hgt, hge⟩ := nx_at hnt
    clear hge
    have hgo := give_ok hok2 hm h0 hw
    have hgr : grantL (P.hd id) (P.wt id) = (t, r, t, true) := by
      unfold grantL
      rw [if_pos h0, hw]
    rw [step_some h0 hw] at HNX
    rw [hgr] at hg
    simp only at hg
    have HG := Lib.hid hg
    have HGF := Lib.hid hGF
    have HGO := Lib.hid fun (w1 : World) (Gf1 : Int → Nat → Prop) (F1 : Nat → Prop) (q1 : TbR b ml mc pt Gf1 cl F1 w1 { P with hd := upF P.hd id t, wt := upF P.wt id r }) => tGoOn_any q1 (t := t) htk hgt (hok2.wantlen htk) (hok2.tok64 htk) hok2.few hgo
    have HTOK := Lib.hid htk
    clear h htb hown hfew hnx hTi hok2 hm hg hok h32 hi hP hGF hgr h0 hw hmt htk hnt hgt hgo
    subst ev
    go_enter Tryz.func31, Tryz.ntmps31
    go_upto_region 2 with (go_at_call 32; (with_reducible refine HG.out.mono ?_); rintro e w1 ⟨rfl, G', g1, g2⟩; have G1 := Lib.hid g1; have G2 := Lib.hid g2; clear g1 g2)
    obtain ⟨r1, r2⟩ := HTB.out.lock HM.out G1.out G2.out
    have R1 := Lib.hid r1
    have R2 := Lib.hid r2
    have c0 := (HB1.out.same (r2.only.block _ HQZ.out.1 fun hf => (HNF.out _ hf).1 rfl)).cell 0 rfl
    have hgo := HGO.out w1 _ _ R1.out
    have HGN := Lib.hid hgo
    clear r1 r2 hgo
    go_upto_region 3 with (go_at_call 33; (with_reducible refine HGN.out.mono ?_); rintro e w2 ⟨rfl, Gf2, cl2, F2, s1, s2⟩; have S1 := Lib.hid s1; have S2 := Lib.hid (R2.out.trans s2); clear s1 s2)
    clear c0
    have hb2 := HB2.out.same (S2.out.only.block _ HQZ.out.2 fun hf => (HNF.out _ hf).2.1 rfl)
    have hown2 : OwnR w2 (q + 2) 74 2 csG (.slice va gs.length vc) gs := OwnR.sameB HOWN.out fun k hk => S2.out.only.block k (HOWN.out.lt k hk).2 fun hf => (HNF.out _ hf).2.2 hk
    have HB22 := Lib.hid hb2
    have HOWN2 := Lib.hid hown2
    have HZ2 := Lib.hid (show q + 2 ≤ w2.heap.size by have := HQZ.out.2; have := S2.out.only.size; omega)
    have c1 := hb2.cell 0 rfl
    clear hb2 hown2
    go_upto_region 4 with (at_builtin; refine appA t id HOWN2.out HZ2.out (by have := HFEW.out; have := H32.out; omega) rfl _ _ rfl rfl rfl ?_; intro v8 w8 o8 b8 m8 n8; obtain ⟨a8, c8, e8⟩ := RowsAt.form (OwnR.rows csG_len o8); simp only [List.length_append, List.length_singleton] at e8; subst e8; have HO8 := Lib.hid o8; have HM8 := Lib.hid m8; have HN8 := Lib.hid n8; have hb8 := HB22.out.same (m8.block _ HZ2.out fun e => by have := (HOWN2.out.lt _ e).1; omega); have HB8 := Lib.hid hb8; have d0 := hb8.cell 0 rfl; have d1 := hb8.free 0 rfl; clear o8 b8 m8 n8 hb8 c1)
    have hb9 := HB8.out.set 0 (.slice a8 (gs.length + 1) c8)
    have HB9 := Lib.hid hb9
    have HO9 := Lib.hid (OwnR.away HO8.out ⟨q + 1, 0, none⟩ (.slice a8 (gs.length + 1) c8) (fun e => by have := (HO8.out.lt (q + 1) e).1; omega))
    have HM9 := Lib.hid ((HM8.out.mono (F' := fun k => k = q + 1 ∨ (Value.slice va gs.length vc).ownBlock = some k) (fun k hk => .inr hk)).set ⟨q + 1, 0, none⟩ (.slice a8 (gs.length + 1) c8) (.inl rfl))
    clear hb9
    go_wp2
    go_end0
    exact ⟨rfl, HNEXT.out w2 _ _ _ _ (.slice a8 (gs.length + 1) c8) (by rw [HNX.out]; exact S1.out) S2.out HM9.out HB9.out (by rw [HNX.out]; exact HO9.out) (by rw [HNX.out]; have := HFEW.out; simp only [List.length_append, List.length_singleton]; omega) HN8.out⟩

set_option maxHeartbeats 8000000 in
set_option maxRecDepth 100000 in
theorem tScan_any (h : TbR b ml mc pt Gf cl F w T) (hok : T.Ok) : Calls Tryz.prog 10 #[ptr18 b] w fun e w' => ∃ v, e = .returned v ∧ RowsAt w' 2 csG v T.scan.2 ∧ (∀ k, v.ownBlock = some k → w.heap.size ≤ k) ∧ ∃ F', TbAt F' w' (ptr18 b) T.scan.1 ∧ Mv F F' w w' := by
  have hmf : ∀ (fn : Fn) (first cap : Array Value) (w : World), (Instr.makeFunc fn first cap).run Tryz.prog w = .ok (.func fn first cap) w := fun _ _ _ _ => rfl
  have hal1 := (Below.refl w.heap.size w).alloc (Nat.le_refl _) (.cells #[ptr18 b] 27)
  have hX0 := Blk.new w [ptr18 b] 27
  have hal2 := (Below.refl (w.alloc (.cells #[ptr18 b] 27)).heap.size _).alloc (Nat.le_refl _) (.cells #[.slice none 0 0] 36)
  have hY := Blk.new (w.alloc (.cells #[ptr18 b] 27)) [.slice none 0 0] 36
  rw [show (w.alloc (.cells #[ptr18 b] 27)).heap.size = w.heap.size + 1 by simp] at hY
  have hX := hX0.kept hal2
  have hal := hal1.trans (hal2.mono hal1.size)
  have hsz : ((w.alloc (.cells #[ptr18 b] 27)).alloc (.cells #[.slice none 0 0] 36)).heap.size = w.heap.size + 2 := by simp
  have h1 := h.kept hal
  have hJ : ScJ b ml mc pt T w.heap.size 0 (fun k => F k ∨ k = w.heap.size ∨ k = w.heap.size + 1) ((w.alloc (.cells #[ptr18 b] 27)).alloc (.cells #[.slice none 0 0] 36)) Gf cl F (.slice none 0 0) :=
    { tb := h1, b1 := hX, b2 := hY, own := OwnR.nil _ _ _ _ _, few := Nat.zero_le _, nF := fun k hk => by have := h.lt k hk; exact ⟨by omega, by omega, by simp [Value.ownBlock]⟩, fF := fun k hk => .inl hk, fq := .inr (.inl rfl), fr := .inr (.inr rfl), fo := fun k hk => by simp [Value.ownBlock] at hk, lt := fun k hk => by rcases hk with hk | hk | hk; { exact h1.lt k hk }; { omega }; { omega } }
  have HE := Lib.hid (tEach_any (ScJ.keep (b := b) (ml := ml) (mc := mc) (pt := pt) (T := T) (q := w.heap.size)) 31 #[.pointer (some ⟨w.heap.size, 0, none⟩), .pointer (some ⟨w.heap.size + 1, 0, none⟩)] (fun _ _ => by kernel_rfl) h1 hok _ ⟨_, _, _, _, hJ⟩ hJ.lt
    (fun i F' w' ⟨_, _, _, _, h⟩ => ⟨h.tb.blk, by
      have h9 := h.tb.lm
      have e := (scanL_ids T (T.ids.take i)).1
      have e2 : lkG (T.scanL (T.ids.take i)).1 pt = lkG T pt := by unfold lkG; rw [e]
      rw [e, e2] at h9
      exact h9⟩) (fun i F' w' hi ⟨_, _, _, _, h⟩ => tScan1_any h hok hi))
  have HAL := Lib.hid hal
  have HSZ := Lib.hid hsz
  have HLT := Lib.hid h.lt
  have hok9 := scan_ok hok
  have e9 : T.scanL (T.ids.take T.ids.length) = T.scan := by rw [List.take_length]; rfl
  have HOK := Lib.hid hok9
  have HE9 := Lib.hid e9
  have c0 := hX.cell 0 rfl
  clear h hok hal1 hX0 hal2 hY hX hal hsz h1 hJ hok9 e9
  go_enter Tryz.func10, Tryz.ntmps10
  go_upto_region 3 with (go_at_call 30; (with_reducible refine HE.out.mono ?_); rintro e w1 ⟨rfl, FJ', ⟨Gf2, cl2, F2, vv, hj⟩, hm⟩; have HJ2 := Lib.hid hj; have HM2 := Lib.hid hm; have c1 := hj.b2.cell 0 rfl; clear hj hm)
  go_wp2
  go_ret
  have hj := HJ2.out
  have htb := hj.tb
  have how := OwnR.rows csG_len hj.own
  rw [HE9.out] at htb how
  have ho := HM2.out.only
  have ha := HAL.out
  refine ⟨_, rfl, how, fun k hk => (by have := (OwnR.lt hj.own k hk).1; omega), F2, ⟨HOK.out, b, ml, mc, pt, Gf2, cl2, rfl, htb⟩, ⟨ho.os.trans ha.os, ho.tape.trans ha.tape, ho.output.trans ha.output, Nat.le_trans ha.size ho.size, fun k hk hf => (ho.block k (by rw [HSZ.out]; omega) fun h => ?_).trans (ha.block k hk)⟩, fun k hk => ?_⟩
  · rcases h with h | h | h
    · exact hf h
    · omega
    · omega
  · rcases HM2.out.sub k (hj.fF k hk) with h | h
    · rcases h with h | h | h
      · exact .inl h
      · exact .inr (by omega)
      · exact .inr (by omega)
    · rw [HSZ.out] at h
      exact .inr (by omega)
end
end Go.Proofs.YtjmgokjljmmmgaaGreat
/- Stage 20's program: Enter. -/
namespace Go.Proofs.YtjmgokjljmmmgaaGreat
open Go.RowKit Go.Maps

/-- a copy of a list, in new memory, from its block's beginning on -/
def lkOwn (B : Nat) (n : Nat) (l : List Int) : Lk := ⟨Option Nat × Nat, ⟨(none, 0)⟩, fun x => .slice (x.1.map fun b => ⟨b, 0, none⟩) n x.2, fun x w => OwnI w B (.slice (x.1.map fun b => ⟨b, 0, none⟩) n x.2) l⟩
theorem OwnI.hdr {w : World} {B : Nat} {v : Value} {l : List Int} (h : OwnI w B v l) : ∃ (g : Option Nat) (c : Nat), v = .slice (g.map fun b => ⟨b, 0, none⟩) l.length c := by
  rcases h.2 with ⟨rfl, h0⟩ | ⟨g, cap, cur, rfl, _⟩
  · exact ⟨none, 0, by rw [h0]; rfl⟩
  · exact ⟨some g, cap, rfl⟩
theorem lkOwn_at {P : Program} {o : Oper} {a : Act} {W : World} {G : World → Prop} {B n : Nat} {l : List Int} {f : FuncId} {args : Array Value} (hn : l.length = n) (hB : B ≤ W.heap.size) (he : ∀ k : In W, (execOp a.eval o).run P k.w = .ok (.enter f args) k.w)
    (hc : ∀ k : In W, Calls P f args k.w fun e w' => ∃ v, e = .returned v ∧ OwnI w' k.w.heap.size v l ∧ Below k.w.heap.size k.w w') : (lkOwn B n l).at P o a W G :=
  ⟨fun _ _ _ h hb => OwnR.kept h hb, fun k _ => by
    subst hn
    rw [he k]
    refine ⟨rfl, (hc k).mono ?_⟩
    rintro e w' ⟨v, rfl, h1, h2⟩
    obtain ⟨g, c, rfl⟩ := OwnI.hdr h1
    exact ⟨(g, c), rfl, OwnR.base13 h1 (Nat.le_trans hB k.h.size), h2.mono k.h.size⟩⟩

/-- a claim of one's own copy is laid -/
theorem TbR.entered {b ml mc : Nat} {pt : Int → Nat} {Gf : Int → Nat → Prop} {cl : Int → Cl} {F : Nat → Prop} {w w2 : World} {T : Tb} (h : TbR b ml mc pt Gf cl F w T) (hb : Below w.heap.size w w2) {t : Int} (h64 : I64 t) (hm : t ∉ T.toks) (hf : T.toks.length ≤ 64) {l : List Int} {g : Option Nat} {c : Nat} (ho : OwnI w2 w.heap.size (.slice (g.map fun b => ⟨b, 0, none⟩) l.length c) l) :
    ∃ w3, (Instr.mapUpdate 58 (.map (some mc)) (.int .i64 t) (.agg #[.slice (g.map fun b => ⟨b, 0, none⟩) l.length c, .int .i64 0])).run Tryz.prog w2 = .ok () w3 ∧ ∃ F', TbR b ml mc pt Gf (upF cl t ⟨g, l.length, c, 0⟩) F' w3 (T.put t l) ∧ Mv F F' w w3 := by
  have k := h.kept hb
  obtain ⟨w3, q1, q2, q3⟩ := MapC.put k.cm (by omega) h64 ⟨g, l.length, c, 0⟩
  rw [(clG_no cl hm).2, if_neg (by simp)] at q2
  refine ⟨w3, q1, _, k.claim (t := t) (c := ⟨g, l.length, c, 0⟩) (T' := T.put t l) (X := fun k => w.heap.size ≤ k ∧ k < w2.heap.size) rfl rfl rfl (fun x => insI_mem) (fun x hx => ⟨upF_ne _ _ hx, upF_ne _ _ hx⟩) ⟨?_, ?_, ?_⟩ (fun h0 j hj => ?_) (fun j hj => hj.2) q3 ?_, ⟨(Only.of_below hb).trans (Only.grown q3 fun j hj => by rw [← Option.some.inj hj]; exact h.fc), fun j hj => ?_⟩⟩
  · show (0 : Int) = ((upF T.got t 0 t : Nat) : Int)
    rw [upF_same]
    rfl
  · show l.length = (upF T.want t l t).length
    rw [upF_same]
  · show IntsAt w2 _ (upF T.want t l t)
    rw [upF_same]
    exact OwnI.ints ho
  · obtain ⟨a1, a2⟩ := ho.lt j hj
    have l1 := h.lt b h.fb
    have l2 := h.lt ml h.fl
    have l3 := h.lt mc h.fc
    exact ⟨.inr ⟨a1, a2⟩, by omega, by omega, by omega, fun id hid hg => by have := h.lt j (h.fg id hid j hg); omega⟩
  · have e : (T.put t l).toks.length = T.toks.length + 1 := insI_len
    rw [e]
    exact q2
  · rcases hj with hj | hj
    · exact .inl hj
    · exact .inr hj.1

set_option maxHeartbeats 16000000 in
set_option maxRecDepth 100000 in
theorem tEnter_any {F : Nat → Prop} {w : World} {p : Value} {T : Tb} (h : TbAt F w p T) (t : Int) (ht : In18 t) (va : Value) (l : List Int) (hi : IntsAt w va l) (hl : l.length ≤ 1000) :
    Calls Tryz.prog 8 #[p, .int .i64 t, va] w fun e w' => e = .returned (.int .i64 (T.enterE t l)) ∧ ∃ F', TbAt F' w' p (T.enter t l) ∧ Mv F F' w w' := by
  obtain ⟨hok, b, ml, mc, pt, Gf, cl, rfl, hr⟩ := h
  obtain ⟨er, her⟩ : ∃ er, T.enterE t l = er := ⟨_, rfl⟩
  obtain ⟨T', hT'⟩ : ∃ T', T.enter t l = T' := ⟨_, rfl⟩
  rw [her, hT']
  have HERR := Lib.hid her
  have HT' := Lib.hid hT'
  have HFIN := Lib.hid (show ∀ c w', er = c → c ≠ 0 → Below w.heap.size w w' → ∃ F', TbAt F' w' (ptr18 b) T' ∧ Mv F F' w w' from fun c w' h1 h2 hb => by
    have e : T = T' := by
      rw [← hT']
      unfold Tb.enter
      rw [if_neg (by rw [her, h1]; exact h2)]
    rw [← e]
    exact ⟨F, ⟨hok, b, ml, mc, pt, Gf, cl, rfl, hr.kept hb⟩, Mv.of_below hb⟩)
  have HOK := Lib.hid hok
  have H := Lib.hid hr
  have HI := Lib.hid hi
  have HL := Lib.hid hl
  have HIN := Lib.hid ht
  have GR := Lib.hid (iRight_any va l w hi (by omega))
  obtain ⟨aw, cw, rfl⟩ := hi.form
  clear her hT' hi hl
  by_cases h1 : t < 1
  · have HER := Lib.hid (show er = 1 from HERR.out.symm.trans (by unfold Tb.enterE; rw [if_pos (.inl h1)]))
    clear hr hok
    go_enter Tryz.func8, Tryz.ntmps8
    go_wp2
    go_ret
    exact ⟨ret_i HER.out.symm, HFIN.out 1 _ HER.out (by decide) (Below.refl _ _)⟩
  have HN1 := Lib.hid h1
  cases hq : rightB l with
  | false =>
    have HER := Lib.hid (show er = 1 from HERR.out.symm.trans (by unfold Tb.enterE; rw [if_pos (.inr hq)]))
    rw [hq] at GR
    clear hr hok hq
    go_enter Tryz.func8, Tryz.ntmps8
    go_wp2_with (go_at_call 23; (with_reducible refine GR.out.mono ?_); rintro e w3 ⟨rfl, b3⟩; have HB3 := Lib.hid b3; clear b3)
    go_ret
    exact ⟨ret_i HER.out.symm, HFIN.out 1 _ HER.out (by decide) HB3.out⟩
  | true =>
    rw [hq] at GR
    have HQ := Lib.hid hq
    have HIDS := Lib.hid fun (w' : World) (hb : Below w.heap.size w w') => tIds_any (hr.kept hb) hok
    have HLI := Lib.hid (may_len hok.may)
    cases hw : withinB l T.ids with
    | false =>
      have HER := Lib.hid (show er = 7 from HERR.out.symm.trans (by unfold Tb.enterE; rw [if_neg (fun h => h.elim h1 fun h => by rw [hq] at h; cases h), if_pos hw]))
      have HWN := Lib.hid fun (v : Value) (w' : World) (ha : IntsAt w' (.slice aw l.length cw) l) (hb : IntsAt w' v T.ids) => iWithin_any (.slice aw l.length cw) v l T.ids w' ha hb (by have := HL.out; omega) (by have := HLI.out; omega)
      rw [hw] at HWN
      clear hr hok hq hw
      go_enter Tryz.func8, Tryz.ntmps8
      go_wp2_with (first
        | (go_at_call 23; (with_reducible refine GR.out.mono ?_); rintro e w3 ⟨rfl, b3⟩; have HB3 := Lib.hid b3; clear b3)
        | (go_at_call 25; (with_reducible refine (HIDS.out _ HB3.out).mono ?_); rintro e w4 ⟨v4, rfl, h4, _, b4⟩; have HB4 := Lib.hid (HB3.out.trans (b4.mono HB3.out.size)); have WN := Lib.hid (HWN.out v4 w4 (HI.out.below HB4.out) h4); clear h4 b4)
        | (go_at_call 24; (with_reducible refine WN.out.mono ?_); rintro e w5 ⟨rfl, b5⟩; have HB5 := Lib.hid (HB4.out.trans (b5.mono HB4.out.size)); clear b5))
      go_ret
      exact ⟨ret_i HER.out.symm, HFIN.out 7 _ HER.out (by decide) HB5.out⟩
    | true =>
      have HWN := Lib.hid fun (v : Value) (w' : World) (ha : IntsAt w' (.slice aw l.length cw) l) (hb : IntsAt w' v T.ids) => iWithin_any (.slice aw l.length cw) v l T.ids w' ha hb (by have := HL.out; omega) (by have := HLI.out; omega)
      rw [hw] at HWN
      have HW := Lib.hid hw
      clear hq hw
      go_enter Tryz.func8, Tryz.ntmps8
      go_upto_region 7 with (first
        | (go_at_call 23; (with_reducible refine GR.out.mono ?_); rintro e w3 ⟨rfl, b3⟩; have HB3 := Lib.hid b3; clear b3)
        | (go_at_call 25; (with_reducible refine (HIDS.out _ HB3.out).mono ?_); rintro e w4 ⟨v4, rfl, h4, _, b4⟩; have HB4 := Lib.hid (HB3.out.trans (b4.mono HB3.out.size)); have WN := Lib.hid (HWN.out v4 w4 (HI.out.below HB4.out) h4); clear h4 b4)
        | (go_at_call 24; (with_reducible refine WN.out.mono ?_); rintro e w5 ⟨rfl, b5⟩; have HB5 := Lib.hid (HB4.out.trans (b5.mono HB4.out.size)); clear b5))
      have h5 := H.out.kept HB5.out
      have c1 := h5.blk.cell 1 rfl
      have hlk := MapC.look h5.cm HIN.out
      by_cases hm : t ∈ T.toks
      · have HER := Lib.hid (show er = 6 from HERR.out.symm.trans (by unfold Tb.enterE; rw [if_neg (fun h => h.elim (fun h => by have := HN1.out; omega) fun h => by rw [HQ.out] at h; cases h), if_neg (by rw [HW.out]; simp), if_pos hm]))
        rw [(clG_at cl hm).1, (clG_at cl hm).2] at hlk
        obtain ⟨x, hx⟩ : ∃ x, cl t = x := ⟨_, rfl⟩
        rw [hx] at hlk
        obtain ⟨xg, xn, xc, xd⟩ := x
        replace hlk : (Instr.lookup 58 (.map (some mc)) (.int .i64 t) true).run Tryz.prog w5 = .ok (.tuple #[.agg #[.slice (xg.map fun b => ⟨b, 0, none⟩) xn xc, .int .i64 xd], .bool true]) w5 := hlk
        generalize xg.map (fun b => (⟨b, 0, none⟩ : Addr)) = xa at *
        clear hr hok hm hx h5
        go_wp2
        go_ret
        exact ⟨ret_i HER.out.symm, HFIN.out 6 _ HER.out (by decide) (HB5.out.alloc HB5.out.size _)⟩
      · have HM := Lib.hid hm
        rw [(clG_no cl hm).1, (clG_no cl hm).2] at hlk
        replace hlk : (Instr.lookup 58 (.map (some mc)) (.int .i64 t) true).run Tryz.prog w5 = .ok (.tuple #[.agg #[.slice none 0 0, .int .i64 0], .bool false]) w5 := hlk
        go_upto_region 10 with fail
        have HB6 := Lib.hid (HB5.out.alloc HB5.out.size (.cells #[.slice none 0 0, .int .i64 0] 64))
        generalize w5.alloc (.cells #[.slice none 0 0, .int .i64 0] 64) = w6 at *
        have h6 := H.out.kept HB6.out
        have c1 := h6.blk.cell 1 rfl
        have HCM := Lib.hid h6.cm
        clear hlk h5 hm
        by_cases h64 : 64 ≤ T.toks.length
        · have HER := Lib.hid (show er = 9 from HERR.out.symm.trans (by unfold Tb.enterE; rw [if_neg (fun h => h.elim (fun h => by have := HN1.out; omega) fun h => by rw [HQ.out] at h; cases h), if_neg (by rw [HW.out]; simp), if_neg HM.out, if_pos h64]))
          have k64 : (64 : Int) ≤ (T.toks.length : Int) := by omega
          clear hr hok h6 h64
          go_wp2_with (at_len; refine wpList_lenG (E := EC) rfl _ _ rfl Tryz.underlying58 rfl HCM.out ?_)
          go_ret
          exact ⟨ret_i HER.out.symm, HFIN.out 9 _ HER.out (by decide) HB6.out⟩
        · have HER := Lib.hid (show er = 0 from HERR.out.symm.trans (by unfold Tb.enterE; rw [if_neg (fun h => h.elim (fun h => by have := HN1.out; omega) fun h => by rw [HQ.out] at h; cases h), if_neg (by rw [HW.out]; simp), if_neg HM.out, if_neg h64]))
          have k64 : ¬ (64 : Int) ≤ (T.toks.length : Int) := by omega
          clear hr hok h6 h64
          go_upto_region 12 with (at_len; refine wpList_lenG (E := EC) rfl _ _ rfl Tryz.underlying58 rfl HCM.out ?_)
          have HEN := Lib.hid (show (T.put t l).ask t = T' from by rw [← HT'.out]; unfold Tb.enter; rw [if_pos (HERR.out.trans HER.out)])
          have HPO := Lib.hid (put_ok HOK.out HIN.out (HERR.out.trans HER.out))
          have CL := Lib.hid fun (w' : World) (hb : Below w6.heap.size w6 w') => cloneI_any (.slice aw l.length cw) l w' ((HI.out.below HB6.out).below hb) (by have := HL.out; omega)
          obtain ⟨n, hn⟩ : ∃ n, l.length = n := ⟨_, rfl⟩
          have HLN := Lib.hid hn
          have HENT := Lib.hid fun (w7 : World) (hb : Below w6.heap.size w6 w7) (g : Option Nat) (c : Nat) (ho : OwnI w7 w6.heap.size (.slice (g.map fun b => ⟨b, 0, none⟩) l.length c) l) => (H.out.kept HB6.out).entered hb HIN.out HM.out HOK.out.few ho
          rw [hn] at HENT CL
          clear hn
          simp only [HLN.out]
          refine wp_region_chain 8 [.calm 6, .own (lkOwn w6.heap.size n l), .calm 1] [6] rfl (by kernel_rfl) (by simp) (by kernel_rfl) (by kernel_rfl) ?_
          simp only [List.take_succ_cons, List.take_zero, List.drop_succ_cons, List.drop_zero]
          refine ⟨by simp, fun M => ?_⟩
          simp only [List.take_succ_cons, List.take_zero, List.drop_succ_cons, List.drop_zero]
          have e1 := fun n : In M.w => n.cell (M.cell c1)
          repeat (go_big_quiet_step (fail))
          refine wpQuiet_nil ?_
          clear e1 M
          refine ⟨rfl, lkOwn_at (f := 26) (args := #[.slice aw n cw]) HLN.out (Nat.le_refl _) (fun k => by simp [go_sem]) (fun k => CL.out k.w k.h), fun y A hA => ?_⟩
          simp [Act.put, lkOwn] at hA
          subst hA
          refine ⟨by simp, fun M => ?_⟩
          simp only [List.take_succ_cons, List.take_zero, List.drop_succ_cons, List.drop_zero]
          repeat (go_big_quiet_step (fail))
          refine wpQuiet_nil ?_
          clear M
          refine ⟨rfl, fun w7 hb7 h7 => ?_⟩
          obtain ⟨y1, y2⟩ := y
          obtain ⟨w8, hrun, F8, s1, s2⟩ := HENT.out w7 hb7 y1 y2 h7
          have S1 := Lib.hid s1
          have S2 := Lib.hid s2
          generalize y1.map (fun b => (⟨b, 0, none⟩ : Addr)) = xa at *
          clear hb7 h7 s1 s2 c1
          have HAN := Lib.hid (tAskNext_any S1.out HPO.out)
          go_upto_region 13 with fail
          clear hrun
          go_wp2_with (go_at_call 27; (with_reducible refine HAN.out.mono ?_); rintro e w9 ⟨rfl, Gf9, F9, r1, r2⟩; have HR1 := Lib.hid r1; have HR2 := Lib.hid r2; clear r1 r2)
          go_ret
          have hr1 := HR1.out
          rw [HEN.out] at hr1
          have hok9 := HPO.out.ask
          rw [HEN.out] at hok9
          exact ⟨ret_i HER.out.symm, F9, ⟨hok9, b, ml, mc, pt, Gf9, _, rfl, hr1⟩, ((Mv.of_below HB6.out).trans S2.out).trans HR2.out⟩
end Go.Proofs.YtjmgokjljmmmgaaGreat
/- Stage 20's program: Leave. -/
namespace Go.Proofs.YtjmgokjljmmmgaaGreat
open Go.RowKit Go.Maps

/-- the first k of the aisles that it wants have been left -/
def Tb.lvw (T : Tb) (t : Int) (k : Nat) : Tb := { T with hd := fun id => if id ∈ (T.want t).take k then (leaveL (T.hd id) (T.wt id) t).1 else T.hd id, wt := fun id => if id ∈ (T.want t).take k then (leaveL (T.hd id) (T.wt id) t).2.1 else T.wt id }
theorem lvw_next (T : Tb) (t : Int) (hn : (T.want t).Nodup) (k : Nat) (hk : k < (T.want t).length) : T.lvw t (k + 1) = { T.lvw t k with hd := upF (T.lvw t k).hd (T.want t)[k] (leaveL ((T.lvw t k).hd (T.want t)[k]) ((T.lvw t k).wt (T.want t)[k]) t).1, wt := upF (T.lvw t k).wt (T.want t)[k] (leaveL ((T.lvw t k).hd (T.want t)[k]) ((T.lvw t k).wt (T.want t)[k]) t).2.1 } := by
  have hno := not_take hn k hk
  have e1 : (T.lvw t k).hd (T.want t)[k] = T.hd (T.want t)[k] := if_neg hno
  have e2 : (T.lvw t k).wt (T.want t)[k] = T.wt (T.want t)[k] := if_neg hno
  rw [e1, e2]
  have hm : ∀ a, a ∈ (T.want t).take (k + 1) ↔ a ∈ (T.want t).take k ∨ a = (T.want t)[k] := fun a => by rw [List.take_succ_eq_append_getElem hk, List.mem_append, List.mem_singleton]
  unfold Tb.lvw
  congr 1
  · funext a
    show (if a ∈ (T.want t).take (k + 1) then _ else _) = (if a = (T.want t)[k] then _ else (if a ∈ (T.want t).take k then _ else _))
    by_cases e : a = (T.want t)[k]
    · rw [if_pos ((hm a).2 (.inr e)), if_pos e, e]
    · rw [if_neg e]
      by_cases h : a ∈ (T.want t).take k
      · rw [if_pos ((hm a).2 (.inl h)), if_pos h]
      · rw [if_neg (fun h2 => ((hm a).1 h2).elim h e), if_neg h]
  · funext a
    show (if a ∈ (T.want t).take (k + 1) then _ else _) = (if a = (T.want t)[k] then _ else (if a ∈ (T.want t).take k then _ else _))
    by_cases e : a = (T.want t)[k]
    · rw [if_pos ((hm a).2 (.inr e)), if_pos e, e]
    · rw [if_neg e]
      by_cases h : a ∈ (T.want t).take k
      · rw [if_pos ((hm a).2 (.inl h)), if_pos h]
      · rw [if_neg (fun h2 => ((hm a).1 h2).elim h e), if_neg h]
theorem lvw_zero (T : Tb) (t : Int) : T.lvw t 0 = T := by simp [Tb.lvw]
theorem TbR.congr {b ml mc : Nat} {pt : Int → Nat} {Gf : Int → Nat → Prop} {cl : Int → Cl} {F : Nat → Prop} {w : World} {T : Tb} (h : TbR b ml mc pt Gf cl F w T) (hd : Int → Int) (wt : Int → List Int) (he : ∀ id ∈ T.ids, hd id = T.hd id ∧ wt id = T.wt id) : TbR b ml mc pt Gf cl F w { T with hd := hd, wt := wt } :=
  have e : ∀ id ∈ T.ids, LkAt (Gf id) w (ptr18 (pt id)) ⟨id, hd id, wt id⟩ := fun id hi => by
    rw [(he id hi).1, (he id hi).2]
    exact h.lk id hi
  { h with lk := e }
theorem lvw_end {T : Tb} (h : T.Ok) {t : Int} (ht : t ∈ T.toks) {id : Int} (hi : id ∈ T.ids) : (leaveL (T.hd id) (T.wt id) t).1 = (T.lvw t (T.want t).length).hd id ∧ (leaveL (T.hd id) (T.wt id) t).2.1 = (T.lvw t (T.want t).length).wt id := by
  unfold Tb.lvw
  simp only [List.take_length]
  by_cases hw : id ∈ T.want t
  · rw [if_pos hw, if_pos hw]
    exact ⟨rfl, rfl⟩
  · rw [if_neg hw, if_neg hw]
    exact leave_far h ht hi hw

set_option maxHeartbeats 16000000 in
set_option maxRecDepth 100000 in
theorem tLeave_any {F : Nat → Prop} {w : World} {p : Value} {T : Tb} (h : TbAt F w p T) (t : Int) (ht : In18 t) :
    Calls Tryz.prog 9 #[p, .int .i64 t] w fun e w' => e = .returned (.bool (decide (t ∈ T.toks))) ∧ ∃ F', TbAt F' w' p (T.leave t) ∧ Mv F F' w w' := by
  obtain ⟨hok, b, ml, mc, pt, Gf, cl, rfl, hr⟩ := h
  have hfi := tFind_any hr t ht
  obtain ⟨T', hT'⟩ : ∃ T', T.leave t = T' := ⟨_, rfl⟩
  rw [hT']
  have HT' := Lib.hid hT'
  have HOK := Lib.hid hok
  have H := Lib.hid hr
  have HIN := Lib.hid ht
  by_cases hm : t ∈ T.toks
  · rw [decide_eq_true hm]
    rw [(clG_at cl hm).1, (clG_at cl hm).2] at hfi
    obtain ⟨h1, h2, h3⟩ := hr.ch t hm
    obtain ⟨x, hx⟩ : ∃ x, cl t = x := ⟨_, rfl⟩
    rw [hx] at h1 h2 h3 hfi
    have HX := Lib.hid hx
    obtain ⟨xg, xn, xc, xd⟩ := x
    simp only at h1 h2
    subst h1 h2
    have HFI := Lib.hid (show Calls Tryz.prog 28 #[ptr18 b, .int .i64 t] w fun e w' => e = .returned (.tuple #[.agg #[.slice (xg.map fun b => ⟨b, 0, none⟩) (T.want t).length xc, .int .i64 (T.got t)], .bool true]) ∧ Below w.heap.size w w' from hfi)
    have HM := Lib.hid hm
    have HND := Lib.hid (ris_nodup (hok.wr t hm))
    have HWL := Lib.hid (hok.wantlen hm)
    have HIDS := Lib.hid (show ∀ id ∈ T.want t, id ∈ T.ids ∧ I64 id from fun id hi => ⟨hok.win t hm id hi, hok.ids64 (hok.win t hm id hi)⟩)
    obtain ⟨xa, hxa⟩ : ∃ xa, xg.map (fun b => (⟨b, 0, none⟩ : Addr)) = xa := ⟨_, rfl⟩
    have HXA := Lib.hid hxa
    rw [hxa] at HFI
    clear hok hr ht hm hT' hfi h3 hx hxa
    go_enter Tryz.func9, Tryz.ntmps9
    go_upto_region 4 with (go_at_call 28; (with_reducible refine HFI.out.mono ?_); rintro e w1 ⟨rfl, b1⟩; have HB1 := Lib.hid b1; clear b1)
    have hX := Blk.new w1 [.slice xa (T.want t).length xc, .int .i64 (T.got t)] 64
    have hal := (Below.refl w1.heap.size w1).alloc (Nat.le_refl _) (.cells #[.slice xa (T.want t).length xc, .int .i64 (T.got t)] 64)
    have HB2 := Lib.hid (HB1.out.trans (hal.mono HB1.out.size))
    have x0 := hX.cell 0 rfl
    generalize w1.alloc (.cells #[.slice xa (T.want t).length xc, .int .i64 (T.got t)] 64) = w2 at *
    clear hX hal
    go_wp2
    clear x0
    go_loopw [20] (fun iv wr => ∃ (k : Nat) (Gf2 : Int → Nat → Prop) (F2 : Nat → Prop), k ≤ (T.want t).length ∧ iv = .int .i64 k ∧ TbR b ml mc pt Gf2 cl F2 wr (T.lvw t k) ∧ Mv F F2 w wr) (fun iv _ => (T.want t).length - (intOf iv).toNat)
    case atStart => exact ⟨0, Gf, F, by omega, rfl, by rw [lvw_zero]; exact H.out.kept HB2.out, Mv.of_below HB2.out⟩
    case round =>
      obtain ⟨k, Gf2, F2, hk, rfl, htb, hmv⟩ := hrel
      have HTB := Lib.hid htb
      have HMV := Lib.hid hmv
      have hli : IntsAt wr (.slice xa (T.want t).length xc) (T.want t) := by
        have := (htb.ch t HM.out).2.2
        rw [HX.out] at this
        dsimp only [Cl.v] at this
        rw [HXA.out] at this
        exact this
      by_cases hlt : k < (T.want t).length
      · obtain ⟨gb, o, cc, e, _, _, p0⟩ := hli.spot k hlt
        cases e
        have HLT := Lib.hid hlt
        have hnx := lvw_next T t HND.out k hlt
        obtain ⟨hid, h64⟩ := HIDS.out _ (List.getElem_mem hlt)
        generalize (T.want t)[k] = id at *
        have hlv := lkLeave_any t (htb.lk id hid) HIN.out
        simp only at hlv
        have HLV := Lib.hid hlv
        have HID := Lib.hid hid
        have HNX := Lib.hid hnx
        have c0 := htb.blk.cell 0 rfl
        have hlk := MapL.look1 htb.lm h64
        rw [lkG_at (T := T.lvw t k) pt hid] at hlk
        have k2 : (0 : Int) ≤ (k : Int) := by omega
        have k3 : (k : Int) < ((T.want t).length : Int) := by omega
        have k4 : (k : Int) ≤ 32 := by have := HWL.out; omega
        clear htb hmv hli hlt hnx hid h64 hlv hk
        go_wp2_with (go_at_call 29; (with_reducible refine HLV.out.mono ?_); rintro e w3 ⟨rfl, G', g1, g2⟩; have G1 := Lib.hid g1; have G2 := Lib.hid g2; clear g1 g2)
        obtain ⟨r1, r2⟩ := HTB.out.lock HID.out G1.out G2.out
        have R1 := Lib.hid r1
        have R2 := Lib.hid r2
        clear r1 r2 hlk c0
        go_roundw
        case rel => exact ⟨k + 1, _, _, by have := HLT.out; omega, by go_num, by rw [HNX.out]; exact R1.out, HMV.out.trans R2.out⟩
        case measure => have := HLT.out; simp [intOf] <;> omega
      · have hke : k = (T.want t).length := by omega
        subst hke
        have g2 : ¬ ((T.want t).length : Int) < ((T.want t).length : Int) := by omega
        have c0 := htb.blk.cell 1 rfl
        have HCM := Lib.hid htb.cm
        clear htb hmv hli hlt hk
        go_wp2_with (at_delete; refine wpList_delG (E := EC) rfl _ _ _ rfl Tryz.underlying3 Tryz.underlying58 rfl HCM.out t HIN.out rfl ?_; intro w4 hm4 hg4; have HM4 := Lib.hid hm4; have HG4 := Lib.hid hg4; clear hm4 hg4)
        go_ret
        have hm4 : MapC w4 mc (if (clG (T.lvw t (T.want t).length) cl t).isSome = true then T.toks.length - 1 else T.toks.length) (updG (clG (T.lvw t (T.want t).length) cl) t none) := HM4.out
        have hsome : (clG (T.lvw t (T.want t).length) cl t).isSome = true := (clG_at (T := T.lvw t (T.want t).length) cl HM.out).2
        rw [hsome, if_pos rfl] at hm4
        have hTe : T' = { T.lvw t (T.want t).length with toks := T.toks.filter (fun x => decide (x ≠ t)), hd := fun id => (leaveL (T.hd id) (T.wt id) t).1, wt := fun id => (leaveL (T.hd id) (T.wt id) t).2.1 } := by
          rw [← HT'.out]
          unfold Tb.leave
          rw [if_pos HM.out]
          rfl
        have hlen : (T.toks.filter (fun x => decide (x ≠ t))).length = T.toks.length - 1 := by
          have h1 := filter_in_len T.toks [t] (ris_nodup HOK.out.ris) (by simp) (fun x hx => by rw [List.mem_singleton.1 hx]; exact HM.out)
          have h2 := filter_both (fun x => inL [t] x) T.toks
          have h3 : (T.toks.filter fun x => !inL [t] x) = T.toks.filter (fun x => decide (x ≠ t)) := List.filter_congr fun x _ => by simp [inL]
          rw [h1, h3] at h2
          simp at h2 ⊢
          omega
        have hdr := HTB.out.drop (t := t) (T' := { T.lvw t (T.want t).length with toks := T.toks.filter (fun x => decide (x ≠ t)) }) rfl rfl rfl rfl rfl rfl HG4.out (by show MapC w4 mc (T.toks.filter (fun x => decide (x ≠ t))).length _; rw [hlen]; exact hm4)
        have hok9 := leave_ok HOK.out t
        rw [HT'.out] at hok9
        refine ⟨rfl, F2, ⟨hok9, b, ml, mc, pt, Gf2, cl, rfl, ?_⟩, HMV.out.trans ⟨Only.grown HG4.out fun j hj => by rw [← Option.some.inj hj]; exact HTB.out.fc, fun j hj => .inl hj⟩⟩
        rw [hTe]
        exact hdr.congr _ _ fun id hi => lvw_end HOK.out HM.out hi
  · rw [decide_eq_false hm]
    rw [(clG_no cl hm).1, (clG_no cl hm).2] at hfi
    have HFI := Lib.hid (show Calls Tryz.prog 28 #[ptr18 b, .int .i64 t] w fun e w' => e = .returned (.tuple #[.agg #[.slice none 0 0, .int .i64 0], .bool false]) ∧ Below w.heap.size w w' from hfi)
    have HTT := Lib.hid (show T = T' by rw [← hT']; unfold Tb.leave; rw [if_neg hm])
    clear hok hr ht hm hT' hfi
    go_enter Tryz.func9, Tryz.ntmps9
    go_wp2_with (go_at_call 28; (with_reducible refine HFI.out.mono ?_); rintro e w1 ⟨rfl, b1⟩; have HB1 := Lib.hid b1; clear b1)
    go_ret
    have hb := HB1.out.alloc HB1.out.size (.cells #[.slice none 0 0, .int .i64 0] 64)
    exact ⟨rfl, F, by rw [← HTT.out]; exact ⟨HOK.out, b, ml, mc, pt, Gf, cl, rfl, H.out.kept hb⟩, Mv.of_below hb⟩
end Go.Proofs.YtjmgokjljmmmgaaGreat
