/- Texts of this proof, joined: DgC; DgD; DgE; DgF. -/
import Derived.Test.YthchkhgimnchcaaBun20
import Derived.Deep.CutBlock
/- Stage 24's program: drop, by goto: what is to do as a list of one's own that loses its first; what is dropped. -/
namespace Go.Proofs.Ythchkhgimnchcaa
open Go.RowKit

/-- a list of one's own without its first number, as the model cuts it -/
theorem from24 (a : Option Addr) (n c : Nat) (hk : 1 ≤ n) (hn : n ≤ c) : ∃ a4 c4, (∀ w', (Instr.sliceAt 31 (.slice a n c) (some (.int .i64 1)) none none).run Try.prog w' = .ok (.slice a4 (n - 1) c4) w') ∧
    (∀ (w' : World) (l : List Int), l.length = n → OwnO w' 1 csI (.slice a n c) l → OwnO w' 1 csI (.slice a4 (n - 1) c4) (l.drop 1)) ∧ ∀ k, (Value.slice a4 (n - 1) c4).ownBlock = some k → (Value.slice a n c).ownBlock = some k := by
  have h1 : (1 : Int) ≤ (n : Int) := by omega
  by_cases hck : c = 1
  · have hc0 : n = 1 := by omega
    refine ⟨a, 0, fun w' => ?_, fun w' l hl h => ?_, fun k h => by cases a <;> simp [Value.ownBlock] at h ⊢; exact h⟩
    · simp [go_sem, hck, hc0, sliced]
    · have := OwnO.drop h 1 (by omega) csI_len a (fun h => by omega) (fun _ => rfl)
      rwa [hck, Nat.sub_self] at this
  · refine ⟨a.map (fun x => x.add 1), c - 1, fun w' => ?_, fun w' l hl h => ?_, fun k h => ?_⟩
    · simp [go_sem, sliced, h1]
      exact fun h => absurd h hck
    · exact OwnO.drop h 1 (by omega) csI_len _ (fun _ g o e => by subst e; simp [Addr.add]) (fun h => by omega)
    · cases a with
      | none => simp [Value.ownBlock] at h
      | some a => simpa [Value.ownBlock, Addr.add] using h
theorem OwnO.cap {α : Type} {w : World} {K : Nat} {cs : α → List Value} {a : Option Addr} {n c : Nat} {l : List α} (h : OwnO w K cs (.slice a n c) l) : l.length ≤ c := by
  rcases h with ⟨e, rfl⟩ | ⟨g, o, c', e, _, hl, _⟩
  · simp
  · cases e
    exact hl
theorem FpT_sets (p mb : Nat) (T : List Tk) (ids : List Int) (s : Int) (Fm : Int → Nat → Prop) : FpT p mb (setsT T ids s) Fm = FpT p mb T Fm := by
  unfold FpT
  rw [setsT_ids]

theorem setsT_congr (T : List Tk) {ids ids' : List Int} (s : Int) (h : ∀ x, x ∈ ids ↔ x ∈ ids') : setsT T ids s = setsT T ids' s := by
  unfold setsT
  refine List.map_congr_left fun t _ => ?_
  have : inL ids t.sp.id = inL ids' t.sp.id := by rw [Bool.eq_iff_iff, inL_iff, inL_iff]; exact h _
  rw [this]
/-- what a drop has at hand: the store with some dropped, what is to do, what is told -/
structure DrW (w0 w : World) (p mb : Nat) (room : Int) (T1 : List Tk) (nx : Int → List Int) (g : Int → Option Nat) (Fm : Int → Nat → Prop) (S : List Int) (tv dv : Value) (todo D : List Int) : Prop where
  R : DagR w p mb room (setsT T1 S 6) nx g Fm
  td : OwnO w 1 csI tv todo
  dd : OwnI w w0.heap.size dv D
  tb : ∀ k, tv.ownBlock = some k → w0.heap.size ≤ k
  ne : ∀ k, tv.ownBlock = some k → dv.ownBlock ≠ some k
  o : Only (FpT p mb T1 Fm) w0 w
  lt : ∀ k, FpT p mb T1 Fm k → k < w0.heap.size
section
variable {w0 w w' : World} {p mb : Nat} {room : Int} {T1 : List Tk} {nx : Int → List Int} {g : Int → Option Nat} {Fm : Int → Nat → Prop} {S todo D todo' D' : List Int} {tv dv tv' dv' : Value}
theorem DrW.kept (h : DrW w0 w p mb room T1 nx g Fm S tv dv todo D) (hb : Below w.heap.size w w') : DrW w0 w' p mb room T1 nx g Fm S tv dv todo D :=
  ⟨h.R.kept hb, h.td.kept hb, OwnR.kept h.dd hb, h.tb, h.ne, h.o.trans ((Only.of_below hb).mono fun _ h => h), h.lt⟩
theorem DrW.mark (h : DrW w0 w p mb room T1 nx g Fm S tv dv todo D) {x : Int} {b : Nat} (hx : x ∈ idsK T1) (hg : g x = some b) : DrW w0 (w.setCell ⟨b, 9, none⟩ (.int .i64 6)) p mb room T1 nx g Fm (S ++ [x]) tv dv todo D := by
  have hx2 : x ∈ idsK (setsT T1 S 6) := by rw [setsT_ids]; exact hx
  have hb : FpT p mb T1 Fm b := by
    obtain ⟨t, ht, b', a, c, vn, e, h1, h2⟩ := h.R.at hx2
    rw [hg] at h1
    injection h1 with h1
    rw [h1]
    exact .inr (.inr ⟨x, hx, h2.fb⟩)
  have hbl := h.lt b hb
  have h1 := h.R.setSt hx2 hg 6
  rw [setsT_snoc] at h1
  exact ⟨h1, h.td.away _ _ (fun k hk e => by have := h.tb k hk; have e2 : k = b := e; omega), OwnR.away h.dd _ _ (fun e => by have := (World.ownsRow.lt h.dd _ e).1; have : w0.heap.size ≤ b := this; omega), h.tb, h.ne, h.o.set _ _ hb, h.lt⟩
theorem DrW.tell (h : DrW w0 w p mb room T1 nx g Fm S tv dv todo D) (ho : OwnI w' w0.heap.size dv' D') (hq : Only (fun k => dv.ownBlock = some k) w w') (hv : ∀ k, dv'.ownBlock = some k → dv.ownBlock = some k ∨ w.heap.size ≤ k) : DrW w0 w' p mb room T1 nx g Fm S tv dv' todo D' := by
  have hz := h.o.size
  refine ⟨h.R.only hq (fun k hk hf => ?_), h.td.same hq.size (fun k hk => hq.block k (h.td.lt k hk) (h.ne k hk)), ho, h.tb, fun k hk e => ?_, ⟨hq.os.trans h.o.os, hq.tape.trans h.o.tape, hq.output.trans h.o.output, Nat.le_trans hz hq.size, fun k hk hf => ?_⟩, h.lt⟩
  · rw [FpT_sets] at hf
    have := (World.ownsRow.lt h.dd k hk).1
    have := h.lt k hf
    omega
  · rcases hv k e with h1 | h1
    · exact h.ne k hk h1
    · have := h.td.lt k hk
      omega
  · exact (hq.block k (by omega) fun e => by have := (World.ownsRow.lt h.dd k e).1; omega).trans (h.o.block k hk hf)
theorem DrW.more (h : DrW w0 w p mb room T1 nx g Fm S tv dv todo D) (ho : OwnO w' 1 csI tv' todo') (hg : w.grownBy w' tv.ownBlock) (hv : tv'.ownBlock = tv.ownBlock ∨ tv'.ownBlock = some w.heap.size) : DrW w0 w' p mb room T1 nx g Fm S tv' dv todo' D := by
  have hz := h.o.size
  have hq : Only (fun k => tv.ownBlock = some k) w w' := Only.grown hg fun k e => e
  refine ⟨h.R.only hq (fun k hk hf => ?_), ho, OwnR.only23 h.dd hq (fun k hk e => h.ne k e hk), fun k hk => ?_, fun k hk e => ?_, ⟨hq.os.trans h.o.os, hq.tape.trans h.o.tape, hq.output.trans h.o.output, Nat.le_trans hz hq.size, fun k hk hf => ?_⟩, h.lt⟩
  · rw [FpT_sets] at hf
    have := h.tb k hk
    have := h.lt k hf
    omega
  · rcases hv with e | e
    · exact h.tb k (e ▸ hk)
    · rw [hk] at e
      injection e with e
      omega
  · rcases hv with e2 | e2
    · exact h.ne k (e2 ▸ hk) e
    · rw [hk] at e2
      injection e2 with e2
      have := (World.ownsRow.lt h.dd k e).2
      omega
  · exact (hq.block k (by omega) fun e => by have := h.tb k e; omega).trans (h.o.block k hk hf)
theorem DrW.less (h : DrW w0 w p mb room T1 nx g Fm S tv dv todo D) (ho : OwnO w 1 csI tv' todo') (hv : ∀ k, tv'.ownBlock = some k → tv.ownBlock = some k) : DrW w0 w p mb room T1 nx g Fm S tv' dv todo' D :=
  ⟨h.R, ho, h.dd, fun k hk => h.tb k (hv k hk), fun k hk => h.ne k (hv k hk), h.o, h.lt⟩
end

set_option maxHeartbeats 16000000 in
set_option maxRecDepth 100000 in
theorem dDrop_any {p mb : Nat} {room : Int} {T1 : List Tk} {nx : Int → List Int} {g : Int → Option Nat} {Fm : Int → Nat → Prop} (w : World) (hR : DagR w p mb room T1 nx g Fm) (hnx : ∀ n x, x ∈ nx n ↔ Ed T1 n x) (hnd : (idsK T1).Nodup) (h64 : ∀ n ∈ idsK T1, I64 n) (hl : T1.length ≤ 64) (hn64 : ∀ n, (nx n).length ≤ 64)
    (vi : Value) (I : List Int) (hi : IntsAt w vi I) (hil : I.length ≤ 64) (hI : ∀ x ∈ I, x ∈ idsK T1) (H : ∀ x y, x ∈ reachL (idsK T1) (arcsT T1) I → live T1 x = false → Ed T1 x y → y ∈ I ∨ live T1 y = false) :
    Calls Try.prog 29 #[ndv p, vi] w fun e w' => ∃ v, e = .returned v ∧ IntsAt w' v (goneT T1 (reachL (idsK T1) (arcsT T1) I)) ∧ (∀ k, v.ownBlock = some k → w.heap.size ≤ k) ∧
      DagR w' p mb room (setsT T1 (goneT T1 (reachL (idsK T1) (arcsT T1) I)) 6) nx g Fm ∧ Only (FpT p mb T1 Fm) w w' := by
  have GC := Lib.hid (cloneI_any vi I w hi (by omega))
  obtain ⟨ai, ci, rfl⟩ := hi.form
  obtain ⟨i0, hi0, hz0, hz1, hz2⟩ := info_parts info_int
  have HR0 := Lib.hid hR
  have HNX := Lib.hid hnx
  have HND := Lib.hid hnd
  have H64 := Lib.hid h64
  have HL := Lib.hid hl
  have HN64 := Lib.hid hn64
  have HH := Lib.hid H
  have HI := Lib.hid hI
  have HIL := Lib.hid hil
  have HLT := Lib.hid hR.lt
  obtain ⟨G, hG⟩ : ∃ G, goneT T1 (reachL (idsK T1) (arcsT T1) I) = G := ⟨_, rfl⟩
  rw [hG]
  have HGE := Lib.hid hG
  clear hR hnx hnd h64 hl hn64 hi hil hI H hG
  go_enter Try.func29, Try.ntmps29
  go_wp2
  refine wp_scope_goto 0 (fun n a' w' => ∃ (todo D : List Int) (ta da : Option Addr) (tc dc : Nat) (m q : Nat), m = todo.length ∧ q = D.length ∧ n = 70 * (64 - q) + m ∧ DrI T1 nx I todo D ∧ m ≤ 64 * q + 64 ∧ DrW w w' p mb room T1 nx g Fm D (.slice ta m tc) (.slice da q dc) todo D ∧ ∃ u2 u3 u7 u8 u9 u10 u11 u12 u13 u14 u15 u16 u17 u18 u19 u20 u21 u22 u23 u24 u25 u26 u27 u28 u29 u30 u31 u32 u33 u34 u35 u36 u37 u38 u39 u40 u41 u42 u43 u44 u45 u46 u47, a' = { tmps := #[ndv p, .slice ai I.length ci, u2, u3, .slice none 0 0, .slice da q dc, .slice ta m tc, u7, u8, u9, u10, u11, u12, u13, u14, u15, u16, u17, u18, u19, u20, u21, u22, u23, u24, u25, u26, u27, u28, u29, u30, u31, u32, u33, u34, u35, u36, u37, u38, u39, u40, u41, u42, u43, u44, u45, u46, u47], defers := [] }) rfl rfl ?_ ?_
  · rintro n a' w' ⟨todo, D, ta, da, tc, dc, m, q, hm, hq, rfl, hdi, htl, hdw, u2, u3, u7, u8, u9, u10, u11, u12, u13, u14, u15, u16, u17, u18, u19, u20, u21, u22, u23, u24, u25, u26, u27, u28, u29, u30, u31, u32, u33, u34, u35, u36, u37, u38, u39, u40, u41, u42, u43, u44, u45, u46, u47, rfl⟩ K hK
    have HK := Lib.hid hK
    have HD := Lib.hid hdi
    have HW := Lib.hid hdw
    have HTL := Lib.hid (And.intro hm (And.intro hq htl))
    have hqb := hdi.bound
    have hq64 : q ≤ 64 := by have := HL.out; omega
    have m1 : (m : Int) ≤ 10000 := by omega
    have m0 : (0 : Int) ≤ (m : Int) := by omega
    clear hK htl
    cases todo with
    | nil =>
      have e0 : ((m : Int) == 0) = true := by rw [hm]; rfl
      have hfin := hdi.done HNX.out HH.out
      have GS := Lib.hid (sortI_any w' w.heap.size (.slice da q dc) D hdw.dd (by omega))
      have hfin2 := hfin.trans HGE.out
      have hset : setsT T1 G 6 = setsT T1 D 6 := setsT_congr T1 6 fun x => by rw [← hfin2, List.mem_mergeSort]
      have HF := Lib.hid hfin2
      have HSET := Lib.hid hset
      clear hdi hdw hqb hset hm hq hfin hfin2
      go_wp2_with (go_at_call 27; (with_reducible refine GS.out.mono ?_); rintro e w3 ⟨rfl, h3, o3, _⟩; have H3 := Lib.hid h3; have O3 := Lib.hid o3; clear h3 o3)
      simp only [Exit.jump]
      go_ret
      have hdb := fun k (hk : (Value.slice da q dc).ownBlock = some k) => World.ownsRow.lt HW.out.dd k hk
      have hR3 : DagR w3 p mb room (setsT T1 G 6) nx g Fm := by
        rw [HSET.out]
        refine HW.out.R.only O3.out (fun k hk hf => ?_)
        rw [FpT_sets] at hf
        have := (hdb k hk).1
        have := HW.out.lt k hf
        omega
      refine ⟨_, rfl, by rw [← HF.out]; exact H3.out, fun k hk => (hdb k hk).1, hR3, ⟨O3.out.os.trans HW.out.o.os, O3.out.tape.trans HW.out.o.tape, O3.out.output.trans HW.out.o.output, Nat.le_trans HW.out.o.size O3.out.size, fun k hk hf => ?_⟩⟩
      exact (O3.out.block k (Nat.lt_of_lt_of_le hk HW.out.o.size) fun e => by have := (hdb k e).1; omega).trans (HW.out.o.block k hk hf)
    | cons x rest =>
      rw [List.length_cons] at hm
      have hx := reach_sub (hdi.tin x List.mem_cons_self)
      have hx2 : x ∈ idsK (setsT T1 D 6) := by rw [setsT_ids]; exact hx
      obtain ⟨t, ht, b, a, c, vn, hid, hg, hN⟩ := hdw.R.at hx2
      have hst : sgT (setsT T1 D 6) x = t.st := by rw [← hid]; exact sg_at (by rw [setsT_ids]; exact HND.out) ht
      have hen := sets_ended (D := D) hx
      rw [hst] at hen
      obtain ⟨a4, c4, hsl, hrest, hob⟩ := from24 ta m tc (by omega) (by have := OwnO.cap hdw.td; rw [List.length_cons] at this; omega)
      obtain ⟨g0, o0, cc, e, -, -, q0⟩ := (RowsAt.ints (OwnO.rows csI_len hdw.td)).spot 0 (by simp)
      simp only [Value.slice.injEq] at e
      obtain ⟨rfl, -, rfl⟩ := e
      simp only [List.getElem_cons_zero, Nat.add_zero] at q0
      have HR4 := Lib.hid (And.intro hrest hob)
      have c1 := hdw.R.box.cell 1 rfl
      have c9 := hN.blk.cell 9 rfl
      have HLK := Lib.hid fun (w2 : World) (hb : Below w'.heap.size w' w2) => (show (Instr.lookup 53 (.map (some mb)) (.int .i64 x) false).run Try.prog w2 = .ok (ndv b) w2 from by
        have := (hdw.R.map.kept hb).look1 (H64.out x hx)
        rwa [hg] at this)
      have HC9 := Lib.hid fun (w2 : World) (hb : Below w'.heap.size w' w2) => dHas_any b t.st w2 ((hN.blk.kept hb).cell 9 rfl)
      have m2 : (1 : Int) ≤ (m : Int) := by omega
      have e0 : ((m : Int) == 0) = false := beq_noI (by omega)
      have HNB := Lib.hid fun (w2 : World) (hb : Below w'.heap.size w' w2) => (show Blk w2 b (csNd t.sp t.st a c vn) from hN.blk.kept hb)
      have HIDX := Lib.hid hid
      have HX := Lib.hid hx
      have HG := Lib.hid hg
      have HEN := Lib.hid hen
      have HMR := Lib.hid hm
      clear hdi hdw hqb hm hq hx hx2 ht hid hg hN hst hen hrest hob
      go_upto_region 6 with fail
      refine wp_region_calm0 (by kernel_rfl) (by kernel_rfl) fun M => ?_
      have f1 := fun n : In M.w => n.cell (M.cell c1)
      have f2 := fun n : In M.w => n.cell (M.cell q0)
      have f3 := fun n : In M.w => HLK.out n.w (M.h.trans (n.h.mono M.h.size))
      repeat (go_big_quiet_step (fail))
      refine wpQuiet_nil ?_
      clear f1 f2 f3 M
      intro w2 hb2
      have GH := Lib.hid (HC9.out _ hb2)
      have hNB := HNB.out _ hb2
      have d0 := hNB.cell 0 rfl
      have d9 := hNB.cell 9 rfl
      have f9 := hNB.free 9 rfl
      have HN2 := Lib.hid hNB
      rw [HIDX.out] at d0
      have HW2 := Lib.hid (HW.out.kept hb2)
      clear hb2 c1 q0 c9 HC9 HLK HW HNB hNB
      generalize t.st = s at *
      generalize endS s = β at *
      cases β with
      | true =>
        go_wp2_with (go_at_call 28; (with_reducible refine GH.out.mono ?_); rintro e w3 ⟨rfl, rfl⟩)
        go_step3
        exact ⟨rfl, HK.out (70 * (64 - q) + (m - 1)) _ _ (by omega) ⟨rest, D, a4, da, c4, dc, m - 1, q, by have := HMR.out; omega, HTL.out.2.1, rfl, HD.out.skip (HEN.out.1 trivial), by have := HTL.out.2.2; omega, HW2.out.less (HR4.out.1 _ _ HTL.out.1.symm HW2.out.td) HR4.out.2, _, _, _, _, _, _, _, _, _, _, _, _, _, _, _, _, _, _, _, _, _, _, _, _, _, _, _, _, _, _, _, _, _, _, _, _, _, _, _, _, _, _, _,  rfl⟩⟩
      | false =>
        have h1 : ¬ (x ∈ D ∨ live T1 x = false) := fun h => by have := HEN.out.2 h; cases this
        have HTK := Lib.hid (HD.out.take HNX.out (fun h => h1 (.inl h)) (by cases e : live T1 x with
          | true => rfl
          | false => exact absurd (.inr e) h1))
        have HWL := Lib.hid (HW2.out.less (todo' := rest) (HR4.out.1 _ _ HTL.out.1.symm HW2.out.td) HR4.out.2)
        clear h1 HW2
        go_upto_region 10 with (go_at_call 28; (with_reducible refine GH.out.mono ?_); rintro e w3 ⟨rfl, rfl⟩)
        have HW3 := Lib.hid (HWL.out.mark HX.out HG.out)
        have e0' := (HN2.out.set 9 (.int .i64 6)).cell 0 rfl
        rw [HIDX.out] at e0'
        clear d0 d9 f9 HWL HN2
        generalize w2.setCell ⟨b, 9, none⟩ (.int .i64 6) = w3 at *
        go_upto_region 11 with (at_builtin; refine appI23 x HW3.out.dd (HW3.out.o.size) (by have := HTL.out.2.1; omega) rfl _ _ rfl rfl rfl ?_; intro v6 w6 o6 b6 q6 n6; obtain ⟨a6, c6, e⟩ := (OwnI.ints o6).form; rw [List.length_append, List.length_singleton, ← HTL.out.2.1] at e; subst e; have HW6 := Lib.hid (HW3.out.tell o6 q6 n6); clear o6 b6 q6 n6 e0')
        obtain ⟨t3, ht3, b3, a3, c3, vn3, hid3, hg3, hN3⟩ := HW6.out.R.at (show x ∈ idsK (setsT T1 (D ++ [x]) 6) by rw [setsT_ids]; exact HX.out)
        rw [HG.out] at hg3
        injection hg3 with hg3
        subst hg3
        have d14 := hN3.blk.cell 14 rfl
        have HNL := Lib.hid (OwnI.ints hN3.nxt)
        have hnl := HN64.out x
        have HNLL := Lib.hid hnl
        clear ht3 hid3 hN3 HW3 hnl
        go_wp2_with (at_builtin; refine wpList_append_o rfl _ _ _ _ rfl csI_len (by decide) csI_one13 3 3 i0 (.int .i64 0) Try.underlying31 Try.underlying31 hi0 hz0 hz1 rfl rfl HW6.out.td _ (nx x) rfl (IntsAt.rows HNL.out) (by have := HNLL.out; have := HMR.out; unfold maxLen; omega) (by have := HNLL.out; have := HMR.out; rw [hz2]; omega) ?_; intro v7 w7 h1 h2 h3; obtain ⟨a7, c7, e⟩ := h1.form; rw [List.length_append] at e; obtain ⟨m7, hm7⟩ : ∃ m7, m7 = rest.length + (nx x).length := ⟨_, rfl⟩; rw [← hm7] at e; subst e; have HW7 := Lib.hid (HW6.out.more h1 h2 h3); have HM7 := Lib.hid hm7; clear h1 h2 h3 hm7 d14)
        go_step3
        have hbd := HTK.out.bound
        rw [List.length_append, List.length_singleton] at hbd
        exact ⟨rfl, HK.out (70 * (64 - (q + 1)) + m7) _ _ (by have := HTL.out; have := HNLL.out; have := HL.out; have := HMR.out; have := HM7.out; omega) ⟨rest ++ nx x, D ++ [x], a7, a6, c7, c6, m7, q + 1, by rw [List.length_append]; exact HM7.out, by rw [List.length_append, List.length_singleton, HTL.out.2.1], rfl, HTK.out, by have := HTL.out; have := HNLL.out; have := HMR.out; have := HM7.out; omega, HW7.out, _, _, _, _, _, _, _, _, _, _, _, _, _, _, _, _, _, _, _, _, _, _, _, _, _, _, _, _, _, _, _, _, _, _, _, _, _, _, _, _, _, _, _,  rfl⟩⟩
  · intro K hpass
    go_wp2_with (go_at_call 32; (with_reducible refine GC.out.mono ?_); rintro e w1 ⟨v1, rfl, ho, hb⟩; obtain ⟨a1, c1, e⟩ := (OwnI.ints ho).form; subst e; have HO := Lib.hid ho; have HB := Lib.hid hb; clear ho hb)
    go_step3
    rename_i hback
    refine hback _ _ (hpass (70 * (64 - 0) + I.length) _ _ ⟨I, [], a1, none, c1, 0, I.length, 0, rfl, rfl, rfl, DrI.start HI.out, by have := HIL.out; omega, ⟨?_, OwnR.own HO.out, OwnR.nil _ _ _ _ _, fun k hk => (World.ownsRow.lt HO.out k hk).1, fun k _ e => by simp [Value.ownBlock] at e, (Only.of_below HB.out).mono fun _ h => h, HLT.out⟩, _, _, _, _, _, _, _, _, _, _, _, _, _, _, _, _, _, _, _, _, _, _, _, _, _, _, _, _, _, _, _, _, _, _, _, _, _, _, _, _, _, _, _,  rfl⟩)
    rw [setsT_nil]
    exact HR0.out.kept HB.out
end Go.Proofs.Ythchkhgimnchcaa
/- Stage 24's program: Fail, Cancel, Done. -/
namespace Go.Proofs.Ythchkhgimnchcaa
open Go.RowKit

/-- what an end tells: the tasks, the IDs, the error -/
def endDg (T : List Tk) (id how : Int) : List Tk × List Int × Int :=
  if id ∈ idsK T then
    if (how < 3 ∧ sgT T id ≠ 2) ∨ endS (sgT T id) = true then (T, [], 12)
    else if how = 1 then ((doneDg T id).1, (doneDg T id).2, 0) else if how = 2 then ((failDg T id).1, (failDg T id).2, 0) else ((cancDg T id).1, (cancDg T id).2, 0)
  else (T, [], 7)
theorem endDg_no {T : List Tk} {id how : Int} (h : id ∉ idsK T) : endDg T id how = (T, [], 7) := if_neg h
theorem endDg_st {T : List Tk} {id how : Int} (h : id ∈ idsK T) (h2 : (how < 3 ∧ sgT T id ≠ 2) ∨ endS (sgT T id) = true) : endDg T id how = (T, [], 12) := by unfold endDg; rw [if_pos h, if_pos h2]
theorem endDg_1 {T : List Tk} {id : Int} (h : id ∈ idsK T) (h2 : sgT T id = 2) : endDg T id 1 = ((doneDg T id).1, (doneDg T id).2, 0) := by
  unfold endDg
  rw [if_pos h, if_neg (by rw [h2]; simp [endS]), if_pos rfl]
theorem endDg_2 {T : List Tk} {id : Int} (h : id ∈ idsK T) (h2 : sgT T id = 2) : endDg T id 2 = ((failDg T id).1, (failDg T id).2, 0) := by
  unfold endDg
  rw [if_pos h, if_neg (by rw [h2]; simp [endS]), if_neg (by omega), if_pos rfl]
theorem endDg_3 {T : List Tk} {id : Int} (h : id ∈ idsK T) (h2 : endS (sgT T id) = false) : endDg T id 3 = ((cancDg T id).1, (cancDg T id).2, 0) := by
  unfold endDg
  rw [if_pos h, if_neg (by rw [h2]; simp), if_neg (by omega), if_neg (by omega)]
section
variable {F : Nat → Prop} {p mb : Nat} {room : Int} {T : List Tk} {nx : Int → List Int} {g : Int → Option Nat} {Fm : Int → Nat → Prop}
/-- what an end hands back -/
def EndsDg (F : Nat → Prop) (w : World) (p mb : Nat) (room : Int) (nx : Int → List Int) (g : Int → Option Nat) (Fm : Int → Nat → Prop) (r : List Tk × List Int × Int) (e : Ending) (w' : World) : Prop :=
  ∃ v, e = .returned (.tuple #[v, .int .i64 r.2.2]) ∧ IntsAt w' v r.2.1 ∧ (∀ k, v.ownBlock = some k → w.heap.size ≤ k) ∧ DagP F w' p mb room r.1 nx g Fm ∧ Only F w w'
theorem EndsDg.not {w : World} (h : DagP F w p mb room T nx g Fm) (c : Int) : EndsDg F w p mb room nx g Fm (T, [], c) (.returned (.tuple #[.slice none 0 0, .int .i64 c])) w :=
  ⟨_, rfl, IntsAt.nil w, fun k hk => by simp [Value.ownBlock] at hk, h, Only.refl _ _⟩

set_option maxHeartbeats 4000000 in
set_option maxRecDepth 100000 in
theorem dFail_any (w : World) (h : DagP F w p mb room T nx g Fm) (id : Int) (hi : I64 id) :
    Calls Try.prog 19 #[ndv p, .int .i64 id] w (EndsDg F w p mb room nx g Fm (endDg T id 2)) := by
  have GF0 := dFind_any w h id hi
  by_cases hn : id ∈ idsK T
  · obtain ⟨t, ht, b, a, c, vn, hid, hg, hN⟩ := h.R.at hn
    have hst : sgT T id = t.st := by rw [← hid]; exact sg_at h.wf.nodup ht
    have c9 := hN.blk.cell 9 rfl
    have f9 := hN.blk.free 9 rfl
    rw [hg] at GF0
    dsimp only [pv, Option.map] at GF0
    have GF := Lib.hid GF0
    have GM := Lib.hid (dMay_any b t.st w c9)
    by_cases h2 : t.st = 2
    · rw [endDg_2 hn (hst.trans h2)]
      rw [if_pos h2] at GM
      have h2' := hst.trans h2
      have hR1 := h.R.setSt hn hg 5
      have hN1 : NxOk (setsT T [id] 5) nx := h.N.sets _ _
      have hT1 := h.wf.weak.re (setsT_sp T [id] 5)
      have hI := h.N.1 id
      have hnx64 := h.nx64
      have hlen : (setsT T [id] 5).length ≤ 64 := by rw [setsT_len]; have := h.fit; have := h.room64; omega
      have hb : F b := (h.fp b).2 (.inr (.inr ⟨id, hn, hN.fb⟩))
      have hN5 := hN.setSt 5
      have d14 := hN5.blk.cell 14 rfl
      have GD := dDrop_any _ hR1 hN1.1 hT1.nodup hT1.id64 hlen hnx64 vn (nx id) (OwnI.ints hN5.nxt) (hnx64 id) (fun x hx => by rw [setsT_ids]; exact Ed_ids ((hI x).1 hx)) (h.wf.failH h2' hI)
      have hsame := fail_same (T := T) (id := id) hI
      have hw5 := h.wf.fail h2'
      have hsp5 : (failDg T id).1.map Tk.sp = T.map Tk.sp := (setsT_sp (setsT T [id] 5) _ 6).trans (setsT_sp T [id] 5)
      have hp5 : Pl (failDg T id).1 := (h.pl.sets [id] 5).sets _ 6
      rw [hsame] at GD
      have e1 : (setsT (setsT T [id] 5) (goneT (setsT T [id] 5) (behindT T id)) 6) = (failDg T id).1 := rfl
      have e2 : goneT (setsT T [id] 5) (behindT T id) = (failDg T id).2 := rfl
      rw [e1, e2, FpT_sets] at GD
      generalize (failDg T id).1 = T5 at *
      generalize (failDg T id).2 = G5 at *
      have HD := Lib.hid GD
      have HFp := Lib.hid h.fp
      have HO := Lib.hid ((Only.refl F w).set ⟨b, 9, none⟩ (.int .i64 5) hb)
      have HRe := Lib.hid fun w' (hR : DagR w' p mb room T5 nx g Fm) => h.re hR hsp5 hw5 hp5
      have HSZ := Lib.hid (show (w.setCell ⟨b, 9, none⟩ (.int .i64 5)).heap.size = w.heap.size from size_set _ _ _)
      rw [h2] at c9
      clear h GF0 hn ht hid hg hN hst h2 h2' hR1 hN1 hT1 hI hnx64 hlen hb hN5 GD hsame hw5 hsp5 hp5 e1 e2 hi
      go_enter Try.func19, Try.ntmps19
      go_wp2_with (first
        | (go_at_call 23; (with_reducible refine GF.out.mono ?_); rintro e w1 ⟨rfl, rfl⟩)
        | (go_at_call 26; (with_reducible refine GM.out.mono ?_); rintro e w1 ⟨rfl, rfl⟩)
        | (go_at_call 29; (with_reducible refine HD.out.mono ?_); rintro e w1 ⟨v, rfl, q1, q2, q3, q4⟩; have Q1 := Lib.hid q1; have Q2 := Lib.hid q2; have Q3 := Lib.hid q3; have Q4 := Lib.hid q4; clear q1 q2 q3 q4))
      refine bodyPost_ret (v := .tuple #[v, .int .i64 0]) (by simp [results, Try.results19, go_sem]) rfl ⟨_, rfl, Q1.out, fun k hk => ?_, HRe.out _ Q3.out, HO.out.trans (Q4.out.mono fun k hk => (HFp.out k).2 hk)⟩
      have := Q2.out k hk
      rwa [HSZ.out] at this
    · rw [endDg_st hn (.inl ⟨by omega, by rw [hst]; exact h2⟩)]
      rw [if_neg h2] at GM
      have HE := Lib.hid (EndsDg.not h 12)
      clear h GF0 hn ht hid hg hN hst c9 f9 h2 hi
      go_enter Try.func19, Try.ntmps19
      go_wp2_with (first
        | (go_at_call 23; (with_reducible refine GF.out.mono ?_); rintro e w1 ⟨rfl, rfl⟩)
        | (go_at_call 26; (with_reducible refine GM.out.mono ?_); rintro e w1 ⟨rfl, rfl⟩))
      exact bodyPost_ret (v := .tuple #[.slice none 0 0, .int .i64 12]) (by simp [results, Try.results19, go_sem]) rfl HE.out
  · rw [endDg_no hn]
    rw [h.R.no hn] at GF0
    dsimp only [pv, Option.map] at GF0
    have GF := Lib.hid GF0
    have GM := Lib.hid (dMay_nil w)
    have HE := Lib.hid (EndsDg.not h 7)
    clear h GF0 hn hi
    go_enter Try.func19, Try.ntmps19
    go_wp2_with (first
      | (go_at_call 23; (with_reducible refine GF.out.mono ?_); rintro e w1 ⟨rfl, rfl⟩)
      | (go_at_call 26; (with_reducible refine GM.out.mono ?_); rintro e w1 ⟨rfl, rfl⟩))
    exact bodyPost_ret (v := .tuple #[.slice none 0 0, .int .i64 7]) (by simp [results, Try.results19, go_sem]) rfl HE.out
set_option maxHeartbeats 4000000 in
set_option maxRecDepth 100000 in
theorem dCancel_any (w : World) (h : DagP F w p mb room T nx g Fm) (id : Int) (hi : I64 id) :
    Calls Try.prog 17 #[ndv p, .int .i64 id] w (EndsDg F w p mb room nx g Fm (endDg T id 3)) := by
  have GF0 := dFind_any w h id hi
  by_cases hn : id ∈ idsK T
  · obtain ⟨t, ht, b, a, c, vn, hid, hg, hN⟩ := h.R.at hn
    have hst : sgT T id = t.st := by rw [← hid]; exact sg_at h.wf.nodup ht
    have c9 := hN.blk.cell 9 rfl
    rw [hg] at GF0
    dsimp only [pv, Option.map] at GF0
    have GF := Lib.hid GF0
    have GM0 := dHas_any b t.st w c9
    by_cases h2 : endS t.st = true
    · rw [endDg_st hn (.inr (by rw [hst]; exact h2))]
      rw [h2] at GM0
      have GM := Lib.hid GM0
      have HE := Lib.hid (EndsDg.not h 12)
      clear h GF0 GM0 hn ht hid hg hN hst c9 h2 hi
      go_enter Try.func17, Try.ntmps17
      go_wp2_with (first
        | (go_at_call 23; (with_reducible refine GF.out.mono ?_); rintro e w1 ⟨rfl, rfl⟩)
        | (go_at_call 28; (with_reducible refine GM.out.mono ?_); rintro e w1 ⟨rfl, rfl⟩))
      exact bodyPost_ret (v := .tuple #[.slice none 0 0, .int .i64 12]) (by simp [results, Try.results17, go_sem]) rfl HE.out
    · have h2 : endS t.st = false := by simpa using h2
      have h2' : endS (sgT T id) = false := by rw [hst]; exact h2
      rw [endDg_3 hn h2']
      rw [h2] at GM0
      have GM := Lib.hid GM0
      have hT1 := h.wf.weak
      have hnx64 := h.nx64
      have hlen : T.length ≤ 64 := by have := h.fit; have := h.room64; omega
      have hal := (Below.refl w.heap.size w).alloc (Nat.le_refl _) (.cells #[.int .i64 id] 3)
      have GD := dDrop_any (w.alloc (.cells #[.int .i64 id] 3)) (h.R.kept hal) h.N.1 hT1.nodup hT1.id64 hlen hnx64 (.slice (some ⟨w.heap.size, 0, none⟩) 1 1) [id] (RowsAt.ints (oneI13 w id)) (by simp) (fun x hx => by rw [List.mem_singleton.1 hx]; exact hn) (h.wf.cancH h2')
      have hw5 := h.wf.cancel (id := id)
      have hsp5 : (cancDg T id).1.map Tk.sp = T.map Tk.sp := setsT_sp T _ 6
      have hp5 : Pl (cancDg T id).1 := h.pl.sets _ 6
      rw [canc_same hn] at GD
      have e1 : setsT T (goneT T (setL (id :: behindT T id))) 6 = (cancDg T id).1 := rfl
      have e2 : goneT T (setL (id :: behindT T id)) = (cancDg T id).2 := rfl
      rw [e1, e2] at GD
      generalize (cancDg T id).1 = T5 at *
      generalize (cancDg T id).2 = G5 at *
      have HD := Lib.hid GD
      have HFp := Lib.hid h.fp
      have HO := Lib.hid ((Only.of_below hal).mono fun _ h => h : Only F w (w.alloc (.cells #[.int .i64 id] 3)))
      have HRe := Lib.hid fun w' (hR : DagR w' p mb room T5 nx g Fm) => h.re hR hsp5 hw5 hp5
      have HSZ := Lib.hid hal.size
      clear h GF0 GM0 hn ht hid hg hN hst h2 h2' hT1 hnx64 hlen GD hw5 hsp5 hp5 e1 e2 hi hal c9
      go_enter Try.func17, Try.ntmps17
      go_wp2_with (first
        | (go_at_call 23; (with_reducible refine GF.out.mono ?_); rintro e w1 ⟨rfl, rfl⟩)
        | (go_at_call 28; (with_reducible refine GM.out.mono ?_); rintro e w1 ⟨rfl, rfl⟩)
        | (go_at_call 29; (with_reducible refine HD.out.mono ?_); rintro e w1 ⟨v, rfl, q1, q2, q3, q4⟩; have Q1 := Lib.hid q1; have Q2 := Lib.hid q2; have Q3 := Lib.hid q3; have Q4 := Lib.hid q4; clear q1 q2 q3 q4))
      exact bodyPost_ret (v := .tuple #[v, .int .i64 0]) (by simp [results, Try.results17, go_sem]) rfl ⟨_, rfl, Q1.out, fun k hk => Nat.le_trans HSZ.out (Q2.out k hk), HRe.out _ Q3.out, HO.out.trans (Q4.out.mono fun k hk => (HFp.out k).2 hk)⟩
  · rw [endDg_no hn]
    rw [h.R.no hn] at GF0
    dsimp only [pv, Option.map] at GF0
    have GF := Lib.hid GF0
    have HE := Lib.hid (EndsDg.not h 7)
    clear h GF0 hn hi
    go_enter Try.func17, Try.ntmps17
    go_wp2_with (go_at_call 23; (with_reducible refine GF.out.mono ?_); rintro e w1 ⟨rfl, rfl⟩)
    exact bodyPost_ret (v := .tuple #[.slice none 0 0, .int .i64 7]) (by simp [results, Try.results17, go_sem]) rfl HE.out
end
end Go.Proofs.Ythchkhgimnchcaa
/- Stage 24's program: Done. -/
namespace Go.Proofs.Ythchkhgimnchcaa
open Go.RowKit

/-- what Done has at hand behind k of those that come right after: the store, the node's list, what is ready -/
structure DnW (w0 w : World) (p mb : Nat) (room : Int) (T1 : List Tk) (nx : Int → List Int) (g : Int → Option Nat) (Fm : Int → Nat → Prop) (id : Int) (b : Nat) (x : Sp) (a : Option Addr) (c : Nat) (vn rv : Value) (nl Z : List Int) : Prop where
  R : DagR w p mb room (setsT T1 Z 2) nx g Fm
  nd : NdP w b x 4 nl (Fm id) a c vn
  rd : OwnI w w0.heap.size rv Z
  o : Only (FpT p mb T1 Fm) w0 w
  lt : ∀ k, FpT p mb T1 Fm k → k < w0.heap.size
  hid : id ∈ idsK T1
section
variable {w0 w w' : World} {p mb : Nat} {room : Int} {T1 : List Tk} {nx : Int → List Int} {g : Int → Option Nat} {Fm : Int → Nat → Prop} {id : Int} {b : Nat} {x : Sp} {a : Option Addr} {c : Nat} {vn rv rv' : Value} {nl Z Z' : List Int}
theorem DnW.kept (h : DnW w0 w p mb room T1 nx g Fm id b x a c vn rv nl Z) (hb : Below w.heap.size w w') : DnW w0 w' p mb room T1 nx g Fm id b x a c vn rv nl Z :=
  ⟨h.R.kept hb, h.nd.same hb.size fun k hk => hb.block k (h.nd.lt k hk), OwnR.kept h.rd hb, h.o.trans ((Only.of_below hb).mono fun _ h => h), h.lt, h.hid⟩
/-- a status more, then its ID told -/
theorem DnW.free (h : DnW w0 w p mb room T1 nx g Fm id b x a c vn rv nl Z) {y : Int} {b2 : Nat} (hy : y ∈ idsK T1) (hne : y ≠ id) (hg : g y = some b2) :
    DagR (w.setCell ⟨b2, 9, none⟩ (.int .i64 2)) p mb room (setsT T1 (Z ++ [y]) 2) nx g Fm ∧ NdP (w.setCell ⟨b2, 9, none⟩ (.int .i64 2)) b x 4 nl (Fm id) a c vn ∧ OwnI (w.setCell ⟨b2, 9, none⟩ (.int .i64 2)) w0.heap.size rv Z ∧ Only (FpT p mb T1 Fm) w0 (w.setCell ⟨b2, 9, none⟩ (.int .i64 2)) := by
  have hy2 : y ∈ idsK (setsT T1 Z 2) := by rw [setsT_ids]; exact hy
  have hb2 : Fm y b2 := by
    obtain ⟨t, ht, b', a, c, vn, e, h1, h2⟩ := h.R.at hy2
    rw [hg] at h1
    injection h1 with h1
    rw [h1]
    exact h2.fb
  have hF : FpT p mb T1 Fm b2 := .inr (.inr ⟨y, hy, hb2⟩)
  have h1 := h.R.setSt hy2 hg 2
  rw [setsT_snoc] at h1
  refine ⟨h1, h.nd.away _ _ fun hf => hne ?_, OwnR.away h.rd _ _ (fun e => by have h6 : w0.heap.size ≤ b2 := (World.ownsRow.lt h.rd b2 e).1; have h5 := h.lt _ hF; omega), h.o.set _ _ hF⟩
  exact h.R.apart y id b2 hy2 (by rw [setsT_ids]; exact h.hid) hb2 hf
theorem DnW.tell (hR : DagR w p mb room (setsT T1 Z' 2) nx g Fm) (hN : NdP w b x 4 nl (Fm id) a c vn) (hr : OwnI w w0.heap.size rv Z) (ho : Only (FpT p mb T1 Fm) w0 w) (hlt : ∀ k, FpT p mb T1 Fm k → k < w0.heap.size) (hid : id ∈ idsK T1)
    (h2 : OwnI w' w0.heap.size rv' Z') (hq : Only (fun k => rv.ownBlock = some k) w w') : DnW w0 w' p mb room T1 nx g Fm id b x a c vn rv' nl Z' := by
  have hz := ho.size
  have hrb := fun k hk => (World.ownsRow.lt hr k hk).1
  refine ⟨hR.only hq (fun k hk hf => ?_), hN.same hq.size (fun k hk => hq.block k (hN.lt k hk) fun e => ?_), h2, ⟨hq.os.trans ho.os, hq.tape.trans ho.tape, hq.output.trans ho.output, Nat.le_trans hz hq.size, fun k hk hf => ?_⟩, hlt, hid⟩
  · rw [FpT_sets] at hf
    have := hrb k hk
    have := hlt k hf
    omega
  · have := hrb k e
    have := hlt k (.inr (.inr ⟨id, hid, hk⟩))
    omega
  · exact (hq.block k (by omega) fun e => by have := hrb k e; omega).trans (ho.block k hk hf)
variable {F : Nat → Prop} {T : List Tk}
set_option maxHeartbeats 16000000 in
set_option maxRecDepth 100000 in
theorem dDone_any (w : World) (h : DagP F w p mb room T nx g Fm) (id : Int) (hi : I64 id) :
    Calls Try.prog 15 #[ndv p, .int .i64 id] w (EndsDg F w p mb room nx g Fm (endDg T id 1)) := by
  have GF0 := dFind_any w h id hi
  by_cases hn : id ∈ idsK T
  · obtain ⟨t, ht, b, a, c, vn, hid, hg, hN⟩ := h.R.at hn
    have hst : sgT T id = t.st := by rw [← hid]; exact sg_at h.wf.nodup ht
    have c9 := hN.blk.cell 9 rfl
    have f9 := hN.blk.free 9 rfl
    rw [hg] at GF0
    dsimp only [pv, Option.map] at GF0
    have GF := Lib.hid GF0
    have GM := Lib.hid (dMay_any b t.st w c9)
    by_cases h2 : t.st = 2
    · rw [endDg_1 hn (hst.trans h2)]
      rw [if_pos h2] at GM
      have h2' := hst.trans h2
      have hR1 := h.R.setSt hn hg 4
      have hT1 := h.wf.weak.re (setsT_sp T [id] 4)
      have hI := h.N.1 id
      have hlist := done_list h.wf h2' hI (h.N.2 id)
      have hnx64 := h.nx64 id
      have hlen : (setsT T [id] 4).length ≤ 64 := by rw [setsT_len]; have := h.fit; have := h.room64; omega
      have hN5 := hN.setSt 4
      have hb : F b := (h.fp b).2 (.inr (.inr ⟨id, hn, hN.fb⟩))
      have hw5 := h.wf.done h2'
      have hsp5 : (doneDg T id).1.map Tk.sp = T.map Tk.sp := (setsT_sp (setsT T [id] 4) _ 2).trans (setsT_sp T [id] 4)
      have hp5 : Pl (doneDg T id).1 := (h.pl.sets [id] 4).sets _ 2
      have e1 : (doneDg T id).1 = setsT (setsT T [id] 4) (freedT (setsT T [id] 4)) 2 := rfl
      have e2 : (doneDg T id).2 = freedT (setsT T [id] 4) := rfl
      have hno : ∀ y ∈ nx id, y ∈ idsK (setsT T [id] 4) ∧ y ≠ id := fun y hy => by
        have he := (hI y).1 hy
        refine ⟨by rw [setsT_ids]; exact Ed_ids he, fun e => ?_⟩
        obtain ⟨rk, hr⟩ := h.wf.topo
        have := hr id y he
        rw [e] at this
        omega
      have hlt0 := h.R.lt
      rw [← FpT_sets p mb T [id] 4 Fm] at hlt0
      have ho0 := (Only.refl (FpT p mb (setsT T [id] 4) Fm) w).set ⟨b, 9, none⟩ (.int .i64 4) (by rw [FpT_sets]; exact (h.fp b).1 hb)
      have hid1 : id ∈ idsK (setsT T [id] 4) := by rw [setsT_ids]; exact hn
      have d14 := hN5.blk.cell 14 rfl
      have hvn := OwnI.ints hN5.nxt
      obtain ⟨an, cn, e⟩ := hvn.form
      subst e
      have hW : DnW w (w.setCell ⟨b, 9, none⟩ (.int .i64 4)) p mb room (setsT T [id] 4) nx g Fm id b t.sp a c (.slice an (nx id).length cn) (.slice none 0 0) (nx id) [] :=
        ⟨by rw [setsT_nil]; exact hR1, hN5, OwnR.nil _ _ _ _ _, ho0, hlt0, hid1⟩
      have hnd := h.N.2 id
      rw [e1] at hw5 hsp5 hp5 ⊢
      rw [e2]
      have hfp : ∀ k, F k ↔ FpT p mb (setsT T [id] 4) Fm k := fun k => by rw [FpT_sets]; exact h.fp k
      have HRe := Lib.hid fun w' hR => h.re (w' := w') hR hsp5 hw5 hp5
      generalize setsT T [id] 4 = T1 at *
      generalize nx id = nl at *
      generalize freedT T1 = G at *
      have HFp := Lib.hid hfp
      have HW0 := Lib.hid hW
      have HNO := Lib.hid hno
      have HT := Lib.hid hT1
      have HLS := Lib.hid hlist
      have HND := Lib.hid hnd
      have HLL := Lib.hid (And.intro hlen hnx64)
      have l2 : (nl.length : Int) ≤ 64 := by omega
      clear h GF0 hn ht hg hN hst h2 h2' hR1 hT1 hI hlist hnx64 hlen hN5 hb hw5 hsp5 hp5 e1 e2 hno hlt0 ho0 hid1 hvn hW hnd hfp hi hid
      go_enter Try.func15, Try.ntmps15
      go_upto_region 6 with (first
        | (go_at_call 23; (with_reducible refine GF.out.mono ?_); rintro e w1 ⟨rfl, rfl⟩)
        | (go_at_call 26; (with_reducible refine GM.out.mono ?_); rintro e w1 ⟨rfl, rfl⟩))
      clear c9 f9
      generalize w.setCell ⟨b, 9, none⟩ (.int .i64 4) = w1 at *
      go_wp2
      go_loopg [8, 29] nl.length (fun kx rv iv ws => ∃ (k : Nat) (Z : List Int), k ≤ nl.length ∧ nl.length - k ≤ kx ∧ iv = .int .i64 k ∧ Hid (Z = (nl.take k).filter (condT T1)) ∧ Hid (DnW w ws p mb room T1 nx g Fm id b t.sp a c (.slice an nl.length cn) rv nl Z))
      case atStart => exact ⟨0, [], Nat.zero_le _, Nat.le_refl _, rfl, rfl, HW0.out⟩
      case round =>
        obtain ⟨k, Z, hk, hkx, rfl, HZ, HD⟩ := hrel
        by_cases hlt : k < nl.length
        · obtain ⟨g0, o0, cc, e, -, -, q0⟩ := (OwnI.ints HD.out.nd.nxt).spot k hlt
          simp only [Value.slice.injEq] at e
          obtain ⟨rfl, -, rfl⟩ := e
          have k0 : (0 : Int) ≤ (k : Int) := by omega
          have k1 : (k : Int) < (nl.length : Int) := by omega
          obtain ⟨hy, hyne⟩ := HNO.out _ (List.getElem_mem hlt)
          have hyZ : nl[k]'hlt ∉ Z := by
            rw [HZ.out]
            intro hm
            have h1 := (List.mem_filter.1 hm).1
            have h3 := HND.out
            rw [← List.take_append_drop k nl, List.drop_eq_getElem_cons hlt] at h3
            exact (List.nodup_append.1 h3).2.2 _ h1 _ List.mem_cons_self rfl
          have hZ1 : ∀ z ∈ Z, sgT T1 z = 1 := fun z hz => by
            rw [HZ.out] at hz
            have := (List.mem_filter.1 hz).2
            unfold condT at this
            simp only [Bool.and_eq_true, decide_eq_true_eq] at this
            exact this.1
          have hcs := cond_sets HT.out.nodup hZ1 hyZ hy
          have hfl : (nl.take (k + 1)).filter (condT T1) = if condT T1 (nl[k]'hlt) then Z ++ [nl[k]'hlt] else Z := by
            rw [List.take_succ_eq_append_getElem hlt, List.filter_append, ← HZ.out]
            cases hc : condT T1 (nl[k]'hlt)
            · rw [List.filter_cons_of_neg (by simp [hc])]
              simp
            · rw [List.filter_cons_of_pos (by simp [hc])]
              rfl
          have hZl : Z.length ≤ 64 := by
            rw [HZ.out]
            have h1 := List.length_filter_le (condT T1) (nl.take k)
            rw [List.length_take] at h1
            have := HLL.out.2
            omega
          generalize nl[k]'hlt = y at *
          have hy2 : y ∈ idsK (setsT T1 Z 2) := by rw [setsT_ids]; exact hy
          obtain ⟨u, hu, b2, a2, c2, vn2, hid2, hg2, hN2⟩ := HD.out.R.at hy2
          have hT2 := HT.out.re (setsT_sp T1 Z 2)
          have hst : sgT (setsT T1 Z 2) y = u.st := by rw [← hid2]; exact sg_at hT2.nodup hu
          have hlk := HD.out.R.map.look1 (HT.out.id64 _ hy)
          rw [hg2] at hlk
          dsimp only [pv, Option.map] at hlk
          have c1 := HD.out.R.box.cell 1 rfl
          have s9 := hN2.blk.cell 9 rfl
          have f9 := hN2.blk.free 9 rfl
          have GW := Lib.hid (dWaitsR_any wr HD.out.R hT2 y (HT.out.id64 _ hy))
          have hcd : condT T1 y = (decide (u.st = 1) && decide (waitsT (setsT T1 Z 2) y = 0)) := by rw [← hcs]; unfold condT; rw [hst]
          have HFR := Lib.hid (HD.out.free hy hyne hg2)
          generalize waitsT (setsT T1 Z 2) y = wv at *
          generalize u.st = s at *
          generalize condT T1 y = cb at *
          have HFL := Lib.hid hfl
          have HLT := Lib.hid (And.intro hlt (And.intro hkx hZl))
          clear hy hyne hyZ hZ1 hcs hfl hZl hy2 hu hid2 hg2 hN2 hT2 hst hlt hk hkx
          by_cases h1 : s = 1
          · subst h1
            by_cases h2 : wv = 0
            · subst h2
              have hcb : cb = true := by rw [hcd]; rfl
              subst hcb
              clear hcd
              go_upto_region 13 with (go_at_call 12; (with_reducible refine GW.out.mono ?_); rintro e w2 ⟨rfl, rfl⟩)
              have HSZ := Lib.hid (show wr.heap.size ≤ (wr.setCell ⟨b2, 9, none⟩ (.int .i64 2)).heap.size by rw [size_set]; exact Nat.le_refl _)
              have HOS := Lib.hid HD.out.o.size
              have HDl := Lib.hid (And.intro HD.out.lt HD.out.hid)
              clear s9 f9 c1 hlk q0 GW HD
              generalize wr.setCell ⟨b2, 9, none⟩ (.int .i64 2) = w3 at *
              go_wp2_with (at_builtin; refine appI23 y HFR.out.2.2.1 (Nat.le_trans HOS.out HSZ.out) (by have := HLT.out.2.2; omega) rfl _ _ rfl rfl rfl ?_; intro v6 w6 o6 b6 q6 n6; have HW6 := Lib.hid (DnW.tell HFR.out.1 HFR.out.2.1 HFR.out.2.2.1 HFR.out.2.2.2 HDl.out.1 HDl.out.2 o6 q6); clear o6 b6 q6 n6)
              go_roundg (nl.length - (k + 1))
              case measure => have := HLT.out; omega
              case rel => exact ⟨k + 1, Z ++ [y], by have := HLT.out; omega, Nat.le_refl _, by go_num, by rw [HFL.out]; rfl, HW6.out⟩
            · have e2 : (wv == 0) = false := beq_noI h2
              have hcb : cb = false := by rw [hcd]; simp [h2]
              subst hcb
              clear hcd h2
              go_wp2_with (go_at_call 12; (with_reducible refine GW.out.mono ?_); rintro e w2 ⟨rfl, rfl⟩)
              go_roundg (nl.length - (k + 1))
              case measure => have := HLT.out; omega
              case rel => exact ⟨k + 1, Z, by have := HLT.out; omega, Nat.le_refl _, by go_num, by rw [HFL.out]; rfl, HD.out⟩
          · have e1 : (s == 1) = false := beq_noI h1
            have hcb : cb = false := by rw [hcd]; simp [h1]
            subst hcb
            clear hcd h1
            go_wp2
            go_roundg (nl.length - (k + 1))
            case measure => have := HLT.out; omega
            case rel => exact ⟨k + 1, Z, by have := HLT.out; omega, Nat.le_refl _, by go_num, by rw [HFL.out]; rfl, HD.out⟩
        · have hke : k = nl.length := by omega
          subst hke
          have hZ := HZ.out
          rw [List.take_length] at hZ
          have hZs : (Z.mergeSort fun x y => decide (x ≤ y)) = G := by rw [hZ]; exact HLS.out
          have hZl : Z.length ≤ 64 := by
            rw [hZ]
            have h1 := List.length_filter_le (condT T1) nl
            have := HLL.out.2
            omega
          obtain ⟨az, cz, e⟩ := (OwnI.ints HD.out.rd).form
          subst e
          have GS := Lib.hid (sortI_any wr w.heap.size _ Z HD.out.rd (by omega))
          have HSET := Lib.hid (setsT_congr T1 (ids := G) (ids' := Z) 2 fun x => by rw [← hZs, List.mem_mergeSort])
          have HZS := Lib.hid hZs
          clear hZ hZs hZl hlt hk hkx HZ
          go_wp2_with (go_at_call 27; (with_reducible refine GS.out.mono ?_); rintro e w3 ⟨rfl, h3, o3, _⟩; have H3 := Lib.hid h3; have O3 := Lib.hid o3; clear h3 o3)
          have hz := HD.out.o.size
          have hrb := fun k hk => (World.ownsRow.lt HD.out.rd k hk).1
          have hR3 : DagR w3 p mb room (setsT T1 G 2) nx g Fm := by
            rw [HSET.out]
            refine HD.out.R.only O3.out (fun k hk hf => ?_)
            rw [FpT_sets] at hf
            have := hrb k hk
            have := HD.out.lt k hf
            omega
          refine bodyPost_ret (v := .tuple #[.slice az Z.length cz, .int .i64 0]) (by simp [results, Try.results15, go_sem]) rfl ⟨_, rfl, by show IntsAt _ _ G; rw [← HZS.out]; exact H3.out, hrb, HRe.out _ hR3, ⟨O3.out.os.trans HD.out.o.os, O3.out.tape.trans HD.out.o.tape, O3.out.output.trans HD.out.o.output, Nat.le_trans hz O3.out.size, fun k hk hf => ?_⟩⟩
          exact (O3.out.block k (by omega) fun e => by have := hrb k e; omega).trans (HD.out.o.block k hk fun e => hf ((HFp.out k).2 e))
    · rw [endDg_st hn (.inl ⟨by omega, by rw [hst]; exact h2⟩)]
      rw [if_neg h2] at GM
      have HE := Lib.hid (EndsDg.not h 12)
      clear h GF0 hn ht hid hg hN hst c9 f9 h2 hi
      go_enter Try.func15, Try.ntmps15
      go_wp2_with (first
        | (go_at_call 23; (with_reducible refine GF.out.mono ?_); rintro e w1 ⟨rfl, rfl⟩)
        | (go_at_call 26; (with_reducible refine GM.out.mono ?_); rintro e w1 ⟨rfl, rfl⟩))
      exact bodyPost_ret (v := .tuple #[.slice none 0 0, .int .i64 12]) (by simp [results, Try.results15, go_sem]) rfl HE.out
  · rw [endDg_no hn]
    rw [h.R.no hn] at GF0
    dsimp only [pv, Option.map] at GF0
    have GF := Lib.hid GF0
    have GM := Lib.hid (dMay_nil w)
    have HE := Lib.hid (EndsDg.not h 7)
    clear h GF0 hn hi
    go_enter Try.func15, Try.ntmps15
    go_wp2_with (first
      | (go_at_call 23; (with_reducible refine GF.out.mono ?_); rintro e w1 ⟨rfl, rfl⟩)
      | (go_at_call 26; (with_reducible refine GM.out.mono ?_); rintro e w1 ⟨rfl, rfl⟩))
    exact bodyPost_ret (v := .tuple #[.slice none 0 0, .int .i64 7]) (by simp [results, Try.results15, go_sem]) rfl HE.out
set_option maxHeartbeats 1000000 in
set_option maxRecDepth 100000 in
theorem dDone_nil (w : World) (id : Int) : Calls Try.prog 15 #[.pointer none, .int .i64 id] w fun e w' => e = .returned (.tuple #[.slice none 0 0, .int .i64 7]) ∧ w = w' := by
  have GF := Lib.hid (dFind_nil w id)
  have GM := Lib.hid (dMay_nil w)
  go_enter Try.func15, Try.ntmps15
  go_wp2_with (first
    | (go_at_call 23; (with_reducible refine GF.out.mono ?_); rintro e w1 ⟨rfl, rfl⟩)
    | (go_at_call 26; (with_reducible refine GM.out.mono ?_); rintro e w1 ⟨rfl, rfl⟩))
  exact bodyPost_ret (v := .tuple #[.slice none 0 0, .int .i64 7]) (by simp [results, Try.results15, go_sem]) rfl ⟨rfl, rfl⟩
end
end Go.Proofs.Ythchkhgimnchcaa
/- Stage 24's program: New; a node more. -/
namespace Go.Proofs.Ythchkhgimnchcaa
open Go.RowKit

def clipD (n : Int) : Int := max 0 (min n 64)
set_option maxHeartbeats 4000000 in
set_option maxRecDepth 100000 in
theorem dNew_any (n : Int) (w : World) : Calls Try.prog 7 #[.int .i64 n] w fun e w' => ∃ p mb F nx g Fm, e = .returned (ndv p) ∧ DagP F w' p mb (clipD n) [] nx g Fm ∧ (∀ k, F k → w.heap.size ≤ k) ∧ Below w.heap.size w w' := by
  obtain ⟨r, hr⟩ : ∃ r, clipD n = r := ⟨_, rfl⟩
  have hmm : min (max n 0) 64 = r := by rw [← hr]; unfold clipD; omega
  have HR := Lib.hid (show 0 ≤ r ∧ r ≤ 64 by rw [← hr]; unfold clipD; omega)
  rw [hr]
  obtain ⟨q, hq⟩ : ∃ q, max n 0 = q := ⟨_, rfl⟩
  rw [hq] at hmm
  have hmk : (Instr.makeMap 53 none).run Try.prog w = .ok (.map (some w.heap.size)) (w.alloc (.map #[] 0)) := by kernel_rfl
  clear hr
  go_enter Try.func7, Try.ntmps7
  go_wp2
  go_ret
  have hb := (Below.refl w.heap.size w).alloc (Nat.le_refl _) (.map #[] 0)
  have hb2 := hb.alloc hb.size (.cells #[.int .i64 r, .map (some w.heap.size)] 55)
  have hX := Blk.new (w.alloc (.map #[] 0)) [.int .i64 r, .map (some w.heap.size)] 55
  rw [show (w.alloc (.map #[] 0)).heap.size = w.heap.size + 1 by simp] at hX
  refine ⟨w.heap.size + 1, w.heap.size, FpT (w.heap.size + 1) w.heap.size [] fun _ _ => False, fun _ => [], fun _ => none, fun _ _ => False, rfl, ⟨⟨hX, (MapP.new w).kept ((Below.refl _ _).alloc (Nat.le_refl _) _), fun n => by simp [idsK], fun t ht => (by cases ht), fun m n k hm => by simp [idsK] at hm, fun n hn => by simp [idsK] at hn, by omega⟩, ⟨fun n x => ⟨fun h => (by cases h), fun ⟨t, ht, _⟩ => (by cases ht)⟩, fun _ => List.nodup_nil⟩, Wf.nil, fun t ht => (by cases ht), HR.out.1, HR.out.1, HR.out.2, fun k => Iff.rfl⟩, fun k hk => ?_, hb2⟩
  rcases hk with rfl | rfl | ⟨n, hn, _⟩
  · omega
  · exact Nat.le_refl _
  · simp [idsK] at hn

section
variable {w : World} {p mb : Nat} {room : Int} {T : List Tk} {nx : Int → List Int} {g : Int → Option Nat} {Fm : Int → Nat → Prop}
theorem FpT_snoc {k : Nat} {t : Tk} {Fm' : Int → Nat → Prop} {f : Nat → Prop} (hx : t.sp.id ∉ idsK T) (hF : Fm' = updD Fm t.sp.id f) (h : FpT p mb (T ++ [t]) Fm' k) : FpT p mb T Fm k ∨ f k := by
  rcases h with h | h | ⟨n, hn, hk⟩
  · exact .inl (.inl h)
  · exact .inl (.inr (.inl h))
  · rw [idsK_snoc, List.mem_append, List.mem_singleton] at hn
    rw [hF] at hk
    rcases hn with hn | rfl
    · rw [updD_other _ _ fun e => hx (by rw [← e]; exact hn)] at hk
      exact .inl (.inr (.inr ⟨n, hn, hk⟩))
    · rw [updD_same] at hk
      exact .inr hk
theorem DagR.more (h : DagR w p mb room T nx g Fm) {w5 : World} (hb2 : Below w.heap.size w w5) {x : Sp} (hx : x.id ∉ idsK T) (h64 : I64 x.id) (hnx : nx x.id = []) (hl : T.length ≤ 1000) {a' : Option Addr} {c' b : Nat} (hX : Blk w5 b (csNd x 1 a' c' (.slice none 0 0))) (ho : OwnI w5 w.heap.size (.slice a' x.aft.length c') x.aft)
    (hbl : w.heap.size ≤ b) (hne : (Value.slice a' x.aft.length c').ownBlock ≠ some b) :
    ∃ w3, (Instr.mapUpdate 53 (.map (some mb)) (.int .i64 x.id) (.pointer (some ⟨b, 0, none⟩))).run Try.prog w5 = .ok () w3 ∧
      ∃ g' Fm', DagR w3 p mb room (T ++ [mkK x 1]) nx g' Fm' ∧ (∀ k, FpT p mb (T ++ [mkK x 1]) Fm' k → FpT p mb T Fm k ∨ w.heap.size ≤ k) ∧ Only (fun k => k = mb) w w3 := by
  have hlt := h.lt
  have h5 := h.kept hb2
  obtain ⟨w3, hrun, hm, hg⟩ := h5.map.put (by omega) h64 b
  rw [h.no hx] at hm
  have hab := World.ownsRow.lt ho
  have hmb := hlt mb (.inr (.inl rfl))
  have hNd : NdP w5 b x 1 [] (fun k => k = b ∨ (Value.slice a' x.aft.length c').ownBlock = some k) a' c' (.slice none 0 0) :=
    ⟨hX, OwnR.base13 ho (Nat.zero_le _), OwnR.nil _ _ _ _ _, .inl rfl, fun k hk => ⟨.inr hk, fun e => hne (by rw [← e]; exact hk)⟩, fun k hk => by simp [Value.ownBlock] at hk, fun k hk => by
      rcases hk with rfl | hk
      · exact Blk.lt (v := .int .i64 x.id) hX
      · exact (hab k hk).2⟩
  have hfl : ∀ k, (k = b ∨ (Value.slice a' x.aft.length c').ownBlock = some k) → w.heap.size ≤ k := fun k hk => by
    rcases hk with rfl | hk
    · exact hbl
    · exact (hab k hk).1
  have hN3 := hNd.same (w' := w3) hg.size fun k hk => hg.block k (hNd.lt k hk) fun e => by
    injection e with e
    have := hfl k hk
    omega
  refine ⟨w3, hrun, _, _, h5.add hx hnx hg hm hN3 (fun k hk => ⟨hNd.lt k hk, fun e => by have := hlt k e; have := hfl k hk; omega⟩), fun k hk => (FpT_snoc (t := mkK x 1) hx rfl hk).imp id (hfl k), ?_⟩
  exact ((Only.of_below hb2).mono fun _ h => h).trans (Only.grown hg fun _ e => (Option.some.inj e).symm)
/-- a spec's copy, in a region that draws -/
def lkClone (B : Nat) (x : Sp) : Lk := ⟨Option Addr × Nat, ⟨(none, 0)⟩, fun y => .agg #[.int .i64 x.id, .int .i64 x.prio, .int .u64 x.sk, .int .u64 x.ge, .int .i64 x.fx, .int .i64 x.fy, .int .i64 x.tx, .int .i64 x.ty, .slice y.1 x.aft.length y.2], fun y w => OwnI w B (.slice y.1 x.aft.length y.2) x.aft⟩
theorem lkClone_at {P : Program} {o : Oper} {a : Act} {W : World} {G : World → Prop} {B : Nat} {x : Sp} {f : FuncId} {args : Array Value} (hB : B ≤ W.heap.size) (he : ∀ k : In W, (execOp a.eval o).run P k.w = .ok (.enter f args) k.w)
    (hc : ∀ k : In W, Calls P f args k.w fun e w' => ∃ a' c', e = .returned (spv { x with a := a', c := c' }) ∧ OwnI w' k.w.heap.size (.slice a' x.aft.length c') x.aft ∧ Below k.w.heap.size k.w w') : (lkClone B x).at P o a W G :=
  ⟨fun _ _ _ h hb => OwnR.kept h hb, fun k _ => by
    rw [he k]
    refine ⟨rfl, (hc k).mono ?_⟩
    rintro e w' ⟨a', c', rfl, h, hb⟩
    exact ⟨(a', c'), rfl, OwnR.base13 h (Nat.le_trans hB k.h.size), hb.mono k.h.size⟩⟩
/-- a node in new memory, in a region that draws -/
def lkNode (B : Nat) (x : Sp) : Lk := ⟨Option Addr × Nat × Nat, ⟨(none, 0, 0)⟩, fun y => .pointer (some ⟨y.2.2, 0, none⟩), fun y w => Blk w y.2.2 (csNd x 1 y.1 y.2.1 (.slice none 0 0)) ∧ OwnI w B (.slice y.1 x.aft.length y.2.1) x.aft ∧ B ≤ y.2.2 ∧ (Value.slice y.1 x.aft.length y.2.1).ownBlock ≠ some y.2.2⟩
theorem lkNode_at {P : Program} {o : Oper} {a : Act} {W : World} {B : Nat} {x : Sp} {a' : Option Addr} {c' : Nat} (hB : W.heap.size = B) (he : ∀ n : In W, (execOp a.eval o).run P n.w = .ok (.value (.pointer (some ⟨n.w.heap.size, 0, none⟩))) (n.w.alloc (.cells (csNd x 1 a' c' (.slice none 0 0)).toArray 62))) :
    (lkNode B x).at P o a W (fun w => OwnI w B (.slice a' x.aft.length c') x.aft) :=
  ⟨fun _ _ _ h hb => ⟨Blk.kept (v := .int .i64 x.id) h.1 hb, OwnR.kept h.2.1 hb, h.2.2.1, h.2.2.2⟩, fun n hG => by
    rw [he n]
    refine ⟨(a', c', n.w.heap.size), rfl, ⟨Blk.new n.w _ _, OwnR.alloc hG _, hB ▸ n.h.size, fun e => ?_⟩, (Below.refl W.heap.size _).alloc n.h.size _⟩
    have := (World.ownsRow.lt hG _ e).2
    simp at this⟩
end
end Go.Proofs.Ythchkhgimnchcaa
