/- Stage 15's program: New, Drop, To, Now, First, Find, Len. -/
import Derived.Test.YtkhnkhkpjgemkaaAqB
namespace Go.Proofs.Ytkhnkhkpjgemkaa
open Go.RowKit

theorem Blk.of_heap {w : World} {b : Nat} {vs : List Value} {t : TypeId} (hh : w.heap[b]? = some (.cells vs.toArray t)) : Blk w b vs := fun j u hu =>
  ⟨by unfold World.cell?; simp only [hh]; simpa using hu, by unfold World.frozen?; simp only [hh]; simp⟩
theorem dropT_hasnt {S : List Th} {id : Int} (h : hasT S id = false) : dropT S id = S := dropT_no fun y hy e => by
  rw [hasT_iff.2 ⟨y, hy, e⟩] at h
  cases h
theorem QOk.only {n r : Int} {l lf lg : List It} {Sf Sg : List Th} (h : QOk n r l lf lg Sf Sg) {id : Int} (hg : hasT Sg id = true) : hasT Sf id = false := by
  cases hf : hasT Sf id with
  | false => rfl
  | true =>
    obtain ⟨y, hy, ey⟩ := hasT_iff.1 hg
    obtain ⟨z, hz, ez⟩ := hasT_iff.1 hf
    obtain ⟨b, hb, rfl⟩ := List.mem_map.1 (h.pg.mem_iff.1 hy)
    obtain ⟨a, ha, rfl⟩ := List.mem_map.1 (h.pf.mem_iff.1 hz)
    exact absurd (show a.id = b.id from ez.trans ey.symm) (h.apart a ha b hb)
section
variable {F : Nat → Prop} {w w' : World} {p : Nat} {n r : Int} {l : List It}
theorem QAt.out (h : QAt F w p n r l) (hz : w.heap.size ≤ w'.heap.size) (he : ∀ k, F k → w'.heap[k]? = w.heap[k]?) : QAt F w' p n r l := by
  obtain ⟨Ff, Fg, mb, pf, pg, lf, lg, Sf, Sg, h1, h2⟩ := h
  exact ⟨Ff, Fg, mb, pf, pg, lf, lg, Sf, Sg, h1.out hz he, h2⟩
theorem QAt.lt (h : QAt F w p n r l) : ∀ k, F k → k < w.heap.size := by
  obtain ⟨Ff, Fg, mb, pf, pg, lf, lg, Sf, Sg, h1, h2⟩ := h
  exact h1.lt
theorem QAt.kept (h : QAt F w p n r l) (hb : Below w.heap.size w w') : QAt F w' p n r l := h.out hb.size fun k hk => hb.block k (h.lt k hk)
end

set_option maxHeartbeats 2000000 in
theorem kNew_any (rate now : Int) (w : World) : Calls Try.prog 5 #[.int .i64 rate, .int .i64 now] w fun e w' => ∃ p F, e = .returned (ptr13 p) ∧ QAt F w' p (tk now) (rt rate) [] ∧ (∀ k, F k → w.heap.size ≤ k) ∧ Below w.heap.size w w' := by
  have H1 := Lib.hid fun w => kTick_any now w
  have H2 := Lib.hid fun w => satClip_c rate 0 1048576 w
  have e : iclip rate 0 1048576 = rt rate := rfl
  rw [e] at H2
  have hq := Lib.hid (QOk.nil (tk_bd now) (rt_bd rate))
  generalize tk now = t at *
  generalize rt rate = r at *
  have hmk : (Instr.makeMap 48 none).run Try.prog w = .ok (.map (some w.heap.size)) (w.alloc (.map #[] 0)) := by kernel_rfl
  have HM := Lib.hid (MapIt.new w)
  have HB := Lib.hid ((Below.refl w.heap.size w).alloc (Nat.le_refl _) (.map #[] 0))
  have hz1 : (w.alloc (.map #[] 0)).heap.size = w.heap.size + 1 := by simp
  have HZ1 := Lib.hid hz1
  clear hz1
  go_enter Try.func5, Try.ntmps5
  go_wp2_with (first
    | (go_at_call 16; (with_reducible refine (H1.out _).mono ?_); rintro e w1 ⟨rfl, rfl⟩)
    | (go_at_call 17; (with_reducible refine (H2.out _).mono ?_); rintro e w1 ⟨rfl, rfl⟩)
    | (go_at_call 18; (with_reducible refine (hNew_any (w.alloc (.map #[] 0))).mono ?_); rintro e w2 ⟨pg, Fg, rfl, g1, g2, g3⟩; have HG := Lib.hid g2; have HG1 := Lib.hid g1; have HB2 := Lib.hid g3; clear g1 g2 g3)
    | (go_at_call 18; (with_reducible refine (hNew_any w2).mono ?_); rintro e w3 ⟨pf, Ff, rfl, g1, g2, g3⟩; have HF := Lib.hid g2; have HF1 := Lib.hid g1; have HB3 := Lib.hid g3; clear g1 g2 g3))
  go_ret
  have b3 := HB3.out
  have b2 := HB2.out
  have b1 := HB.out
  have z1 := HZ1.out
  have s2 := b2.size
  have s3 := b3.size
  have hal := (Below.refl w3.heap.size w3).alloc (Nat.le_refl _) (.cells #[.int .i64 t, .int .i64 r, .map (some w.heap.size), ptr13 pg, ptr13 pf] 52)
  have hbl := Blk.new w3 (aqc t r w.heap.size pg pf) 52
  have lg : ∀ k, Fg k → w.heap.size < k ∧ k < w2.heap.size := fun k hk => ⟨by have := HG1.out k hk; omega, HG.out.lt k hk⟩
  have lf : ∀ k, Ff k → w2.heap.size ≤ k ∧ k < w3.heap.size := fun k hk => ⟨HF1.out k hk, HF.out.lt k hk⟩
  refine ⟨_, fun k => k = w3.heap.size ∨ k = w.heap.size ∨ Ff k ∨ Fg k, rfl, ⟨Ff, Fg, w.heap.size, pf, pg, [], [], [], [], ⟨hbl, ((HM.out.kept b2).kept b3).kept hal, HF.out.kept hal, (HG.out.kept b3).kept hal, .inl rfl, .inr (.inl rfl), fun k hk => .inr (.inr (.inl hk)), fun k hk => .inr (.inr (.inr hk)), fun k hk => ?_, fun h => by have := lf _ h; omega, fun h => by have := lg _ h; omega, fun h => by have := lf _ h; omega, fun h => by have := lg _ h; omega, fun k h1 h2 => by have := lf _ h1; have := lg _ h2; omega⟩, hq.out, by simp⟩, fun k hk => ?_, ?_⟩
  · have : (w3.alloc (.cells #[.int .i64 t, .int .i64 r, .map (some w.heap.size), ptr13 pg, ptr13 pf] 52)).heap.size = w3.heap.size + 1 := by simp
    rw [this]
    rcases hk with rfl | rfl | hk | hk
    · omega
    · omega
    · have := lf _ hk; omega
    · have := lg _ hk; omega
  · rcases hk with rfl | rfl | hk | hk
    · omega
    · omega
    · have := lf _ hk; omega
    · have := lg _ hk; omega
  · exact ((b1.trans (b2.mono (by omega))).trans (b3.mono (by omega))).trans (hal.mono (by omega))

set_option maxHeartbeats 2000000 in
theorem kTo_any {F : Nat → Prop} {w : World} {p : Nat} {n r : Int} {l : List It} (m : Int) (h : QAt F w p n r l) (hl : l.length ≤ 1000) :
    Calls Try.prog 7 #[ptr13 p, .int .i64 m] w fun e w' => e = .returned (.tuple #[]) ∧ ∃ F', QAt F' w' p (max n (tk m)) r l ∧ Mv F F' w w' := by
  obtain ⟨Ff, Fg, mb, pf, pg, lf, lg, Sf, Sg, h1, h2, h3⟩ := h
  have HR := Lib.hid (kReach_any m h1.blk)
  have hb := tk_bd m
  have HQ := Lib.hid (h2.to (m := max n (tk m)) (by omega) (by have := h2.hn; omega))
  have HW := Lib.hid h1
  have HL := Lib.hid hl
  generalize max n (tk m) = n' at *
  clear h1 h2 h3 hb hl
  go_enter Try.func7, Try.ntmps7
  go_wp2_with (first
    | (go_at_call 23; (with_reducible refine HR.out.mono ?_); rintro e w1 ⟨rfl, w0, hb, rfl⟩; have HT := Lib.hid ((HW.out.kept hb).tick n'); have HB := Lib.hid hb; clear hb)
    | (go_at_call 22; (with_reducible refine (kRipen_any HT.out.1 HQ.out HL.out).mono ?_); rintro e w2 ⟨rfl, F2, g1, g2⟩; have HE := Lib.hid g1; have HE2 := Lib.hid g2; clear g1 g2))
  go_end0
  exact ⟨rfl, F2, HE.out, ((Mv.of_below HB.out).trans HT.out.2).trans HE2.out⟩
theorem kTo_nil (m : Int) (w : World) : Calls Try.prog 7 #[.pointer none, .int .i64 m] w fun e w' => e = .returned (.tuple #[]) ∧ Below w.heap.size w w' := by
  go_enter Try.func7, Try.ntmps7
  go_wp2
  go_end0
  exact ⟨rfl, Below.refl _ _⟩

theorem kNow_any {F : Nat → Prop} {w : World} {p : Nat} {n r : Int} {l : List It} (h : QAt F w p n r l) : Calls Try.prog 11 #[ptr13 p] w fun e w' => e = .returned (.int .i64 n) ∧ Below w.heap.size w w' := by
  obtain ⟨Ff, Fg, mb, pf, pg, lf, lg, Sf, Sg, h1, h2, h3⟩ := h
  have H := Lib.hid (kTime_any h1.blk)
  clear h1 h2 h3
  go_enter Try.func11, Try.ntmps11
  go_wp2_with (go_at_call 19; (with_reducible refine H.out.mono ?_); rintro e w1 ⟨rfl, rfl⟩)
  go_ret
  exact ⟨rfl, Below.refl _ _⟩
theorem kNow_nil (w : World) : Calls Try.prog 11 #[.pointer none] w fun e w' => e = .returned (.int .i64 0) ∧ Below w.heap.size w w' := by
  go_enter Try.func11, Try.ntmps11
  go_wp2
  go_ret
  exact ⟨rfl, Below.refl _ _⟩

theorem kLen_any {F : Nat → Prop} {w : World} {p : Nat} {n r : Int} {l : List It} (h : QAt F w p n r l) : Calls Try.prog 10 #[ptr13 p] w fun e w' => e = .returned (.int .i64 (l.length : Int)) ∧ Below w.heap.size w w' := by
  obtain ⟨Ff, Fg, mb, pf, pg, lf, lg, Sf, Sg, h1, h2, h3⟩ := h
  have p2 := h1.blk.cell 2 rfl
  have HM := Lib.hid h1.map
  clear h1 h2 h3
  go_enter Try.func10, Try.ntmps10
  go_wp2_with (at_len; refine wpList_lenIt rfl _ rfl rfl HM.out ?_)
  go_ret
  exact ⟨rfl, Below.refl _ _⟩
theorem kLen_nil (w : World) : Calls Try.prog 10 #[.pointer none] w fun e w' => e = .returned (.int .i64 0) ∧ Below w.heap.size w w' := by
  go_enter Try.func10, Try.ntmps10
  go_wp2
  go_ret
  exact ⟨rfl, Below.refl _ _⟩

theorem firstA_of {q : Aq} {A B : List Int} (h : A ++ B = listA q) : firstA q = match A ++ B with | [] => (0, false) | i :: _ => (i, true) := by
  unfold firstA
  rw [h]
  cases listA q <;> rfl

set_option maxHeartbeats 2000000 in
theorem kFirst_any {F : Nat → Prop} {w : World} {p : Nat} {n r : Int} {l : List It} (h : QAt F w p n r l) (hl : l.length ≤ 1000) : Calls Try.prog 9 #[ptr13 p] w fun e w' => e = .returned (.tuple #[.int .i64 (firstA ⟨r, n, l⟩).1, .bool (firstA ⟨r, n, l⟩).2]) ∧ Below w.heap.size w w' := by
  obtain ⟨Ff, Fg, mb, pf, pg, lf, lg, Sf, Sg, h1, h2, h3⟩ := h
  have hlen := h2.len
  have hF := firstA_of (h2.list h3)
  have p4 := h1.blk.cell 4 rfl
  have H1 := Lib.hid (hFirst_any w h1.hf (by omega))
  have HW := Lib.hid h1
  have HH2 := Lib.hid fun (w1 : World) (hb : Below w.heap.size w w1) => hFirst_any w1 (h1.kept hb).hg (by omega)
  cases Sf with
  | cons t T =>
    have e : firstA ⟨r, n, l⟩ = (t.id, true) := hF
    rw [e]
    simp only [frsT] at H1
    clear h1 h2 h3 hlen hF e
    go_enter Try.func9, Try.ntmps9
    go_wp2_with (go_at_call 26; (with_reducible refine H1.out.mono ?_); rintro e w1 ⟨rfl, hb⟩)
    exact bodyPost_ret (v := .tuple #[.int .i64 t.id, .bool true]) (by simp [results, Try.results9, go_sem]) rfl ⟨rfl, hb⟩
  | nil =>
    have e : firstA ⟨r, n, l⟩ = frsT Sg := by
      rw [hF]
      cases Sg <;> rfl
    rw [e]
    obtain ⟨i, hi⟩ : ∃ i, (frsT Sg).1 = i := ⟨_, rfl⟩
    obtain ⟨b, hb⟩ : ∃ b, (frsT Sg).2 = b := ⟨_, rfl⟩
    rw [hi, hb] at HH2 ⊢
    simp only [frsT] at H1
    clear h1 h2 h3 hlen hF e hi hb
    go_enter Try.func9, Try.ntmps9
    go_wp2_with (first
      | (go_at_call 26; (with_reducible refine H1.out.mono ?_); rintro e w1 ⟨rfl, hb⟩; have HB := Lib.hid hb; have q3 := (HW.out.kept hb).blk.cell 3 rfl; clear hb p4)
      | (go_at_call 26; (with_reducible refine (HH2.out _ HB.out).mono ?_); rintro e w2 ⟨rfl, hb⟩; have HB2 := Lib.hid (HB.out.trans (hb.mono HB.out.size)); clear hb q3))
    exact bodyPost_ret (v := .tuple #[.int .i64 i, .bool b]) (by simp [results, Try.results9, go_sem]) rfl ⟨rfl, HB2.out⟩
theorem kFirst_nil (w : World) : Calls Try.prog 9 #[.pointer none] w fun e w' => e = .returned (.tuple #[.int .i64 0, .bool false]) ∧ Below w.heap.size w w' := by
  go_enter Try.func9, Try.ntmps9
  go_wp2
  exact bodyPost_ret (v := .tuple #[.int .i64 0, .bool false]) (by simp [results, Try.results9, go_sem]) rfl ⟨rfl, Below.refl _ _⟩

set_option maxHeartbeats 2000000 in
theorem kFind_any {F : Nat → Prop} {w : World} {p : Nat} {n r : Int} {l : List It} (id : Int) (h : QAt F w p n r l) (hid : I64 id) : Calls Try.prog 12 #[ptr13 p, .int .i64 id] w fun e w' => e = .returned (.tuple #[itv (findA l id).1, .bool (findA l id).2]) ∧ Below w.heap.size w w' := by
  obtain ⟨Ff, Fg, mb, pf, pg, lf, lg, Sf, Sg, h1, h2, h3⟩ := h
  have e1 := gA_get l id
  have e2 := gA_some l id
  obtain ⟨y, hy⟩ : ∃ y, (findA l id).1 = y := ⟨_, rfl⟩
  obtain ⟨t, ht⟩ : ∃ t, (findA l id).2 = t := ⟨_, rfl⟩
  rw [hy] at e1 ⊢
  rw [ht] at e2 ⊢
  have E1 := Lib.hid e1
  have E2 := Lib.hid e2
  have hal := (Below.refl w.heap.size w).alloc (Nat.le_refl _) (.cells #[.int .i64 0, .int .i64 0, .int .i64 0, .int .i64 0] 28)
  have p2 := (h1.kept hal).blk.cell 2 rfl
  have HM := Lib.hid (h1.kept hal).map
  have HI := Lib.hid hid
  have HB := Lib.hid hal
  have hX := Blk.new w [.int .i64 0, .int .i64 0, .int .i64 0, .int .i64 0] 28
  obtain ⟨y1, y2, y3, y4⟩ := y
  simp only [itv]
  have hal2 := fun w1 : World => (Below.refl w1.heap.size w1).alloc (Nat.le_refl _) (.cells #[.int .i64 y1, .int .i64 y2, .int .i64 y3, .int .i64 y4] 28)
  have hX2 := hX.kept (hal2 _)
  have z0 := hX2.free 0 rfl
  have z1 := hX2.free 1 rfl
  have z2 := hX2.free 2 rfl
  have z3 := hX2.free 3 rfl
  have c0 := hX2.cell 0 rfl
  have c1 := hX2.cell 1 rfl
  have c2 := hX2.cell 2 rfl
  have c3 := hX2.cell 3 rfl
  have hY := Blk.new (w.alloc (.cells #[.int .i64 0, .int .i64 0, .int .i64 0, .int .i64 0] 28)) [.int .i64 y1, .int .i64 y2, .int .i64 y3, .int .i64 y4] 28
  have d0 := hY.cell 0 rfl
  have d1 := hY.cell 1 rfl
  have d2 := hY.cell 2 rfl
  have d3 := hY.cell 3 rfl
  clear h1 h2 h3 e1 e2 hy ht hid hal hX hal2 hX2 hY
  go_enter Try.func12, Try.ntmps12
  go_wp2_with (at_lookup; refine wpList_lookIt rfl _ _ rfl rfl HM.out id HI.out rfl ?_; rw [E1.out, E2.out])
  have hb1 := (Below.refl w.heap.size w).alloc (Nat.le_refl _) (.cells #[.int .i64 y1, .int .i64 y2, .int .i64 y3, .int .i64 y4] 28)
  have hb2 := fun w1 : World => (Below.refl w1.heap.size w1).alloc (Nat.le_refl _) (.cells #[.int .i64 y1, .int .i64 y2, .int .i64 y3, .int .i64 y4] 28)
  have hZ := (Blk.new w [.int .i64 y1, .int .i64 y2, .int .i64 y3, .int .i64 y4] 28).kept (hb2 _)
  have s0 := hZ.cell 0 rfl
  have s1 := hZ.cell 1 rfl
  have s2 := hZ.cell 2 rfl
  have s3 := hZ.cell 3 rfl
  refine bodyPost_ret (v := .tuple #[.agg #[.int .i64 y1, .int .i64 y2, .int .i64 y3, .int .i64 y4], .bool t]) ?_ rfl ⟨rfl, hb1.trans ((hb2 _).mono hb1.size)⟩
  simp [results, Try.results12, go_sem, s0, s1, s2, s3]
set_option maxHeartbeats 2000000 in
theorem kDrop_any {F : Nat → Prop} {w : World} {p : Nat} {n r : Int} {l : List It} (id : Int) (h : QAt F w p n r l) (hl : l.length ≤ 1000) (hid : I64 id) : Calls Try.prog 14 #[ptr13 p, .int .i64 id] w fun e w' => e = .returned (.bool (findA l id).2) ∧ ∃ F', QAt F' w' p n r (cutI l id) ∧ Mv F F' w w' := by
  obtain ⟨Ff, Fg, mb, pf, pg, lf, lg, Sf, Sg, h1, h2, h3⟩ := h
  have hlen := h2.len
  have p3 := h1.blk.cell 3 rfl
  have HG := Lib.hid (hDrop_any id w h1.hg (by omega) hid)
  have HF := Lib.hid fun (w1 : World) (Fx : Nat → Prop) (hh : HeapAt Fx w1 pf Sf) => hDrop_any id w1 hh (by omega) hid
  have HH := Lib.hid h1
  have HI := Lib.hid hid
  have hQ2 := h2.drop id
  have h32 : ∀ x ∈ cutI lg id, ofA x n r < 1048575 := fun x hx => h3 x (List.mem_filter.1 hx).1
  have hhas := h2.has id
  have hcl := cut_len h2.ids (id := id)
  have hcg := gA_cut l id
  rw [gA_some] at hhas
  obtain ⟨t, ht⟩ : ∃ t, (findA l id).2 = t := ⟨_, rfl⟩
  rw [ht] at hhas ⊢
  have hgs : (gA l id).isSome = t := by rw [gA_some, ht]
  cases hg : hasT Sg id with
  | true =>
    have hfn := dropT_hasnt (h2.only hg)
    rw [hg] at HG hhas
    have ht2 : t = true := by rw [← hhas]; rfl
    subst ht2
    rw [hgs, if_pos rfl] at hcl
    rw [hfn] at hQ2
    have HQ2 := Lib.hid hQ2
    have H32 := Lib.hid h32
    have HCL := Lib.hid hcl
    have HCG := Lib.hid hcg
    have HGS := Lib.hid hgs
    clear h1 h2 h3 hl hid hlen hQ2 h32 hhas hcl hcg ht hgs hg hfn
    go_enter Try.func14, Try.ntmps14
    go_wp2_with (first
      | (go_at_call 29; (with_reducible refine HG.out.mono ?_); rintro e w1 ⟨rfl, F1, g1, g2⟩; have HR := Lib.hid (HH.out.growing g1 g2); have q2 := HR.out.1.blk.cell 2 rfl; clear g1 g2 p3)
      | (at_delete; refine wpList_delIt rfl rfl _ _ rfl rfl HR.out.1.map id HI.out rfl ?_; intro w2 hm2 hg2; rw [HGS.out, if_pos rfl, ← HCG.out, ← HCL.out] at hm2; have HR2 := Lib.hid (HR.out.1.mapped hm2 hg2); clear hm2 hg2 q2))
    go_ret
    exact ⟨rfl, _, ⟨_, _, _, _, _, _, _, _, _, HR2.out.1, HQ2.out, H32.out⟩, HR.out.2.trans HR2.out.2⟩
  | false =>
    have hgn := dropT_hasnt hg
    rw [hg] at HG hhas
    rw [hgn] at hQ2 HG
    cases hf : hasT Sf id with
    | true =>
      rw [hf] at HF hhas
      have ht2 : t = true := by rw [← hhas]; rfl
      subst ht2
      rw [hgs, if_pos rfl] at hcl
      have HQ2 := Lib.hid hQ2
      have H32 := Lib.hid h32
      have HCL := Lib.hid hcl
      have HCG := Lib.hid hcg
      have HGS := Lib.hid hgs
      clear h1 h2 h3 hl hid hlen hQ2 h32 hhas hcl hcg ht hgs hg hf hgn
      go_enter Try.func14, Try.ntmps14
      go_wp2_with (first
        | (go_at_call 29; (with_reducible refine HG.out.mono ?_); rintro e w1 ⟨rfl, F1, g1, g2⟩; have HR := Lib.hid (HH.out.growing g1 g2); have q4 := HR.out.1.blk.cell 4 rfl; clear g1 g2 p3)
        | (go_at_call 29; (with_reducible refine (HF.out _ _ HR.out.1.hf).mono ?_); rintro e w3 ⟨rfl, F3, g1, g2⟩; have HR3 := Lib.hid (HR.out.1.fulling g1 g2); have q2 := HR3.out.1.blk.cell 2 rfl; clear g1 g2 q4)
        | (at_delete; refine wpList_delIt rfl rfl _ _ rfl rfl HR3.out.1.map id HI.out rfl ?_; intro w2 hm2 hg2; rw [HGS.out, if_pos rfl, ← HCG.out, ← HCL.out] at hm2; have HR2 := Lib.hid (HR3.out.1.mapped hm2 hg2); clear hm2 hg2 q2))
      go_ret
      exact ⟨rfl, _, ⟨_, _, _, _, _, _, _, _, _, HR2.out.1, HQ2.out, H32.out⟩, (HR.out.2.trans HR3.out.2).trans HR2.out.2⟩
    | false =>
      have hfn := dropT_hasnt hf
      rw [hf] at HF hhas
      have ht2 : t = false := by rw [← hhas]; rfl
      subst ht2
      rw [hfn] at HF
      have hno : cutI l id = l := cut_no (gA_none (by cases hgl : gA l id with | none => rfl | some _ => rw [hgl] at hgs; cases hgs))
      rw [hno]
      have HQ2 := Lib.hid h2
      have H32 := Lib.hid h3
      clear h1 h2 h3 hl hid hlen hQ2 h32 hhas hcl hcg ht hgs hg hf hgn hfn hno
      go_enter Try.func14, Try.ntmps14
      go_wp2_with (first
        | (go_at_call 29; (with_reducible refine HG.out.mono ?_); rintro e w1 ⟨rfl, F1, g1, g2⟩; have HR := Lib.hid (HH.out.growing g1 g2); have q4 := HR.out.1.blk.cell 4 rfl; clear g1 g2 p3)
        | (go_at_call 29; (with_reducible refine (HF.out _ _ HR.out.1.hf).mono ?_); rintro e w3 ⟨rfl, F3, g1, g2⟩; have HR3 := Lib.hid (HR.out.1.fulling g1 g2); clear g1 g2 q4))
      go_ret
      exact ⟨rfl, _, ⟨_, _, _, _, _, _, _, _, _, HR3.out.1, HQ2.out, H32.out⟩, HR.out.2.trans HR3.out.2⟩
theorem kDrop_nil (id : Int) (w : World) : Calls Try.prog 14 #[.pointer none, .int .i64 id] w fun e w' => e = .returned (.bool false) ∧ Below w.heap.size w w' := by
  go_enter Try.func14, Try.ntmps14
  go_wp2
  go_ret
  exact ⟨rfl, Below.refl _ _⟩
end Go.Proofs.Ytkhnkhkpjgemkaa
