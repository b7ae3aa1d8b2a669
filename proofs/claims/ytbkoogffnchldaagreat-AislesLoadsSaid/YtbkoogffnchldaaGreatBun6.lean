/- Texts of this proof, joined: FqC; FqD; LkA; LkB; Nest. -/
import Derived.Test.YtbkoogffnchldaaGreatBun5
import Derived.Deep.WholeRow
import Derived.Deep.DeepCutAuto
/- Stage 18's program: New, Put, closeGap. -/
namespace Go.Proofs.YtbkoogffnchldaaGreat
open Go.RowKit

/-- a queue in memory, its blocks of F -/
def FqAt (F : Nat → Prop) (w : World) (v : Value) (q : Fq) : Prop :=
  ∃ p m R f, v = ptr18 p ∧ FqRaw w p m R f q.room q.l.length (setB q.l) ∧ RingIs R f q.l ∧ (q.l.Nodup ∧ ∀ x ∈ q.l, I64 x) ∧ (q.room ≤ 1024 ∧ (q.l.length : Int) ≤ q.room) ∧ F p ∧ F m ∧ ∀ k, F k → k < w.heap.size
theorem FqAt.same {F : Nat → Prop} {w w' : World} {v : Value} {q : Fq} (h : FqAt F w v q) (hz : w.heap.size ≤ w'.heap.size) (he : ∀ k, F k → w'.heap[k]? = w.heap[k]?) : FqAt F w' v q := by
  obtain ⟨p, m, R, f, rfl, h1, h2, h3, h4, h5, h6, h7⟩ := h
  exact ⟨p, m, R, f, rfl, h1.same (he p h5) (he m h6), h2, h3, h4, h5, h6, fun k hk => Nat.lt_of_lt_of_le (h7 k hk) hz⟩
theorem FqAt.lt {F : Nat → Prop} {w : World} {v : Value} {q : Fq} (h : FqAt F w v q) : ∀ k, F k → k < w.heap.size := by
  obtain ⟨p, m, R, f, rfl, h1, h2, h3, h4, h5, h6, h7⟩ := h
  exact h7

def zero18 (v : Value) : List Value := List.replicate 1024 (.int .i64 0) ++ [.int .i64 0, .int .i64 0, v]
theorem zero18_set (v v' : Value) (r : Int) (m : Nat) (h : v' = .map (some m)) : ((zero18 v).set 1025 (.int .i64 r)).set 1026 v' = qc (List.replicate 1024 0) 0 r m := by
  subst h
  unfold zero18 qc
  rw [List.set_append_right _ _ (by rw [List.length_replicate]; omega), List.set_append_right _ _ (by rw [List.length_replicate]; omega), List.length_replicate, List.map_replicate]
  rfl

set_option maxHeartbeats 2000000 in
set_option maxRecDepth 100000 in
theorem fNew_any (n : Int) (w : World) (hn : In18 n) : Calls Tryz.prog 71 #[.int .i64 n] w fun e w' => ∃ v F, e = .returned v ∧ FqAt F w' v ⟨clipF n, []⟩ ∧ (∀ k, F k → w.heap.size ≤ k) ∧ Below w.heap.size w w' := by
  obtain ⟨r, hr⟩ : ∃ r, clipF n = r := ⟨_, rfl⟩
  have hmm : min (max n 0) 1024 = r := by rw [← hr]; unfold clipF; omega
  have HR := Lib.hid (show 0 ≤ r ∧ r ≤ 1024 by rw [← hr]; unfold clipF; omega)
  rw [hr]
  obtain ⟨q, hq⟩ : ∃ q, max n 0 = q := ⟨_, rfl⟩
  rw [hq] at hmm
  have hmk : (Instr.makeMap 122 none).run Tryz.prog w = .ok (.map (some w.heap.size)) (w.alloc (.map #[] 0)) := by kernel_rfl
  obtain ⟨hz, _⟩ := zero_of_info (P := Tryz.prog) (t := 125) (v := .agg (zero18 (Value.map none)).toArray) (n := 1027) (by kernel_rfl)
  obtain ⟨Z, hZ⟩ : ∃ Z, zero18 (Value.map none) = Z := ⟨_, rfl⟩
  rw [hZ] at hz
  have hlen : Z.length = 1027 := by rw [← hZ]; rfl
  obtain ⟨Y, hY⟩ : ∃ Y, (Z.set 1025 (.int .i64 r)).set 1026 (.map (some w.heap.size)) = Y := ⟨_, rfl⟩
  have HY := Lib.hid (show qc (List.replicate 1024 0) 0 r w.heap.size = Y by rw [← hY, ← hZ]; exact (zero18_set _ _ _ _ rfl).symm)
  clear hZ
  have HN := Lib.hid hn
  clear hn hr
  go_enter Tryz.func71, Tryz.ntmps71
  go_wp2
  go_ret
  have hm := MapB.new w
  have hb := (Below.refl w.heap.size w).alloc (Nat.le_refl _) (.map #[] 0)
  have hb2 := hb.alloc hb.size (.cells Y.toArray 125)
  refine ⟨_, fun k => k = w.heap.size + 1 ∨ k = w.heap.size, rfl, ⟨w.heap.size + 1, w.heap.size, List.replicate 1024 0, 0, rfl, ⟨?_, ?_, List.length_replicate⟩, RingIs.nil List.length_replicate (by decide), ⟨List.nodup_nil, fun x hx => by cases hx⟩, ⟨HR.out.2, HR.out.1⟩, .inl rfl, .inr rfl, ?_⟩, ?_, hb2⟩
  · have := Blk.new (w.alloc (.map #[] 0)) Y 125
    rw [show (w.alloc (.map #[] 0)).heap.size = w.heap.size + 1 by simp] at this
    show Blk _ _ (qc (List.replicate 1024 0) 0 r w.heap.size)
    rw [HY.out]
    exact this
  · exact hm.kept ((Below.refl _ _).alloc (Nat.le_refl _) _)
  · intro k hk
    simp
    omega
  · intro k hk
    omega

section
variable {w w' : World} {p m : Nat} {R : List Int} {f : Nat} {room : Int} {n : Nat} {g : Int → Option Bool}
set_option maxHeartbeats 4000000 in
set_option maxRecDepth 100000 in
theorem fClose_any {F : Nat → Prop} {U : List Int} (at_ : Nat) (h : FqRaw w p m R f room n g) (hg : GapR R f U at_) (hF : F p) :
    Calls Tryz.prog 91 #[ptr18 p, .int .i64 (at_ : Int)] w fun e w' => e = .returned (.tuple #[]) ∧ ∃ R', FqRaw w' p m R' ((f + 1) % 1024) room n g ∧ RingIs R' ((f + 1) % 1024) U ∧ Only F w w' := by
  have H := Lib.hid h
  have HG := Lib.hid hg
  have HF := Lib.hid hF
  obtain ⟨e, he⟩ : ∃ e, (f + 1) % 1024 = e := ⟨_, rfl⟩
  rw [he]
  have HE := Lib.hid he
  clear h hg hF he
  go_enter Tryz.func91, Tryz.ntmps91
  go_wp2
  refine wp_scope_goto 0 (fun n' a' w' => ∃ R', FqRaw w' p m R' f room n g ∧ GapR R' f U n' ∧ Only F w w' ∧ ∃ u2 u3 u4 u5 u6 u7 u8 u9 u10 u11 u12 u13 u14 u15 u16 u17 u18 u19 u20 u21 u22 u23 u24 u25 u26 u27 u28, a' = { tmps := #[ptr18 p, .int .i64 (n' : Int), u2, u3, u4, u5, u6, u7, u8, u9, u10, u11, u12, u13, u14, u15, u16, u17, u18, u19, u20, u21, u22, u23, u24, u25, u26, u27, u28], defers := [] }) rfl rfl ?_ ?_
  · rintro j a' w' ⟨R', hq, hg, ho, u2, u3, u4, u5, u6, u7, u8, u9, u10, u11, u12, u13, u14, u15, u16, u17, u18, u19, u20, u21, u22, u23, u24, u25, u26, u27, u28, rfl⟩ K hK
    have HK := Lib.hid hK
    have hf := hg.fl
    have hle := hg.le
    have hj := hg.jl
    have HO := Lib.hid ho
    have HQ := Lib.hid hq
    cases j with
    | zero =>
      have PL := Lib.hid (show Calls Tryz.prog 96 #[ptr18 p, .int .i64 1] w' fun e w'' => e = .returned (.int .i64 (((f + 1) % 1024 : Nat) : Int)) ∧ w' = w'' from fPlace_any 1 hq hf (by omega))
      have HS := Lib.hid hg.stop
      have HM := Lib.hid (hq.move ((f + 1) % 1024))
      have HO2 := Lib.hid (ho.set ⟨p, 1024, none⟩ (.int .i64 (((f + 1) % 1024 : Nat) : Int)) HF.out)
      have z0 := hq.fst_free
      have c0 := hq.fst
      rw [HE.out] at PL HS HM HO2
      clear hK hq hg ho hf hle hj
      go_wp2_with (go_at_call 96; (with_reducible refine PL.out.mono ?_); rintro e w1 ⟨rfl, rfl⟩)
      simp only [Exit.jump]
      go_end0
      exact ⟨rfl, _, HM.out, HS.out, HO2.out⟩
    | succ j =>
      have e0 : ((j + 1 : Nat) : Int) = (j : Int) + 1 := by omega
      have PL1 := fun (w1 : World) (hb1 : Below w'.heap.size w' w1) => by have := fPlace_any (j + 1) (hq.kept hb1) hf (by omega); rw [e0] at this; exact Lib.hid this
      have PL0 := fun (w1 : World) (hb1 : Below w'.heap.size w' w1) => Lib.hid (fPlace_any j (hq.kept hb1) hf (by omega))
      rw [e0]
      have hat := hg.at_ j (by omega) (by omega)
      obtain ⟨y, hy⟩ : ∃ y, R'[(f + j) % 1024]? = some y := ⟨_, List.getElem?_eq_getElem (by rw [hg.len]; omega)⟩
      obtain ⟨z, hz⟩ : ∃ z, R'[(f + (j + 1)) % 1024]? = some z := ⟨_, List.getElem?_eq_getElem (by rw [hg.len]; omega)⟩
      have HS := Lib.hid (hg.step hy)
      obtain ⟨t, ht⟩ : ∃ t, (f + j) % 1024 = t := ⟨_, rfl⟩
      obtain ⟨s, hs⟩ : ∃ s, (f + (j + 1)) % 1024 = s := ⟨_, rfl⟩
      rw [ht] at hy PL0
      rw [hs] at hz PL1 HS
      have c0 := hq.ring hy
      have c1 := hq.ring hz
      have t0 : (0 : Int) ≤ (t : Int) := by omega
      have t1 : (t : Int) < 1024 := by omega
      have s0 : (0 : Int) ≤ (s : Int) := by omega
      have s1 : (s : Int) < 1024 := by omega
      have j0 : (0 : Int) ≤ (j : Int) := by omega
      have j1 : (j : Int) ≤ 1024 := by omega
      have HZ := Lib.hid hz
      have HSL := Lib.hid (show s < 1024 by omega)
      clear hK hq hg ho hf hle hj hat hy hz ht hs e0
      go_wp2
      refine wp_region_calmT 16 (by kernel_rfl) (by simp) (by kernel_rfl) fun M => ?_
      simp only [List.take_succ_cons, List.take_zero, List.drop_succ_cons, List.drop_zero]
      have m0 := fun n : In M.w => n.cell (M.cell c0)
      have m1 := fun n : In M.w => n.cell (M.cell c1)
      have P0 := fun n : In M.w => Lib.hid ((PL0 n.w (M.h.trans (n.h.mono M.h.size))).out)
      have P1 := fun n : In M.w => Lib.hid ((PL1 n.w (M.h.trans (n.h.mono M.h.size))).out)
      repeat (go_big_quiet_step (first
        | (go_at_call 96; with_reducible exact In.call_same (P0 _).out)
        | (go_at_call 96; with_reducible exact In.call_same (P1 _).out)))
      refine wpQuiet_nil ?_
      clear m0 m1 P0 P1 M c0 c1
      intro w2 hb2
      have hq2 := HQ.out.kept hb2
      have c1 := hq2.ring HZ.out
      have z1 := hq2.free HZ.out
      have HQ2 := Lib.hid (hq2.put HSL.out y)
      have HO2 := Lib.hid ((HO.out.trans (Only.of_below hb2)).set ⟨p, s, none⟩ (.int .i64 y) HF.out)
      clear hq2 hb2
      go_wp2
      go_step3
      exact ⟨rfl, HK.out j _ _ (by omega) ⟨_, HQ2.out, HS.out, HO2.out, _, _, _, _, _, _, _, _, _, _, _, _, _, _, _, _, _, _, _, _, _, _, _, _, _, _, _,  by first | rfl | (congr 1; go_num)⟩⟩
  · intro K hK
    have HK := Lib.hid hK
    clear hK
    go_wp2
    go_step3
    rename_i hback
    refine hback _ _ ?_
    exact HK.out _ _ _ ⟨R, H.out, HG.out, Only.refl _ _, _, _, _, _, _, _, _, _, _, _, _, _, _, _, _, _, _, _, _, _, _, _, _, _, _, _, _,  rfl⟩
end
end Go.Proofs.YtbkoogffnchldaaGreat
/- Stage 18's program: Put, Drop, Take; all contracts as one structure. -/
namespace Go.Proofs.YtbkoogffnchldaaGreat
open Go.RowKit

theorem putF_twice {l : List Int} {x : Int} (room : Int) (h : x ∈ l) : putF l room x = (l, 6) := if_pos h
theorem putF_full {l : List Int} {x room : Int} (h : x ∉ l) (hr : room ≤ (l.length : Int)) : putF l room x = (l, 9) := by unfold putF; rw [if_neg h, if_pos hr]
theorem putF_ok {l : List Int} {x room : Int} (h : x ∉ l) (hr : ¬ room ≤ (l.length : Int)) : putF l room x = (l ++ [x], 0) := by unfold putF; rw [if_neg h, if_neg hr]

set_option maxHeartbeats 4000000 in
set_option maxRecDepth 100000 in
theorem fPut_any {F : Nat → Prop} {w : World} {v : Value} {q : Fq} (x : Int) (h : FqAt F w v q) (hx : In18 x) :
    Calls Tryz.prog 83 #[v, .int .i64 x] w fun e w' => e = .returned (.int .i64 (putF q.l q.room x).2) ∧ ∃ F', FqAt F' w' v ⟨q.room, (putF q.l q.room x).1⟩ ∧ Mv F F' w w' := by
  have h0 := h
  obtain ⟨p, m, R, f, rfl, h1, h2, h3, h4, h5, h6, h7⟩ := h
  obtain ⟨room, l⟩ := q
  simp only at h1 h2 h3 h4 ⊢
  have H1 := Lib.hid (fHas_any x h1 hx)
  by_cases hin : x ∈ l
  · rw [putF_twice room hin]
    rw [inL_iff.2 hin] at H1
    have H0 := Lib.hid h0
    clear h0 h1 h2 h3 h4 h5 h6 h7 hx hin
    go_enter Tryz.func83, Tryz.ntmps83
    go_wp2_with (go_at_call 93; (with_reducible refine H1.out.mono ?_); rintro e w1 ⟨rfl, rfl⟩)
    go_ret
    exact ⟨rfl, F, H0.out, Mv.refl _ _⟩
  · rw [inL_not.2 hin] at H1
    have H2 := Lib.hid (fLen_any h1)
    have H3 := Lib.hid (fRoom_any h1)
    by_cases hr : room ≤ (l.length : Int)
    · rw [putF_full hin hr]
      have H0 := Lib.hid h0
      clear h0 h1 h2 h3 h4 h5 h6 h7 hx hin
      go_enter Tryz.func83, Tryz.ntmps83
      go_wp2_with (first
        | (go_at_call 93; (with_reducible refine H1.out.mono ?_); rintro e w1 ⟨rfl, rfl⟩)
        | (go_at_call 94; (with_reducible refine H2.out.mono ?_); rintro e w1 ⟨rfl, rfl⟩)
        | (go_at_call 95; (with_reducible refine H3.out.mono ?_); rintro e w1 ⟨rfl, rfl⟩))
      go_ret
      exact ⟨rfl, F, H0.out, Mv.refl _ _⟩
    · rw [putF_ok hin hr]
      have hl : l.length < 1024 := by omega
      have hf := h2.fl
      obtain ⟨z, hz⟩ : ∃ z, R[(f + l.length) % 1024]? = some z := ⟨_, List.getElem?_eq_getElem (by rw [h2.len]; omega)⟩
      have HP := Lib.hid (h2.put hl x)
      have PL := fun (w1 : World) (hb1 : Below w.heap.size w w1) => Lib.hid (fPlace_any l.length (h1.kept hb1) hf (by omega))
      have LL := fun (w1 : World) (hb1 : Below w.heap.size w w1) => Lib.hid (fLen_any (h1.kept hb1))
      obtain ⟨t, ht⟩ : ∃ t, (f + l.length) % 1024 = t := ⟨_, rfl⟩
      rw [ht] at hz HP PL
      have t0 : (0 : Int) ≤ (t : Int) := by omega
      have t1 : (t : Int) < 1024 := by omega
      have HT := Lib.hid (show t < 1024 by omega)
      have HZ := Lib.hid hz
      have HQ := Lib.hid h1
      have HX := Lib.hid hx
      have HL := Lib.hid hl
      have HN := Lib.hid hin
      have HF := Lib.hid (show F p ∧ F m ∧ ∀ k, F k → k < w.heap.size from ⟨h5, h6, h7⟩)
      have HD := Lib.hid h3
      have HR := Lib.hid (show room ≤ 1024 ∧ ¬ room ≤ (l.length : Int) from ⟨h4.1, hr⟩)
      clear h0 h1 h2 h3 h4 h5 h6 h7 hx hin hl hf hz ht
      go_enter Tryz.func83, Tryz.ntmps83
      go_wp2_with (first
        | (go_at_call 93; (with_reducible refine H1.out.mono ?_); rintro e w1 ⟨rfl, rfl⟩)
        | (go_at_call 94; (with_reducible refine H2.out.mono ?_); rintro e w1 ⟨rfl, rfl⟩)
        | (go_at_call 95; (with_reducible refine H3.out.mono ?_); rintro e w1 ⟨rfl, rfl⟩))
      refine wp_region_calmT 9 (by kernel_rfl) (by simp) (by kernel_rfl) fun M => ?_
      simp only [List.take_succ_cons, List.take_zero, List.drop_succ_cons, List.drop_zero]
      have P0 := fun n : In M.w => Lib.hid ((PL n.w (M.h.trans (n.h.mono M.h.size))).out)
      have P1 := fun n : In M.w => Lib.hid ((LL n.w (M.h.trans (n.h.mono M.h.size))).out)
      repeat (go_big_quiet_step (first
        | (go_at_call 96; with_reducible exact In.call_same (P0 _).out)
        | (go_at_call 94; with_reducible exact In.call_same (P1 _).out)))
      refine wpQuiet_nil ?_
      clear P0 P1 M
      intro w2 hb2
      have hq2 := HQ.out.kept hb2
      have c1 := hq2.ring HZ.out
      have z1 := hq2.free HZ.out
      have hq3 := hq2.put HT.out x
      have ho3 := (Only.of_below (F := F) hb2).set ⟨p, t, none⟩ (.int .i64 x) HF.out.1
      obtain ⟨w4, hrun, hm, hg⟩ := hq3.map.put (by have := HL.out; omega) HX.out true
      rw [setB_not HN.out, setB_put] at hm
      have c3 := hq3.in_
      have HQ4 := Lib.hid (hq3.mapped hm hg)
      have HO4 := Lib.hid (ho3.trans (Only.grown hg fun k hk => by cases hk; exact HF.out.2.1))
      clear hq2 hq3 ho3 hm hg hb2
      go_wp2
      go_ret
      refine ⟨rfl, F, ⟨p, m, _, f, rfl, ?_, HP.out, ⟨?_, ?_⟩, ⟨HR.out.1, ?_⟩, HF.out.1, HF.out.2.1, fun k hk => Nat.lt_of_lt_of_le (HF.out.2.2 k hk) HO4.out.size⟩, HO4.out, fun _ h => .inl h⟩
      · have := HQ4.out
        simp only [Option.isSome_none, Bool.false_eq_true, if_false] at this
        show FqRaw w4 p m (R.set t x) f room (l ++ [x]).length (setB (l ++ [x]))
        rw [List.length_append]
        exact this
      · rw [List.nodup_append]
        refine ⟨HD.out.1, by simp, fun a ha b hb e => ?_⟩
        rw [List.mem_singleton] at hb
        subst hb e
        exact HN.out ha
      · intro y hy
        rcases List.mem_append.1 hy with hy | hy
        · exact HD.out.2 y hy
        · rw [List.mem_singleton] at hy
          rw [hy]
          exact HX.out
      · have := HR.out.2
        simp
        omega
theorem fPut_nil (x : Int) (w : World) : Calls Tryz.prog 83 #[.pointer none, .int .i64 x] w fun e w' => e = .returned (.int .i64 9) ∧ Below w.heap.size w w' := by
  have H1 := Lib.hid (fHas_nil x w)
  have H2 := Lib.hid (fLen_nil w)
  have H3 := Lib.hid (fRoom_nil w)
  go_enter Tryz.func83, Tryz.ntmps83
  go_wp2_with (first
    | (go_at_call 93; (with_reducible refine H1.out.mono ?_); rintro e w1 ⟨rfl, rfl⟩)
    | (go_at_call 94; (with_reducible refine H2.out.mono ?_); rintro e w1 ⟨rfl, rfl⟩)
    | (go_at_call 95; (with_reducible refine H3.out.mono ?_); rintro e w1 ⟨rfl, rfl⟩))
  go_ret
  exact ⟨rfl, Below.refl _ _⟩

set_option maxHeartbeats 4000000 in
set_option maxRecDepth 100000 in
theorem fDrop_any {F : Nat → Prop} {w : World} {v : Value} {q : Fq} (x : Int) (h : FqAt F w v q) (hx : In18 x) :
    Calls Tryz.prog 81 #[v, .int .i64 x] w fun e w' => e = .returned (.bool (wasF q.l x)) ∧ ∃ F', FqAt F' w' v ⟨q.room, dropF q.l x⟩ ∧ Mv F F' w w' := by
  have h0 := h
  obtain ⟨p, m, R, f, rfl, h1, h2, h3, h4, h5, h6, h7⟩ := h
  obtain ⟨room, l⟩ := q
  simp only at h1 h2 h3 h4 ⊢
  have H1 := Lib.hid (fAt_any x h1 h2 hx)
  rw [wasF_iff]
  by_cases hin : x ∈ l
  · rw [inL_iff.2 hin]
    have hlt : l.idxOf x < l.length := List.idxOf_lt_length_iff.2 hin
    have hp : plcL l x = ((l.idxOf x : Nat) : Int) := if_pos hin
    rw [hp] at H1
    have hg := GapR.start h2 hlt
    rw [drop_erase h3.1] at hg
    have HDL := Lib.hid (show (dropF l x).length = l.length - 1 by rw [← drop_erase h3.1, List.length_eraseIdx_of_lt hlt])
    generalize l.idxOf x = j at *
    have hn : ((j : Int) == -1) = false := beq_noI (by omega)
    have H4 := fun (w1 : World) (hb1 : Below w.heap.size w w1) => Lib.hid (h1.kept hb1)
    have HI := Lib.hid hin
    have HX := Lib.hid hx
    have HG := Lib.hid hg
    have HF := Lib.hid (show F p ∧ F m ∧ ∀ k, F k → k < w.heap.size from ⟨h5, h6, h7⟩)
    have HD := Lib.hid h3
    have HR := Lib.hid h4
    clear h0 h1 h2 h3 h4 h5 h6 h7 hx hin hlt hp hg
    go_enter Tryz.func81, Tryz.ntmps81
    go_upto_region 4 with (go_at_call 90; (with_reducible refine H1.out.mono ?_); rintro e w1 ⟨rfl, hb1⟩)
    have hq1 := (H4 w1 hb1).out
    have c3 := hq1.in_
    have HQ1 := Lib.hid hq1
    have HO1 := Lib.hid (Only.of_below (F := F) hb1)
    clear hq1 hb1 H4
    go_wp2_with (first
      | (at_delete; refine wpList_delB rfl rfl _ _ rfl rfl HQ1.out.map x HX.out rfl ?_; intro w2 hm2 hg2; rw [setB_in HI.out, setB_del] at hm2; have HQ2 := Lib.hid (HQ1.out.mapped hm2 hg2); have HO2 := Lib.hid (HO1.out.trans (Only.grown hg2 fun k hk => by cases hk; exact HF.out.2.1)); clear hm2 hg2 c3)
      | (go_at_call 91; (with_reducible refine (fClose_any j HQ2.out HG.out HF.out.1).mono ?_); rintro e w3 ⟨rfl, R', k1, k2, k3⟩; have HQ3 := Lib.hid k1; have HR3 := Lib.hid k2; have HO3 := Lib.hid (HO2.out.trans k3); clear k1 k2 k3))
    go_ret
    refine ⟨rfl, F, ⟨p, m, R', _, rfl, ?_, HR3.out, ⟨drop_nodup HD.out.1 x, fun y hy => HD.out.2 y ((dropF_mem l x y).1 hy).1⟩, ⟨HR.out.1, ?_⟩, HF.out.1, HF.out.2.1, fun k hk => Nat.lt_of_lt_of_le (HF.out.2.2 k hk) HO3.out.size⟩, HO3.out, fun _ h => .inl h⟩
    · show FqRaw w3 p m R' _ room (dropF l x).length (setB (dropF l x))
      rw [HDL.out]
      exact HQ3.out
    · have := HR.out.2
      have := dropF_len l x
      simp only
      omega
  · rw [inL_not.2 hin]
    rw [drop_none hin]
    rw [plc_none hin] at H1
    have H0 := Lib.hid fun (w' : World) (hb : Below w.heap.size w w') => h0.same hb.size fun k hk => hb.block k (h0.lt k hk)
    clear h0 h1 h2 h3 h4 h5 h6 h7 hx hin
    go_enter Tryz.func81, Tryz.ntmps81
    go_wp2_with (go_at_call 90; (with_reducible refine H1.out.mono ?_); rintro e w1 ⟨rfl, hb1⟩)
    go_ret
    exact ⟨rfl, F, H0.out _ hb1, Mv.of_below hb1⟩
theorem fDrop_nil (x : Int) (w : World) : Calls Tryz.prog 81 #[.pointer none, .int .i64 x] w fun e w' => e = .returned (.bool false) ∧ Below w.heap.size w w' := by
  have H1 := Lib.hid (fAt_nil x w)
  go_enter Tryz.func81, Tryz.ntmps81
  go_wp2_with (go_at_call 90; (with_reducible refine H1.out.mono ?_); rintro e w1 ⟨rfl, hb1⟩)
  go_ret
  exact ⟨rfl, hb1⟩

set_option maxHeartbeats 2000000 in
theorem fTake_any {F : Nat → Prop} {w : World} {v : Value} {q : Fq} (h : FqAt F w v q) :
    Calls Tryz.prog 82 #[v] w fun e w' => e = .returned (.tuple #[.int .i64 (hdF q.l).1, .bool (hdF q.l).2]) ∧ ∃ F', FqAt F' w' v ⟨q.room, q.l.drop 1⟩ ∧ Mv F F' w w' := by
  have h0 := h
  obtain ⟨p, m, R, f, rfl, h1, h2, h3, h4, h5, h6, h7⟩ := h
  have H1 := Lib.hid (fFirst_any h1 h2)
  have ht : wasF q.l (hdF q.l).1 = (hdF q.l).2 ∧ dropF q.l (hdF q.l).1 = q.l.drop 1 ∧ In18 (hdF q.l).1 := by
    cases hq : q.l with
    | nil => exact ⟨rfl, rfl, by simp [hdF, In18]⟩
    | cons x t =>
      rw [hq] at h3
      exact ⟨(wasF_iff _ _).trans (inL_iff.2 List.mem_cons_self), drop_head h3.1, h3.2 x List.mem_cons_self⟩
  obtain ⟨t1, t2, t3⟩ := ht
  have H2 := Lib.hid fun (w1 : World) (hb : Below w.heap.size w w1) => fDrop_any (hdF q.l).1 (h0.same hb.size fun k hk => hb.block k (h0.lt k hk)) t3
  rw [t1, t2] at H2
  generalize (hdF q.l).1 = a at *
  generalize (hdF q.l).2 = b at *
  generalize q.l.drop 1 = T at *
  clear h0 h1 h2 h3 h4 h5 h6 h7 t1 t2 t3
  go_enter Tryz.func82, Tryz.ntmps82
  go_wp2_with (first
    | (go_at_call 92; (with_reducible refine H1.out.mono ?_); rintro e w1 ⟨rfl, hb1⟩)
    | (go_at_call 81; (with_reducible refine (H2.out _ hb1).mono ?_); rintro e w2 ⟨rfl, F', k1, k2⟩; have HQ := Lib.hid k1; have HM := Lib.hid ((Mv.of_below hb1).trans k2); clear k1 k2))
  exact bodyPost_ret (v := .tuple #[.int .i64 a, .bool b]) (by simp [results, Tryz.results82, go_sem]) rfl ⟨rfl, F', HQ.out, HM.out⟩
theorem fTake_nil (w : World) : Calls Tryz.prog 82 #[.pointer none] w fun e w' => e = .returned (.tuple #[.int .i64 0, .bool false]) ∧ Below w.heap.size w w' := by
  have H1 := Lib.hid (fFirst_nil w)
  have H2 := Lib.hid fun w => fDrop_nil 0 w
  go_enter Tryz.func82, Tryz.ntmps82
  go_wp2_with (first
    | (go_at_call 92; (with_reducible refine H1.out.mono ?_); rintro e w1 ⟨rfl, hb1⟩)
    | (go_at_call 81; (with_reducible refine (H2.out _).mono ?_); rintro e w2 ⟨rfl, hb2⟩))
  exact bodyPost_ret (v := .tuple #[.int .i64 0, .bool false]) (by simp [results, Tryz.results82, go_sem]) rfl ⟨rfl, hb1.trans (hb2.mono hb1.size)⟩

theorem quiet18 {P : Program} {f : Nat} {args : Array Value} {w : World} {v : Value} (h : Calls P f args w fun e w' => e = .returned v ∧ w = w') : Calls P f args w fun e w' => e = .returned v ∧ Below w.heap.size w w' :=
  h.mono fun _ _ ⟨h1, h2⟩ => ⟨h1, h2 ▸ Below.refl _ _⟩
/-- package fifo -/
def fProg : FifoProg where
  obj := ⟨FqAt, FqAt.same, FqAt.lt⟩
  new := fNew_any
  put := fun x h hx => fPut_any x h hx
  take := fun h => fTake_any h
  drop := fun x h hx => fDrop_any x h hx
  first := fun h => by
    obtain ⟨p, m, R, f, rfl, h1, h2, _⟩ := h
    exact fFirst_any h1 h2
  at_ := fun x h hx => by
    obtain ⟨p, m, R, f, rfl, h1, h2, _⟩ := h
    exact fAt_any x h1 h2 hx
  list := fun h => by
    obtain ⟨p, m, R, f, rfl, h1, h2, _⟩ := h
    exact fList_any h1 h2
  len := fun h => by
    obtain ⟨p, m, R, f, rfl, h1, h2, _⟩ := h
    exact quiet18 (fLen_any h1)
  room := fun h => by
    obtain ⟨p, m, R, f, rfl, h1, h2, _⟩ := h
    exact quiet18 (fRoom_any h1)
  put_nil := fPut_nil
  take_nil := fTake_nil
  drop_nil := fDrop_nil
  first_nil := fFirst_nil
  at_nil := fAt_nil
  len_nil := fun w => quiet18 (fLen_nil w)
  room_nil := fun w => quiet18 (fRoom_nil w)
end Go.Proofs.YtbkoogffnchldaaGreat
/- Stage 19's program: a lock in memory: its queue, its ID, its holder; all its contracts. -/
namespace Go.Proofs.YtbkoogffnchldaaGreat
open Go.RowKit

/-- a lock's block b, its queue at m in blocks of G -/
def LkAt (F : Nat → Prop) (w : World) (v : Value) (q : Lq) : Prop :=
  ∃ b m G, v = ptr18 b ∧ Blk w b [ptr18 m, .int .i64 q.id, .int .i64 q.holder] ∧ FqAt G w (ptr18 m) ⟨64, q.wait⟩ ∧ ¬ G b ∧ F b ∧ (∀ k, G k → F k) ∧ (∀ k, F k → k < w.heap.size) ∧ ∀ x ∈ q.wait, 1 ≤ x
theorem LkAt.same {F : Nat → Prop} {w w' : World} {v : Value} {q : Lq} (h : LkAt F w v q) (hz : w.heap.size ≤ w'.heap.size) (he : ∀ k, F k → w'.heap[k]? = w.heap[k]?) : LkAt F w' v q := by
  obtain ⟨b, m, G, rfl, h1, h2, h3, h4, h5, h6, h7⟩ := h
  exact ⟨b, m, G, rfl, h1.same (he b h4), h2.same hz fun k hk => he k (h5 k hk), h3, h4, h5, fun k hk => Nat.lt_of_lt_of_le (h6 k hk) hz, h7⟩
theorem LkAt.lt {F : Nat → Prop} {w : World} {v : Value} {q : Lq} (h : LkAt F w v q) : ∀ k, F k → k < w.heap.size := by
  obtain ⟨b, m, G, rfl, h1, h2, h3, h4, h5, h6, h7⟩ := h
  exact h6
theorem LkAt.kept {F : Nat → Prop} {w w' : World} {v : Value} {q : Lq} (h : LkAt F w v q) (hb : Below w.heap.size w w') : LkAt F w' v q := h.same hb.size fun k hk => hb.block k (h.lt k hk)
theorem FqAt.kept {F : Nat → Prop} {w w' : World} {v : Value} {q : Fq} (h : FqAt F w v q) (hb : Below w.heap.size w w') : FqAt F w' v q := h.same hb.size fun k hk => hb.block k (h.lt k hk)
/-- the queue has gone on, and the lock's own cells may be others -/
theorem LkAt.next {F G G' : Nat → Prop} {w w1 w2 : World} {b m : Nat} {id h : Int} {vs : List Value} {L : List Int} (h3 : ¬ G b) (h4 : F b) (h5 : ∀ k, G k → F k) (h6 : ∀ k, F k → k < w.heap.size) (hm : Mv G G' w w1) (ho : Only (fun k => k = b) w1 w2)
    (hb : Blk w2 b (ptr18 m :: .int .i64 id :: .int .i64 h :: vs)) (hq : FqAt G' w1 (ptr18 m) ⟨64, L⟩) (h7 : ∀ x ∈ L, 1 ≤ x) :
    ∃ F', LkAt F' w2 (ptr18 b) ⟨id, h, L⟩ ∧ Mv F F' w w2 := by
  have hbG : ¬ G' b := hm.off (h6 b h4) h3
  refine ⟨fun k => F k ∨ G' k, ⟨b, m, G', rfl, fun j u hu => hb j u ?_, hq.same ho.size fun k hk => ho.block k (hq.lt k hk) (fun e => hbG (e ▸ hk)), hbG, .inl h4, fun k hk => .inr hk, fun k hk => ?_, h7⟩, ?_, fun k hk => ?_⟩
  · match j, hu with
    | 0, hu => exact hu
    | 1, hu => exact hu
    | 2, hu => exact hu
    | _ + 3, hu => cases hu
  · have h8 := hm.only.size
    have h9 := ho.size
    rcases hk with hk | hk
    · have := h6 k hk
      omega
    · have := hq.lt k hk
      omega
  · exact (hm.only.mono h5).trans (ho.mono fun k hk => hk ▸ h4)
  · rcases hk with hk | hk
    · exact .inl hk
    · rcases hm.sub k hk with h | h
      · exact .inl (h5 k h)
      · exact .inr h

/-- those that wait, by value -/
abbrev wtv (m : Nat) : Value := .agg #[ptr18 m]
section
variable {w : World} {m : Nat} {L : List Int} {G : Nat → Prop}
set_option maxHeartbeats 2000000 in
theorem lkQueueUp_any (t : Int) (hq : FqAt G w (ptr18 m) ⟨64, L⟩) (ht : In18 t) : Calls Tryz.prog 73 #[wtv m, .int .i64 t] w fun e w' => e = .returned (.int .i64 (putF L 64 t).2) ∧ ∃ G', FqAt G' w' (ptr18 m) ⟨64, (putF L 64 t).1⟩ ∧ Mv G G' w w' := by
  have b1 := (Below.refl w.heap.size w).alloc (Nat.le_refl _) (.cells #[ptr18 m] 114)
  have H := Lib.hid (fPut_any t (hq.kept b1) ht)
  have c0 := (Blk.new w [ptr18 m] 114).cell 0 rfl
  have HB := Lib.hid b1
  generalize (putF L 64 t).1 = L' at *
  generalize (putF L 64 t).2 = r at *
  clear b1 hq ht
  go_enter Tryz.func73, Tryz.ntmps73
  go_wp2_with (go_at_call 83; (with_reducible refine H.out.mono ?_); rintro e w1 ⟨rfl, G', k1, k2⟩; have HQ := Lib.hid k1; have HM := Lib.hid ((Mv.of_below HB.out).trans k2); clear k1 k2)
  go_ret
  exact ⟨rfl, G', HQ.out, HM.out⟩
set_option maxHeartbeats 2000000 in
theorem lkCallNext_any (hq : FqAt G w (ptr18 m) ⟨64, L⟩) : Calls Tryz.prog 70 #[wtv m] w fun e w' => e = .returned (.tuple #[.int .i64 (hdF L).1, .bool (hdF L).2]) ∧ ∃ G', FqAt G' w' (ptr18 m) ⟨64, L.drop 1⟩ ∧ Mv G G' w w' := by
  have b1 := (Below.refl w.heap.size w).alloc (Nat.le_refl _) (.cells #[ptr18 m] 114)
  have H := Lib.hid (fTake_any (hq.kept b1))
  have c0 := (Blk.new w [ptr18 m] 114).cell 0 rfl
  have HB := Lib.hid b1
  simp only at H
  generalize (hdF L).1 = x at *
  generalize (hdF L).2 = r at *
  generalize L.drop 1 = L' at *
  clear b1 hq
  go_enter Tryz.func70, Tryz.ntmps70
  go_wp2_with (go_at_call 82; (with_reducible refine H.out.mono ?_); rintro e w1 ⟨rfl, G', k1, k2⟩; have HQ := Lib.hid k1; have HM := Lib.hid ((Mv.of_below HB.out).trans k2); clear k1 k2)
  exact bodyPost_ret (v := .tuple #[.int .i64 x, .bool r]) (by simp [results, Tryz.results70, go_sem]) rfl ⟨rfl, G', HQ.out, HM.out⟩
set_option maxHeartbeats 2000000 in
theorem lkGiveUp_any (t : Int) (hq : FqAt G w (ptr18 m) ⟨64, L⟩) (ht : In18 t) : Calls Tryz.prog 68 #[wtv m, .int .i64 t] w fun e w' => e = .returned (.bool (wasF L t)) ∧ ∃ G', FqAt G' w' (ptr18 m) ⟨64, dropF L t⟩ ∧ Mv G G' w w' := by
  have b1 := (Below.refl w.heap.size w).alloc (Nat.le_refl _) (.cells #[ptr18 m] 114)
  have H := Lib.hid (fDrop_any t (hq.kept b1) ht)
  have c0 := (Blk.new w [ptr18 m] 114).cell 0 rfl
  have HB := Lib.hid b1
  simp only at H
  generalize wasF L t = r at *
  generalize dropF L t = L' at *
  clear b1 hq ht
  go_enter Tryz.func68, Tryz.ntmps68
  go_wp2_with (go_at_call 81; (with_reducible refine H.out.mono ?_); rintro e w1 ⟨rfl, G', k1, k2⟩; have HQ := Lib.hid k1; have HM := Lib.hid ((Mv.of_below HB.out).trans k2); clear k1 k2)
  go_ret
  exact ⟨rfl, G', HQ.out, HM.out⟩
set_option maxHeartbeats 2000000 in
theorem lkInOrder_any (hq : FqAt G w (ptr18 m) ⟨64, L⟩) : Calls Tryz.prog 75 #[wtv m] w fun e w' => ∃ v, e = .returned v ∧ OwnO w' 1 csI v L ∧ (∀ g, v.ownBlock = some g → w.heap.size ≤ g) ∧ Below w.heap.size w w' := by
  have b1 := (Below.refl w.heap.size w).alloc (Nat.le_refl _) (.cells #[ptr18 m] 114)
  have H := Lib.hid (show Calls Tryz.prog 85 #[ptr18 m] _ _ from by
    obtain ⟨p, m1, R, f, e, h1, h2, _⟩ := hq.kept b1
    obtain rfl : m = p := by simpa [ptr18] using e
    exact fList_own h1 h2)
  have c0 := (Blk.new w [ptr18 m] 114).cell 0 rfl
  have HB := Lib.hid b1
  clear b1 hq
  go_enter Tryz.func75, Tryz.ntmps75
  go_wp2_with (go_at_call 85; (with_reducible refine H.out.mono ?_); rintro e w1 ⟨v, rfl, h, hb⟩; have HI := Lib.hid (And.intro (OwnR.own h) (fun g hg => Nat.le_trans HB.out.size (World.ownsRow.lt h g hg).1)); have HB2 := Lib.hid (HB.out.trans (hb.mono HB.out.size)); clear h hb)
  go_ret
  exact ⟨_, rfl, HI.out.1, HI.out.2, HB2.out⟩
end

set_option maxHeartbeats 2000000 in
theorem lkNew_any (id : Int) (w : World) : Calls Tryz.prog 50 #[.int .i64 id] w fun e w' => ∃ p F, e = .returned p ∧ LkAt F w' p ⟨id, 0, []⟩ ∧ (∀ k, F k → w.heap.size ≤ k) ∧ Below w.heap.size w w' := by
  have H := Lib.hid fun w => fNew_any 64 w (by simp [In18])
  go_enter Tryz.func50, Tryz.ntmps50
  go_wp2_with (go_at_call 71; (with_reducible refine (H.out _).mono ?_); rintro e w1 ⟨v, G, rfl, h1, h2, h3⟩; obtain ⟨m, hm⟩ : ∃ m, v = ptr18 m := by { obtain ⟨m, _, _, _, rfl, _⟩ := h1; exact ⟨m, rfl⟩ }; subst hm; have HQ := Lib.hid h1; have HG := Lib.hid h2; have HB := Lib.hid h3; clear h1 h2 h3)
  go_ret
  have b1 := (Below.refl w1.heap.size w1).alloc (Nat.le_refl _) (.cells #[ptr18 m, .int .i64 id, .int .i64 0] 116)
  have hz : w.heap.size ≤ w1.heap.size := HB.out.size
  refine ⟨_, fun k => k = w1.heap.size ∨ G k, rfl, ⟨w1.heap.size, m, G, rfl, Blk.new w1 _ _, HQ.out.kept b1, fun h => Nat.lt_irrefl _ (HQ.out.lt _ h), .inl rfl, fun k hk => .inr hk, fun k hk => ?_, fun x hx => by cases hx⟩, fun k hk => ?_, HB.out.trans (b1.mono hz)⟩
  · rcases hk with rfl | hk
    · simp
    · have := HQ.out.lt k hk
      simp
      omega
  · rcases hk with rfl | hk
    · exact hz
    · exact HG.out k hk

set_option maxHeartbeats 4000000 in
set_option maxRecDepth 100000 in
theorem lkAsk_any {F : Nat → Prop} {w : World} {v : Value} {q : Lq} (t : Int) (h : LkAt F w v q) (ht : In18 t) :
    Calls Tryz.prog 55 #[v, .int .i64 t] w fun e w' => e = .returned (.int .i64 (askL q.holder q.wait t).2) ∧ ∃ F', LkAt F' w' v ⟨q.id, q.holder, (askL q.holder q.wait t).1⟩ ∧ Mv F F' w w' := by
  have h0 := h
  obtain ⟨b, m, G, rfl, h1, h2, h3, h4, h5, h6, h7⟩ := h
  obtain ⟨id, hd, L⟩ := q
  simp only at h1 h2 h7 h0 ⊢
  have c0 := h1.cell 0 rfl
  have c2 := h1.cell 2 rfl
  have H0 := Lib.hid h0
  by_cases e1 : t < 1
  · have ea : askL hd L t = (L, 1) := by unfold askL; rw [if_pos e1]
    rw [ea]
    clear ea h0 h1 h2 h3 h4 h5 h6 h7 ht
    go_enter Tryz.func55, Tryz.ntmps55
    go_wp2
    go_ret
    exact ⟨rfl, F, H0.out, Mv.refl _ _⟩
  by_cases e2 : t = hd
  · subst e2
    have ea : askL t L t = (L, 6) := by unfold askL; rw [if_neg e1, if_pos (.inl rfl)]
    rw [ea]
    clear ea h0 h1 h2 h3 h4 h5 h6 h7 ht
    go_enter Tryz.func55, Tryz.ntmps55
    go_wp2
    go_ret
    exact ⟨rfl, F, H0.out, Mv.refl _ _⟩
  · have ea : askL hd L t = putF L 64 t := by
      unfold askL putF
      rw [if_neg e1]
      by_cases e3 : t ∈ L
      · rw [if_pos (.inr e3), if_pos e3]
      · rw [if_neg (fun h => h.elim (fun h => e2 h.symm) e3), if_neg e3]
        by_cases e4 : 64 ≤ L.length
        · rw [if_pos e4, if_pos (by omega)]
        · rw [if_neg e4, if_neg (by omega)]
    have hp : ∀ x ∈ (putF L 64 t).1, 1 ≤ x := by
      intro x hx
      unfold putF at hx
      split at hx
      · exact h7 x hx
      · split at hx
        · exact h7 x hx
        · rcases List.mem_append.1 hx with hx | hx
          · exact h7 x hx
          · rw [List.mem_singleton] at hx
            omega
    rw [ea]
    have H := Lib.hid (lkQueueUp_any t h2 ht)
    have e2b : (t == hd) = false := beq_noI e2
    generalize (putF L 64 t).1 = L' at *
    generalize (putF L 64 t).2 = r at *
    have HK := Lib.hid (And.intro h1 (And.intro h3 (And.intro h4 (And.intro h5 (And.intro h6 hp)))))
    clear ea h0 h1 h2 h3 h4 h5 h6 h7 hp ht e2 H0
    go_enter Tryz.func55, Tryz.ntmps55
    go_wp2_with (go_at_call 73; (with_reducible refine H.out.mono ?_); rintro e w1 ⟨rfl, G', k1, k2⟩; have HQ := Lib.hid k1; have HM := Lib.hid k2; clear k1 k2)
    go_ret
    obtain ⟨h1, h3, h4, h5, h6, hp⟩ := HK.out
    exact ⟨rfl, LkAt.next h3 h4 h5 h6 HM.out (Only.refl _ _) (h1.same (HM.out.only.block b (h6 b h4) h3)) HQ.out hp⟩
theorem lkAsk_nil (t : Int) (w : World) : Calls Tryz.prog 55 #[.pointer none, .int .i64 t] w fun e w' => e = .returned (.int .i64 9) ∧ Below w.heap.size w w' := by
  go_enter Tryz.func55, Tryz.ntmps55
  go_wp2
  go_ret
  exact ⟨rfl, Below.refl _ _⟩

set_option maxHeartbeats 4000000 in
set_option maxRecDepth 100000 in
theorem lkGrant_any {F : Nat → Prop} {w : World} {v : Value} {q : Lq} (h : LkAt F w v q) :
    Calls Tryz.prog 46 #[v] w fun e w' => e = .returned (.tuple #[.int .i64 (grantL q.holder q.wait).2.2.1, .bool (grantL q.holder q.wait).2.2.2]) ∧ ∃ F', LkAt F' w' v ⟨q.id, (grantL q.holder q.wait).1, (grantL q.holder q.wait).2.1⟩ ∧ Mv F F' w w' := by
  have h0 := h
  obtain ⟨b, m, G, rfl, h1, h2, h3, h4, h5, h6, h7⟩ := h
  obtain ⟨id, hd, L⟩ := q
  simp only at h1 h2 h7 h0 ⊢
  have c0 := h1.cell 0 rfl
  have c2 := h1.cell 2 rfl
  have H0 := Lib.hid h0
  by_cases e1 : hd = 0
  · subst e1
    have H := Lib.hid (lkCallNext_any h2)
    have HK := Lib.hid (And.intro h1 (And.intro h3 (And.intro h4 (And.intro h5 (And.intro h6 h7)))))
    cases L with
    | nil =>
      have ea : grantL 0 [] = (0, [], 0, false) := by simp [grantL]
      rw [ea]
      simp only [hdF, List.drop_nil] at H
      clear ea h0 h1 h2 h3 h4 h5 h6 h7 H0
      go_enter Tryz.func46, Tryz.ntmps46
      go_wp2_with (go_at_call 70; (with_reducible refine H.out.mono ?_); rintro e w1 ⟨rfl, G', k1, k2⟩; have HQ := Lib.hid k1; have HM := Lib.hid k2; clear k1 k2)
      obtain ⟨h1, h3, h4, h5, h6, hp⟩ := HK.out
      exact bodyPost_ret (v := .tuple #[.int .i64 0, .bool false]) (by simp [results, Tryz.results46, go_sem]) rfl ⟨rfl, LkAt.next h3 h4 h5 h6 HM.out (Only.refl _ _) (h1.same (HM.out.only.block b (h6 b h4) h3)) HQ.out hp⟩
    | cons x T =>
      have ea : grantL 0 (x :: T) = (x, T, x, true) := by simp [grantL]
      rw [ea]
      simp only [hdF, List.drop_succ_cons, List.drop_zero] at H
      clear ea h0 h1 h2 h3 h4 h5 h6 h7 H0
      go_enter Tryz.func46, Tryz.ntmps46
      go_upto_region 5 with (go_at_call 70; (with_reducible refine H.out.mono ?_); rintro e w1 ⟨rfl, G', k1, k2⟩; have HQ := Lib.hid k1; have HM := Lib.hid k2; clear k1 k2)
      obtain ⟨h1, h3, h4, h5, h6, hp⟩ := HK.out
      have g1 := h1.same (HM.out.only.block b (h6 b h4) h3)
      have z2 := g1.free 2 rfl
      have c2' := g1.cell 2 rfl
      have HF := Lib.hid (LkAt.next h3 h4 h5 h6 HM.out ((Only.refl (fun k => k = b) w1).set ⟨b, 2, none⟩ (.int .i64 x) rfl) (g1.set 2 (.int .i64 x)) HQ.out fun y hy => hp y (List.mem_cons_of_mem _ hy))
      clear c0 c2 h1 h3 h4 h5 h6 hp g1 HK HQ HM H
      go_wp2
      exact bodyPost_ret (v := .tuple #[.int .i64 x, .bool true]) (by simp [results, Tryz.results46, go_sem]) rfl ⟨rfl, HF.out⟩
  · have ea : grantL hd L = (hd, L, 0, false) := by unfold grantL; rw [if_neg e1]
    have e2 : (hd != 0) = true := by simp [e1]
    rw [ea]
    clear ea h0 h1 h2 h3 h4 h5 h6 h7 e1
    go_enter Tryz.func46, Tryz.ntmps46
    go_wp2
    exact bodyPost_ret (v := .tuple #[.int .i64 0, .bool false]) (by simp [results, Tryz.results46, go_sem]) rfl ⟨rfl, F, H0.out, Mv.refl _ _⟩
theorem lkGrant_nil (w : World) : Calls Tryz.prog 46 #[.pointer none] w fun e w' => e = .returned (.tuple #[.int .i64 0, .bool false]) ∧ Below w.heap.size w w' := by
  go_enter Tryz.func46, Tryz.ntmps46
  go_wp2
  exact bodyPost_ret (v := .tuple #[.int .i64 0, .bool false]) (by simp [results, Tryz.results46, go_sem]) rfl ⟨rfl, Below.refl _ _⟩

set_option maxHeartbeats 4000000 in
set_option maxRecDepth 100000 in
theorem lkLeave_any {F : Nat → Prop} {w : World} {v : Value} {q : Lq} (t : Int) (h : LkAt F w v q) (ht : In18 t) :
    Calls Tryz.prog 42 #[v, .int .i64 t] w fun e w' => e = .returned (.int .i64 (leaveL q.holder q.wait t).2.2) ∧ ∃ F', LkAt F' w' v ⟨q.id, (leaveL q.holder q.wait t).1, (leaveL q.holder q.wait t).2.1⟩ ∧ Mv F F' w w' := by
  have h0 := h
  obtain ⟨b, m, G, rfl, h1, h2, h3, h4, h5, h6, h7⟩ := h
  obtain ⟨id, hd, L⟩ := q
  simp only at h1 h2 h7 h0 ⊢
  have c0 := h1.cell 0 rfl
  have c2 := h1.cell 2 rfl
  have z2 := h1.free 2 rfl
  have H0 := Lib.hid h0
  by_cases e1 : t < 1
  · have ea : leaveL hd L t = (hd, L, 0) := by
      unfold leaveL
      rw [if_neg (fun h => by omega), wasF_iff, inL_not.2 (fun h => by have := h7 t h; omega)]
      rfl
    rw [ea]
    clear ea h0 h1 h2 h3 h4 h5 h6 h7 ht
    go_enter Tryz.func42, Tryz.ntmps42
    go_wp2
    go_ret
    exact ⟨rfl, F, H0.out, Mv.refl _ _⟩
  by_cases e2 : t = hd
  · subst e2
    have ea : leaveL t L t = (0, L, 2) := by unfold leaveL; rw [if_pos ⟨by omega, rfl⟩]
    rw [ea]
    have HF := Lib.hid (LkAt.next h3 h4 h5 h6 (Mv.refl G w) ((Only.refl (fun k => k = b) w).set ⟨b, 2, none⟩ (.int .i64 0) rfl) (h1.set 2 (.int .i64 0)) h2 h7)
    clear ea h0 h1 h2 h3 h4 h5 h6 h7 ht
    go_enter Tryz.func42, Tryz.ntmps42
    go_wp2
    go_ret
    exact ⟨rfl, HF.out⟩
  · have e2b : (t == hd) = false := beq_noI e2
    have H := Lib.hid (lkGiveUp_any t h2 ht)
    have hp : ∀ x ∈ dropF L t, 1 ≤ x := fun x hx => h7 x ((dropF_mem L t x).1 hx).1
    have ea : leaveL hd L t = (hd, dropF L t, if wasF L t then 1 else 0) := by
      unfold leaveL
      rw [if_neg (fun h => e2 h.2.symm)]
      by_cases e3 : t ∈ L
      · rw [wasF_iff, inL_iff.2 e3]
        rfl
      · rw [wasF_iff, inL_not.2 e3, drop_none e3]
        rfl
    rw [ea]
    generalize dropF L t = L' at *
    generalize wasF L t = r at *
    have HK := Lib.hid (And.intro h1 (And.intro h3 (And.intro h4 (And.intro h5 (And.intro h6 hp)))))
    clear ea h0 h1 h2 h3 h4 h5 h6 h7 hp ht e2 H0
    cases r <;> simp only [if_true, Bool.false_eq_true, if_false]
    all_goals
      go_enter Tryz.func42, Tryz.ntmps42
      go_wp2_with (go_at_call 68; (with_reducible refine H.out.mono ?_); rintro e w1 ⟨rfl, G', k1, k2⟩; have HQ := Lib.hid k1; have HM := Lib.hid k2; clear k1 k2)
      go_ret
      obtain ⟨h1, h3, h4, h5, h6, hp⟩ := HK.out
      exact ⟨rfl, LkAt.next h3 h4 h5 h6 HM.out (Only.refl _ _) (h1.same (HM.out.only.block b (h6 b h4) h3)) HQ.out hp⟩
theorem lkLeave_nil (t : Int) (w : World) : Calls Tryz.prog 42 #[.pointer none, .int .i64 t] w fun e w' => e = .returned (.int .i64 0) ∧ Below w.heap.size w w' := by
  go_enter Tryz.func42, Tryz.ntmps42
  go_wp2
  go_ret
  exact ⟨rfl, Below.refl _ _⟩

end Go.Proofs.YtbkoogffnchldaaGreat
/- Stage 19's program: View; package lock as a whole. -/
namespace Go.Proofs.YtbkoogffnchldaaGreat
open Go.RowKit

set_option maxHeartbeats 4000000 in
set_option maxRecDepth 100000 in
theorem lkViewN_any {F : Nat → Prop} {w : World} {v : Value} {q : Lq} (h : LkAt F w v q) : Calls Tryz.prog 58 #[v] w fun e w' => ∃ v, e = .returned (lkv q.id q.holder v) ∧ IntsAt w' v q.wait ∧ (∀ k, v.ownBlock = some k → w.heap.size ≤ k) ∧ Below w.heap.size w w' := by
  obtain ⟨b, m, G, rfl, h1, h2, h3, h4, h5, h6, h7⟩ := h
  obtain ⟨id, hd, L⟩ := q
  simp only at h1 h2 ⊢
  have b1 := (Below.refl w.heap.size w).alloc (Nat.le_refl _) (.cells #[.int .i64 0, .int .i64 0, .slice none 0 0] 31)
  have hY := Blk.new w [.int .i64 0, .int .i64 0, .slice none 0 0] 31
  have g1 := h1.kept b1
  have H := Lib.hid fun (w1 : World) (hb : Below (w.alloc (.cells #[.int .i64 0, .int .i64 0, .slice none 0 0] 31)).heap.size (w.alloc (.cells #[.int .i64 0, .int .i64 0, .slice none 0 0] 31)) w1) => lkInOrder_any ((h2.kept b1).kept hb)
  obtain ⟨n, hn⟩ : ∃ n, L.length = n := ⟨_, rfl⟩
  have HN := Lib.hid hn.symm
  have HB := Lib.hid b1
  have HY := Lib.hid hY
  have x0 := h1.cell 0 rfl
  have x1 := h1.cell 1 rfl
  have x2 := h1.cell 2 rfl
  have c0 := g1.cell 0 rfl
  have c1 := g1.cell 1 rfl
  have c2 := g1.cell 2 rfl
  clear h1 h2 h3 h4 h5 h6 h7 hn b1 hY g1
  go_enter Tryz.func58, Tryz.ntmps58
  go_upto_region 3 with fail
  have HZ := Lib.hid (show (w.alloc (.cells #[.int .i64 0, .int .i64 0, .slice none 0 0] 31)).heap.size = w.heap.size + 1 by simp)
  generalize w.alloc (.cells #[.int .i64 0, .int .i64 0, .slice none 0 0] 31) = w1 at *
  refine wp_region_chain 14 [.calm 12, .own (Lk.list (w.heap.size + 1) 1 csI n L), .calm 1] [12] rfl (by kernel_rfl) (by simp) (by kernel_rfl) (by kernel_rfl) ?_
  simp only [List.take_succ_cons, List.take_zero, List.drop_succ_cons, List.drop_zero]
  refine ⟨by simp, fun M => ?_⟩
  simp only [List.take_succ_cons, List.take_zero, List.drop_succ_cons, List.drop_zero]
  have k0 := fun n : In M.w => n.cell (M.cell c0)
  have k1 := fun n : In M.w => n.cell (M.cell c1)
  have k2 := fun n : In M.w => n.cell (M.cell c2)
  repeat (go_big_quiet_step (fail))
  refine wpQuiet_nil ?_
  clear k0 k1 k2 M
  refine ⟨rfl, Lk.at_call HZ.out (f := 75) (args := #[wtv m]) n L HN.out (fun k => by simp [go_sem]) (fun k => H.out k.w k.h), fun y A hA => ?_⟩
  simp [Act.put, Lk.list] at hA
  subst hA
  refine ⟨by simp, fun M => ?_⟩
  simp only [List.take_succ_cons, List.take_zero, List.drop_succ_cons, List.drop_zero]
  repeat (go_big_quiet_step (fail))
  refine wpQuiet_nil ?_
  clear M
  refine ⟨rfl, fun w5 hb5 h5 => ?_⟩
  obtain ⟨y1, y2⟩ := y
  have HI := Lib.hid (show OwnO w5 1 csI (.slice y1 n y2) L ∧ ∀ g, (Value.slice y1 n y2).ownBlock = some g → w.heap.size + 1 ≤ g from h5)
  have hy := HY.out.kept hb5
  have f0 := hy.free 0 rfl
  have f1 := hy.free 1 rfl
  have f2 := hy.free 2 rfl
  have d0 := hy.cell 0 rfl
  have d1 := hy.cell 1 rfl
  have d2 := hy.cell 2 rfl
  have ht := ((hy.set 0 (.int .i64 id)).set 1 (.int .i64 hd)).set 2 (.slice y1 n y2)
  have HT := Lib.hid ht
  have HB5 := Lib.hid hb5
  clear hb5 h5 hy ht c0 c1 c2 x0 x1 x2
  go_wp2
  have HBF := Lib.hid ((((HB.out.trans (HB5.out.mono HB.out.size)).setCell (p := ⟨w.heap.size, 0, none⟩) (by simp) (.int .i64 id)).setCell (p := ⟨w.heap.size, 1, none⟩) (by simp) (.int .i64 hd)).setCell (p := ⟨w.heap.size, 2, none⟩) (by simp) (.slice y1 n y2))
  have r0 := HT.out.cell 0 rfl
  have r1 := HT.out.cell 1 rfl
  have r2 := HT.out.cell 2 rfl
  refine bodyPost_ret (v := lkv id hd (.slice y1 n y2)) ?_ rfl ⟨_, rfl, ?_, fun k hk => Nat.le_of_succ_le (HI.out.2 k hk), HBF.out⟩
  · simp [results, Tryz.results58, go_sem, r0, r1, r2]
  · have hne : ∀ g, (Value.slice y1 n y2).ownBlock = some g → g ≠ w.heap.size := fun g hg => by
      have := HI.out.2 g hg
      omega
    exact RowsAt.ints (OwnO.rows csI_len (((HI.out.1.away ⟨w.heap.size, 0, none⟩ (.int .i64 id) hne).away ⟨w.heap.size, 1, none⟩ (.int .i64 hd) hne).away ⟨w.heap.size, 2, none⟩ (.slice y1 n y2) hne))
theorem lkView_any {F : Nat → Prop} {w : World} {v : Value} {q : Lq} (h : LkAt F w v q) : Calls Tryz.prog 58 #[v] w fun e w' => ∃ v, e = .returned (lkv q.id q.holder v) ∧ IntsAt w' v q.wait ∧ Below w.heap.size w w' := by
  refine (lkViewN_any h).mono ?_
  rintro e w' ⟨v, h1, h2, _, h3⟩
  exact ⟨v, h1, h2, h3⟩
theorem lkView_nil (w : World) : Calls Tryz.prog 58 #[.pointer none] w fun e w' => ∃ v, e = .returned (lkv 0 0 v) ∧ Below w.heap.size w w' := by
  have b1 := (Below.refl w.heap.size w).alloc (Nat.le_refl _) (.cells #[.int .i64 0, .int .i64 0, .slice none 0 0] 31)
  go_enter Tryz.func58, Tryz.ntmps58
  go_wp2
  refine bodyPost_ret (v := lkv 0 0 (.slice none 0 0)) ?_ rfl ⟨_, rfl, b1⟩
  simp [results, Tryz.results58, go_sem]

end Go.Proofs.YtbkoogffnchldaaGreat
/- Stage 20: lists of locks and of seats (structs that hold a list of numbers each); a table as a value; the document's small looks. -/
namespace Go.Proofs.YtbkoogffnchldaaGreat
open Go.RowKit

/-- a lock in a list: its own list's header, and what stands there -/
structure Lr where
  id : Int
  holder : Int
  a : Option Addr
  c : Nat
  wait : List Int
deriving Inhabited
structure Sr where
  token : Int
  got : Int
  a : Option Addr
  c : Nat
  want : List Int
deriving Inhabited
abbrev Lr.v (x : Lr) : Value := .slice x.a x.wait.length x.c
abbrev Sr.v (x : Sr) : Value := .slice x.a x.want.length x.c
def csL (x : Lr) : List Value := [.int .i64 x.id, .int .i64 x.holder, x.v]
def csSt (x : Sr) : List Value := [.int .i64 x.token, .int .i64 x.got, x.v]
theorem csL_len (x : Lr) : (csL x).length = 3 := rfl
theorem csSt_len (x : Sr) : (csSt x).length = 3 := rfl
theorem csL_one (x : Lr) : ∀ u ∈ csL x, u.oneCell' = true := by
  intro u hu
  simp [csL] at hu
  rcases hu with rfl | rfl | rfl <;> rfl
theorem csSt_one (x : Sr) : ∀ u ∈ csSt x, u.oneCell' = true := by
  intro u hu
  simp [csSt] at hu
  rcases hu with rfl | rfl | rfl <;> rfl
structure LocksAt (w : World) (v : Value) (l : List Lr) : Prop where
  rows : RowsAt w 3 csL v l
  each : ∀ x ∈ l, IntsAt w x.v x.wait
structure SeatsAt (w : World) (v : Value) (l : List Sr) : Prop where
  rows : RowsAt w 3 csSt v l
  each : ∀ x ∈ l, IntsAt w x.v x.want
theorem LocksAt.below {w w' : World} {v : Value} {l : List Lr} (h : LocksAt w v l) (hb : Below w.heap.size w w') : LocksAt w' v l := ⟨RowsAt.kept h.rows hb, fun x hx => (h.each x hx).below hb⟩
theorem SeatsAt.below {w w' : World} {v : Value} {l : List Sr} (h : SeatsAt w v l) (hb : Below w.heap.size w w') : SeatsAt w' v l := ⟨RowsAt.kept h.rows hb, fun x hx => (h.each x hx).below hb⟩
theorem RowsAt.atL {w : World} {v : Value} {l : List Lr} (h : RowsAt w 3 csL v l) (k : Nat) (hk : k < l.length) :
    ∃ g o c, v = .slice (some ⟨g, o, none⟩) l.length c ∧ l.length ≤ c ∧ g < w.heap.size ∧ w.cell? ⟨g, o + k * 3, none⟩ = some (.int .i64 l[k].id) ∧ w.cell? ⟨g, o + k * 3 + 1, none⟩ = some (.int .i64 l[k].holder) ∧ w.cell? ⟨g, o + k * 3 + 2, none⟩ = some l[k].v := by
  obtain ⟨g, o, c, e, hc, hg, hx⟩ := h.spot k hk
  exact ⟨g, o, c, e, hc, hg, hx 0 _ rfl, hx 1 _ rfl, hx 2 _ rfl⟩
theorem RowsAt.atS {w : World} {v : Value} {l : List Sr} (h : RowsAt w 3 csSt v l) (k : Nat) (hk : k < l.length) :
    ∃ g o c, v = .slice (some ⟨g, o, none⟩) l.length c ∧ l.length ≤ c ∧ g < w.heap.size ∧ w.cell? ⟨g, o + k * 3, none⟩ = some (.int .i64 l[k].token) ∧ w.cell? ⟨g, o + k * 3 + 1, none⟩ = some (.int .i64 l[k].got) ∧ w.cell? ⟨g, o + k * 3 + 2, none⟩ = some l[k].v := by
  obtain ⟨g, o, c, e, hc, hg, hx⟩ := h.spot k hk
  exact ⟨g, o, c, e, hc, hg, hx 0 _ rfl, hx 1 _ rfl, hx 2 _ rfl⟩
/-- a table as a value: its locks, its seats -/
abbrev tbv (vl vs : Value) : Value := .agg #[vl, vs]
def idsL (l : List Lr) : List Int := l.map Lr.id
def toksS (l : List Sr) : List Int := l.map Sr.token
theorem map_found {α : Type} (f : α → Int) {l : List α} {k : Nat} (hk : k < l.length) {n : Int} (he : f l[k] = n) (hno : n ∉ (l.take k).map f) : plcL (l.map f) n = (k : Int) := by
  have h1 : k < (l.map f).length := by simpa using hk
  refine plc_found h1 (by simpa using he) ?_
  rw [← List.map_take]
  exact hno
theorem map_next {α : Type} (f : α → Int) {l : List α} {k : Nat} (hk : k < l.length) {n : Int} (he : f l[k] ≠ n) (hno : n ∉ (l.take k).map f) : n ∉ (l.take (k + 1)).map f := by
  rw [List.take_succ_eq_append_getElem hk, List.map_append]
  intro hm
  rcases List.mem_append.1 hm with hm | hm
  · exact hno hm
  · exact he (by simpa using hm : n = f l[k]).symm

set_option maxHeartbeats 2000000 in
set_option maxRecDepth 100000 in
theorem refLock20_any (vl : Value) (az : Option Addr) (ns cs : Nat) (Ls : List Lr) (id : Int) (W : World) (ha : RowsAt W 3 csL vl Ls) (hl : Ls.length ≤ 1000000) :
    Calls Tryz.prog 37 #[tbv vl (.slice az ns cs), .int .i64 id] W fun e w' => e = .returned (.int .i64 (plcL (idsL Ls) id)) ∧ Below W.heap.size W w' := by
  obtain ⟨a, c, rfl⟩ := RowsAt.form ha
  have hB := (Below.refl W.heap.size W).alloc (Nat.le_refl _) (.cells #[.slice a Ls.length c, .slice az ns cs] 38)
  have HA := Lib.hid (RowsAt.kept ha hB)
  have HB := Lib.hid hB
  have hX := Blk.new W [.slice a Ls.length c, .slice az ns cs] 38
  obtain ⟨w1, hw1⟩ : ∃ w1, W.alloc (.cells #[.slice a Ls.length c, .slice az ns cs] 38) = w1 := ⟨_, rfl⟩
  obtain ⟨r, hr⟩ : ∃ r, plcL (idsL Ls) id = r := ⟨_, rfl⟩
  rw [hr]
  have HR := Lib.hid hr
  have c0 := hX.cell 0 rfl
  rw [hw1] at HA HB c0
  clear hX hr ha hB
  go_enter Tryz.func37, Tryz.ntmps37
  go_wp2
  clear hw1
  go_loopg [5] Ls.length (fun kx iv wr => ∃ k : Nat, k ≤ Ls.length ∧ Ls.length - k ≤ kx ∧ iv = .int .i64 k ∧ Hid (id ∉ (Ls.take k).map Lr.id) ∧ wr = w1)
  case atStart => exact ⟨0, Nat.zero_le _, Nat.le_refl _, rfl, (by show id ∉ _; simp), rfl⟩
  case round =>
    obtain ⟨k, hk, hkx, rfl, hno, rfl⟩ := hrel
    by_cases hlt : k < Ls.length
    · obtain ⟨g, o, cc, e, _, _, q0, _, _⟩ := RowsAt.atL HA.out k hlt
      cases e
      have j1 : (k : Int) < (Ls.length : Int) := by omega
      have j0 : (0 : Int) ≤ (k : Int) := by omega
      have j2 : (k : Int) ≤ 1000000 := by omega
      by_cases hx : (Ls[k]'hlt).id = id
      · have HP := Lib.hid ((map_found Lr.id hlt hx hno.out).symm.trans HR.out)
        rw [hx] at q0
        clear hx hno
        go_wp2
        go_ret
        exact ⟨ret_i HP.out, HB.out⟩
      · have HNO := Lib.hid (map_next Lr.id hlt hx hno.out)
        have hx2 : ((Ls[k]'hlt).id == id) = false := beq_noI hx
        generalize (Ls[k]'hlt).id = x at *
        clear hx hno
        go_wp2
        go_roundg (Ls.length - (k + 1))
        case measure => omega
        case rel => exact ⟨k + 1, by omega, Nat.le_refl _, by go_num, HNO.out, rfl⟩
    · have hke : k = Ls.length := by omega
      subst hke
      have hno2 : id ∉ idsL Ls := by have := hno.out; rwa [List.take_length] at this
      have HP := Lib.hid ((plc_none hno2).symm.trans HR.out)
      clear hno hno2 hlt
      go_wp2
      go_ret
      exact ⟨ret_i HP.out, HB.out⟩
set_option maxHeartbeats 2000000 in
set_option maxRecDepth 100000 in
theorem refSeated20_any (al : Option Addr) (nl cl : Nat) (vs : Value) (Ss : List Sr) (id : Int) (W : World) (ha : RowsAt W 3 csSt vs Ss) (hl : Ss.length ≤ 1000000) :
    Calls Tryz.prog 38 #[tbv (.slice al nl cl) vs, .int .i64 id] W fun e w' => e = .returned (.int .i64 (plcL (toksS Ss) id)) ∧ Below W.heap.size W w' := by
  obtain ⟨a, c, rfl⟩ := RowsAt.form ha
  have hB := (Below.refl W.heap.size W).alloc (Nat.le_refl _) (.cells #[.slice al nl cl, .slice a Ss.length c] 38)
  have HA := Lib.hid (RowsAt.kept ha hB)
  have HB := Lib.hid hB
  have hX := Blk.new W [.slice al nl cl, .slice a Ss.length c] 38
  obtain ⟨w1, hw1⟩ : ∃ w1, W.alloc (.cells #[.slice al nl cl, .slice a Ss.length c] 38) = w1 := ⟨_, rfl⟩
  obtain ⟨r, hr⟩ : ∃ r, plcL (toksS Ss) id = r := ⟨_, rfl⟩
  rw [hr]
  have HR := Lib.hid hr
  have c0 := hX.cell 1 rfl
  rw [hw1] at HA HB c0
  clear hX hr ha hB
  go_enter Tryz.func38, Tryz.ntmps38
  go_wp2
  clear hw1
  go_loopg [5] Ss.length (fun kx iv wr => ∃ k : Nat, k ≤ Ss.length ∧ Ss.length - k ≤ kx ∧ iv = .int .i64 k ∧ Hid (id ∉ (Ss.take k).map Sr.token) ∧ wr = w1)
  case atStart => exact ⟨0, Nat.zero_le _, Nat.le_refl _, rfl, (by show id ∉ _; simp), rfl⟩
  case round =>
    obtain ⟨k, hk, hkx, rfl, hno, rfl⟩ := hrel
    by_cases hlt : k < Ss.length
    · obtain ⟨g, o, cc, e, _, _, q0, _, _⟩ := RowsAt.atS HA.out k hlt
      cases e
      have j1 : (k : Int) < (Ss.length : Int) := by omega
      have j0 : (0 : Int) ≤ (k : Int) := by omega
      have j2 : (k : Int) ≤ 1000000 := by omega
      by_cases hx : (Ss[k]'hlt).token = id
      · have HP := Lib.hid ((map_found Sr.token hlt hx hno.out).symm.trans HR.out)
        rw [hx] at q0
        clear hx hno
        go_wp2
        go_ret
        exact ⟨ret_i HP.out, HB.out⟩
      · have HNO := Lib.hid (map_next Sr.token hlt hx hno.out)
        have hx2 : ((Ss[k]'hlt).token == id) = false := beq_noI hx
        generalize (Ss[k]'hlt).token = x at *
        clear hx hno
        go_wp2
        go_roundg (Ss.length - (k + 1))
        case measure => omega
        case rel => exact ⟨k + 1, by omega, Nat.le_refl _, by go_num, HNO.out, rfl⟩
    · have hke : k = Ss.length := by omega
      subst hke
      have hno2 : id ∉ toksS Ss := by have := hno.out; rwa [List.take_length] at this
      have HP := Lib.hid ((plc_none hno2).symm.trans HR.out)
      clear hno hno2 hlt
      go_wp2
      go_ret
      exact ⟨ret_i HP.out, HB.out⟩
end Go.Proofs.YtbkoogffnchldaaGreat
