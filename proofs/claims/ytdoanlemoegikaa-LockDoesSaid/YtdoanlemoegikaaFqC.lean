/- Stage 18's program: New, Put, closeGap. -/
import Derived.Test.YtdoanlemoegikaaFqB
import Derived.Deep.WholeRow
namespace Go.Proofs.Ytdoanlemoegikaa
open Go.RowKit

/-- a queue in memory, its blocks of F -/
def FqAt (F : Nat → Prop) (w : World) (v : Value) (q : Fq) : Prop :=
  ∃ p m R f, v = ptr18 p ∧ FqRaw w p m R f q.room q.l.length (setB q.l) ∧ RingIs R f q.l ∧ (q.l.Nodup ∧ ∀ x ∈ q.l, I64 x) ∧ (q.room ≤ 1024 ∧ (q.l.length : Int) ≤ q.room) ∧ F p ∧ F m ∧ ∀ k, F k → k < w.heap.size
theorem FqAt.same {F : Nat → Prop} {w w' : World} {v : Value} {q : Fq} (h : FqAt F w v q) (hz : w.heap.size ≤ w'.heap.size) (he : ∀ k, F k → w'.heap[k]? = w.heap[k]?) : FqAt F w' v q := by
  obtain ⟨p, m, R, f, rfl, h1, h2, h3, h4, h5, h6, h7⟩ := h
  exact ⟨p, m, R, f, rfl, h1.same (he p h5) (he m h6), h2, h3, h4, h5, h6, fun k hk => Nat.lt_of_lt_of_le (h7 k hk) hz⟩
theorem FqAt.lt {F : Nat → Prop} {w : World} {v : Value} {q : Fq} (h : FqAt F w v q) : ∀ k, F k → k < w.heap.size := by
  obtain ⟨p, m, R, f, rfl, h1, h2, h3, h4, h5, h6, h7⟩ := h
  exact h7

def zero18 (v : Value) : List Value := List.replicate 1024 (.int .i64 0) ++ [.int .i64 0, .int .i64 0, v]
theorem zero18_set (v v' : Value) (r : Int) (m : Nat) (h : v' = .map (some m)) : ((zero18 v).set 1025 (.int .i64 r)).set 1026 v' = qc (List.replicate 1024 0) 0 r m := by
  subst h
  unfold zero18 qc
  rw [List.set_append_right _ _ (by rw [List.length_replicate]; omega), List.set_append_right _ _ (by rw [List.length_replicate]; omega), List.length_replicate, List.map_replicate]
  rfl

set_option maxHeartbeats 2000000 in
set_option maxRecDepth 100000 in
theorem fNew_any (n : Int) (w : World) (hn : In18 n) : Calls Try.prog 16 #[.int .i64 n] w fun e w' => ∃ v F, e = .returned v ∧ FqAt F w' v ⟨clipF n, []⟩ ∧ (∀ k, F k → w.heap.size ≤ k) ∧ Below w.heap.size w w' := by
  obtain ⟨r, hr⟩ : ∃ r, clipF n = r := ⟨_, rfl⟩
  have hmm : min (max n 0) 1024 = r := by rw [← hr]; unfold clipF; omega
  have HR := Lib.hid (show 0 ≤ r ∧ r ≤ 1024 by rw [← hr]; unfold clipF; omega)
  rw [hr]
  obtain ⟨q, hq⟩ : ∃ q, max n 0 = q := ⟨_, rfl⟩
  rw [hq] at hmm
  have hmk : (Instr.makeMap 58 none).run Try.prog w = .ok (.map (some w.heap.size)) (w.alloc (.map #[] 0)) := by kernel_rfl
  obtain ⟨hz, _⟩ := zero_of_info (P := Try.prog) (t := 61) (v := .agg (zero18 (Value.map none)).toArray) (n := 1027) (by kernel_rfl)
  obtain ⟨Z, hZ⟩ : ∃ Z, zero18 (Value.map none) = Z := ⟨_, rfl⟩
  rw [hZ] at hz
  have hlen : Z.length = 1027 := by rw [← hZ]; rfl
  obtain ⟨Y, hY⟩ : ∃ Y, (Z.set 1025 (.int .i64 r)).set 1026 (.map (some w.heap.size)) = Y := ⟨_, rfl⟩
  have HY := Lib.hid (show qc (List.replicate 1024 0) 0 r w.heap.size = Y by rw [← hY, ← hZ]; exact (zero18_set _ _ _ _ rfl).symm)
  clear hZ
  have HN := Lib.hid hn
  clear hn hr
  go_enter Try.func16, Try.ntmps16
  go_wp2
  go_ret
  have hm := MapB.new w
  have hb := (Below.refl w.heap.size w).alloc (Nat.le_refl _) (.map #[] 0)
  have hb2 := hb.alloc hb.size (.cells Y.toArray 61)
  refine ⟨_, fun k => k = w.heap.size + 1 ∨ k = w.heap.size, rfl, ⟨w.heap.size + 1, w.heap.size, List.replicate 1024 0, 0, rfl, ⟨?_, ?_, List.length_replicate⟩, RingIs.nil List.length_replicate (by decide), ⟨List.nodup_nil, fun x hx => by cases hx⟩, ⟨HR.out.2, HR.out.1⟩, .inl rfl, .inr rfl, ?_⟩, ?_, hb2⟩
  · have := Blk.new (w.alloc (.map #[] 0)) Y 61
    rw [show (w.alloc (.map #[] 0)).heap.size = w.heap.size + 1 by simp] at this
    show Blk _ _ (qc (List.replicate 1024 0) 0 r w.heap.size)
    rw [HY.out]
    exact this
  · exact hm.kept ((Below.refl _ _).alloc (Nat.le_refl _) _)
  · intro k hk
    simp
    omega
  · intro k hk
    omega

section
variable {w w' : World} {p m : Nat} {R : List Int} {f : Nat} {room : Int} {n : Nat} {g : Int → Option Bool}
set_option maxHeartbeats 4000000 in
set_option maxRecDepth 100000 in
theorem fClose_any {F : Nat → Prop} {U : List Int} (at_ : Nat) (h : FqRaw w p m R f room n g) (hg : GapR R f U at_) (hF : F p) :
    Calls Try.prog 35 #[ptr18 p, .int .i64 (at_ : Int)] w fun e w' => e = .returned (.tuple #[]) ∧ ∃ R', FqRaw w' p m R' ((f + 1) % 1024) room n g ∧ RingIs R' ((f + 1) % 1024) U ∧ Only F w w' := by
  have H := Lib.hid h
  have HG := Lib.hid hg
  have HF := Lib.hid hF
  obtain ⟨e, he⟩ : ∃ e, (f + 1) % 1024 = e := ⟨_, rfl⟩
  rw [he]
  have HE := Lib.hid he
  clear h hg hF he
  go_enter Try.func35, Try.ntmps35
  go_wp2
  refine wp_scope_goto 0 (fun n' a' w' => ∃ R', FqRaw w' p m R' f room n g ∧ GapR R' f U n' ∧ Only F w w' ∧ ∃ u2 u3 u4 u5 u6 u7 u8 u9 u10 u11 u12 u13 u14 u15 u16 u17 u18 u19 u20 u21 u22 u23 u24 u25 u26 u27 u28, a' = { tmps := #[ptr18 p, .int .i64 (n' : Int), u2, u3, u4, u5, u6, u7, u8, u9, u10, u11, u12, u13, u14, u15, u16, u17, u18, u19, u20, u21, u22, u23, u24, u25, u26, u27, u28], defers := [] }) rfl rfl ?_ ?_
  · rintro j a' w' ⟨R', hq, hg, ho, u2, u3, u4, u5, u6, u7, u8, u9, u10, u11, u12, u13, u14, u15, u16, u17, u18, u19, u20, u21, u22, u23, u24, u25, u26, u27, u28, rfl⟩ K hK
    have HK := Lib.hid hK
    have hf := hg.fl
    have hle := hg.le
    have hj := hg.jl
    have HO := Lib.hid ho
    have HQ := Lib.hid hq
    cases j with
    | zero =>
      have PL := Lib.hid (show Calls Try.prog 33 #[ptr18 p, .int .i64 1] w' fun e w'' => e = .returned (.int .i64 (((f + 1) % 1024 : Nat) : Int)) ∧ w' = w'' from fPlace_any 1 hq hf (by omega))
      have HS := Lib.hid hg.stop
      have HM := Lib.hid (hq.move ((f + 1) % 1024))
      have HO2 := Lib.hid (ho.set ⟨p, 1024, none⟩ (.int .i64 (((f + 1) % 1024 : Nat) : Int)) HF.out)
      have z0 := hq.fst_free
      have c0 := hq.fst
      rw [HE.out] at PL HS HM HO2
      clear hK hq hg ho hf hle hj
      go_wp2_with (go_at_call 33; (with_reducible refine PL.out.mono ?_); rintro e w1 ⟨rfl, rfl⟩)
      simp only [Exit.jump]
      go_end0
      exact ⟨rfl, _, HM.out, HS.out, HO2.out⟩
    | succ j =>
      have e0 : ((j + 1 : Nat) : Int) = (j : Int) + 1 := by omega
      have PL1 := fun (w1 : World) (hb1 : Below w'.heap.size w' w1) => by have := fPlace_any (j + 1) (hq.kept hb1) hf (by omega); rw [e0] at this; exact Lib.hid this
      have PL0 := fun (w1 : World) (hb1 : Below w'.heap.size w' w1) => Lib.hid (fPlace_any j (hq.kept hb1) hf (by omega))
      rw [e0]
      have hat := hg.at_ j (by omega) (by omega)
      obtain ⟨y, hy⟩ : ∃ y, R'[(f + j) % 1024]? = some y := ⟨_, List.getElem?_eq_getElem (by rw [hg.len]; omega)⟩
      obtain ⟨z, hz⟩ : ∃ z, R'[(f + (j + 1)) % 1024]? = some z := ⟨_, List.getElem?_eq_getElem (by rw [hg.len]; omega)⟩
      have HS := Lib.hid (hg.step hy)
      obtain ⟨t, ht⟩ : ∃ t, (f + j) % 1024 = t := ⟨_, rfl⟩
      obtain ⟨s, hs⟩ : ∃ s, (f + (j + 1)) % 1024 = s := ⟨_, rfl⟩
      rw [ht] at hy PL0
      rw [hs] at hz PL1 HS
      have c0 := hq.ring hy
      have c1 := hq.ring hz
      have t0 : (0 : Int) ≤ (t : Int) := by omega
      have t1 : (t : Int) < 1024 := by omega
      have s0 : (0 : Int) ≤ (s : Int) := by omega
      have s1 : (s : Int) < 1024 := by omega
      have j0 : (0 : Int) ≤ (j : Int) := by omega
      have j1 : (j : Int) ≤ 1024 := by omega
      have HZ := Lib.hid hz
      have HSL := Lib.hid (show s < 1024 by omega)
      clear hK hq hg ho hf hle hj hat hy hz ht hs e0
      go_wp2
      refine wp_region_calmT 16 (by kernel_rfl) (by simp) (by kernel_rfl) fun M => ?_
      simp only [List.take_succ_cons, List.take_zero, List.drop_succ_cons, List.drop_zero]
      have m0 := fun n : In M.w => n.cell (M.cell c0)
      have m1 := fun n : In M.w => n.cell (M.cell c1)
      have P0 := fun n : In M.w => Lib.hid ((PL0 n.w (M.h.trans (n.h.mono M.h.size))).out)
      have P1 := fun n : In M.w => Lib.hid ((PL1 n.w (M.h.trans (n.h.mono M.h.size))).out)
      repeat (go_big_quiet_step (first
        | (go_at_call 33; with_reducible exact In.call_same (P0 _).out)
        | (go_at_call 33; with_reducible exact In.call_same (P1 _).out)))
      refine wpQuiet_nil ?_
      clear m0 m1 P0 P1 M c0 c1
      intro w2 hb2
      have hq2 := HQ.out.kept hb2
      have c1 := hq2.ring HZ.out
      have z1 := hq2.free HZ.out
      have HQ2 := Lib.hid (hq2.put HSL.out y)
      have HO2 := Lib.hid ((HO.out.trans (Only.of_below hb2)).set ⟨p, s, none⟩ (.int .i64 y) HF.out)
      clear hq2 hb2
      go_wp2
      go_step3
      exact ⟨rfl, HK.out j _ _ (by omega) ⟨_, HQ2.out, HS.out, HO2.out, _, _, _, _, _, _, _, _, _, _, _, _, _, _, _, _, _, _, _, _, _, _, _, _, _, _, _,  by first | rfl | (congr 1; go_num)⟩⟩
  · intro K hK
    have HK := Lib.hid hK
    clear hK
    go_wp2
    go_step3
    rename_i hback
    refine hback _ _ ?_
    exact HK.out _ _ _ ⟨R, H.out, HG.out, Only.refl _ _, _, _, _, _, _, _, _, _, _, _, _, _, _, _, _, _, _, _, _, _, _, _, _, _, _, _, _,  rfl⟩
end
end Go.Proofs.Ytdoanlemoegikaa
