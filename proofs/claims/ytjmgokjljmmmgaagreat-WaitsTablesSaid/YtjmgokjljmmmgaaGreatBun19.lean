/- Texts of this proof, joined: FqB; FqC; FqD; LkA; LkB. -/
import Derived.Test.YtjmgokjljmmmgaaGreatBun18
import Derived.Deep.WholeRow
import Derived.Deep.DeepCutAuto
/- Stage 18's program: New, At, List. -/
namespace Go.Proofs.YtjmgokjljmmmgaaGreat
open Go.RowKit

/-- one number in a block of its own -/
theorem oneI18 {w : World} {b : Nat} {n : Int} (hh : w.heap[b]? = some (.cells #[.int .i64 n] 3 (0, 0))) : RowsAt w 1 csI (.slice (some ⟨b, 0, none⟩) 1 1) [n] := by
  refine ⟨_, 1, rfl, Nat.le_refl _, fun _ => ⟨b, 0, rfl, lt_of_block hh, fun j x hj i u hu => ?_⟩⟩
  have hj0 : j = 0 := by have := (List.getElem?_eq_some_iff.1 hj).1; simp at this; omega
  subst hj0
  have hx : x = n := by simpa using hj.symm
  subst hx
  have hi : i = 0 := by have := (List.getElem?_eq_some_iff.1 hu).1; simp [csI] at this; omega
  subst hi
  have hu2 : u = .int .i64 x := by simpa [csI] using hu.symm
  subst hu2
  simp [World.cell?, hh]

section
variable {w w' : World} {p m : Nat} {R : List Int} {f : Nat} {room : Int} {n : Nat} {g : Int → Option Bool}
set_option maxHeartbeats 2000000 in
set_option maxRecDepth 100000 in
theorem fAt_any {l : List Int} (x : Int) (h : FqRaw w p m R f room l.length (setB l)) (hr : RingIs R f l) (hx : I64 x) : Calls Tryz.prog 87 #[ptr18 p, .int .i64 x] w fun e w' => e = .returned (.int .i64 (plcL l x)) ∧ Below w.heap.size w w' := by
  have H1 := Lib.hid (fHas_any x h hx)
  obtain ⟨r, hrr⟩ : ∃ r, plcL l x = r := ⟨_, rfl⟩
  have HP := Lib.hid hrr
  rw [hrr]
  have HR := Lib.hid hr
  have H := Lib.hid h
  by_cases hin : x ∈ l
  · rw [inL_iff.2 hin] at H1
    have HIN := Lib.hid hin
    clear h hr hx hrr hin
    go_enter Tryz.func87, Tryz.ntmps87
    go_wp2
    refine wp_scope_goto 0 (fun n a' w' => ∃ k : Nat, n = l.length - k ∧ k < l.length ∧ x ∉ l.take k ∧ Below w.heap.size w w' ∧ ∃ u2 u3 u6 u7 u8 u9 u10 u11 u12 u13 u14 u15 u16 u17 u18 u19 u20 u21 u22, a' = { tmps := #[ptr18 p, .int .i64 x, u2, u3, .int .i64 0, .int .i64 (k : Int), u6, u7, u8, u9, u10, u11, u12, u13, u14, u15, u16, u17, u18, u19, u20, u21, u22], defers := [] }) rfl rfl ?_ ?_
    · rintro n a' w' ⟨k, rfl, hk, hno, hb, u2, u3, u6, u7, u8, u9, u10, u11, u12, u13, u14, u15, u16, u17, u18, u19, u20, u21, u22, rfl⟩ K hK
      have HK := Lib.hid hK
      have hf := HR.out.fl
      have hk2 := HR.out.le
      have hat := HR.out.at_ k hk
      rw [List.getElem?_eq_getElem hk] at hat
      have H2 := Lib.hid (H.out.kept hb)
      have PL := fun (w1 : World) (hb1 : Below w'.heap.size w' w1) => Lib.hid (fPlace_any k (H2.out.kept hb1) hf (by omega))
      obtain ⟨t, ht⟩ : ∃ t, (f + k) % 1024 = t := ⟨_, rfl⟩
      rw [ht] at hat PL
      have c0 := H2.out.ring hat
      have t0 : (0 : Int) ≤ (t : Int) := by omega
      have t1 : (t : Int) < 1024 := by omega
      have k0 : (0 : Int) ≤ (k : Int) := by omega
      have k1 : (k : Int) ≤ 1024 := by omega
      have HB := Lib.hid hb
      have HKL := Lib.hid hk
      by_cases hyx : l[k]'hk = x
      · have HF := Lib.hid ((plc_found hk hyx hno).symm.trans HP.out)
        rw [hyx] at c0
        clear hK hk hno hb hat hk2 hf hyx ht
        go_wp2
        refine wp_region_calm0 (by kernel_rfl) (by kernel_rfl) fun M => ?_
        have m0 := fun n : In M.w => n.cell (M.cell c0)
        have PN := fun n : In M.w => Lib.hid ((PL n.w (M.h.trans (n.h.mono M.h.size))).out)
        repeat (go_big_quiet_step ((go_at_call 93; with_reducible exact In.call_same (PN _).out)))
        refine wpQuiet_nil ?_
        clear m0 PN M
        intro w1 hb1
        have HB1 := Lib.hid (HB.out.trans (hb1.mono HB.out.size))
        clear hb1
        go_wp2
        simp only [Exit.jump]
        exact bodyPost_ret (v := .int .i64 (k : Int)) (by simp [results, Tryz.results87, go_sem]) rfl ⟨ret_i HF.out, HB1.out⟩
      · have HNO := Lib.hid (inL_take l x k hk hyx hno)
        have HLT := Lib.hid (show k + 1 < l.length from by
          rcases Nat.lt_or_ge (k + 1) l.length with h | h
          · exact h
          · exfalso
            have := HNO.out
            rw [List.take_of_length_le h] at this
            exact this HIN.out)
        have hy2 : (l[k]'hk == x) = false := beq_noI hyx
        generalize l[k]'hk = y at *
        clear hK hk hno hb hat hk2 hf hyx ht
        go_wp2
        refine wp_region_calm0 (by kernel_rfl) (by kernel_rfl) fun M => ?_
        have m0 := fun n : In M.w => n.cell (M.cell c0)
        have PN := fun n : In M.w => Lib.hid ((PL n.w (M.h.trans (n.h.mono M.h.size))).out)
        repeat (go_big_quiet_step ((go_at_call 93; with_reducible exact In.call_same (PN _).out)))
        refine wpQuiet_nil ?_
        clear m0 PN M
        intro w1 hb1
        have HB1 := Lib.hid (HB.out.trans (hb1.mono HB.out.size))
        clear hb1
        go_wp2
        go_step3
        exact ⟨rfl, HK.out (l.length - (k + 1)) _ _ (by have := HKL.out; omega) ⟨k + 1, rfl, HLT.out, HNO.out, HB1.out, _, _, _, _, _, _, _, _, _, _, _, _, _, _, _, _, _, _, _,  by first | rfl | (congr 1; go_num)⟩⟩
    · intro K hK
      have HK := Lib.hid hK
      clear hK
      go_wp2_with (go_at_call 107; (with_reducible refine H1.out.mono ?_); rintro e w1 ⟨rfl, rfl⟩)
      go_step3
      rename_i hback
      refine hback _ _ ?_
      exact HK.out _ _ _ ⟨0, rfl, List.length_pos_of_mem HIN.out, by simp, Below.refl _ _, _, _, _, _, _, _, _, _, _, _, _, _, _, _, _, _, _, _, _,  rfl⟩
  · rw [inL_not.2 hin] at H1
    have HF := Lib.hid ((plc_none hin).symm.trans HP.out)
    clear h hr hx hrr hin
    go_enter Tryz.func87, Tryz.ntmps87
    go_wp2
    refine wp_scope_goto 0 (fun _ _ _ => False) rfl rfl (fun _ _ _ h => h.elim) ?_
    intro K _
    go_wp2_with (go_at_call 107; (with_reducible refine H1.out.mono ?_); rintro e w1 ⟨rfl, rfl⟩)
    simp only [Exit.jump]
    exact bodyPost_ret (v := .int .i64 (-1)) (by simp [results, Tryz.results87, go_sem]) rfl ⟨ret_i HF.out, Below.refl _ _⟩
theorem fAt_nil (x : Int) (w : World) : Calls Tryz.prog 87 #[.pointer none, .int .i64 x] w fun e w' => e = .returned (.int .i64 (-1)) ∧ Below w.heap.size w w' := by
  have H1 := Lib.hid (fHas_nil x w)
  go_enter Tryz.func87, Tryz.ntmps87
  go_wp2
  refine wp_scope_goto 0 (fun _ _ _ => False) rfl rfl (fun _ _ _ h => h.elim) ?_
  intro K _
  go_wp2_with (go_at_call 107; (with_reducible refine H1.out.mono ?_); rintro e w1 ⟨rfl, rfl⟩)
  simp only [Exit.jump]
  exact bodyPost_ret (v := .int .i64 (-1)) (by simp [results, Tryz.results87, go_sem]) rfl ⟨rfl, Below.refl _ _⟩

set_option maxHeartbeats 4000000 in
set_option maxRecDepth 100000 in
theorem fList_own {l : List Int} (h : FqRaw w p m R f room l.length (setB l)) (hr : RingIs R f l) : Calls Tryz.prog 78 #[ptr18 p] w fun e w' => ∃ v, e = .returned v ∧ OwnI w' w.heap.size v l ∧ Below w.heap.size w w' := by
  have H1 := Lib.hid (fLen_any h)
  have HR := Lib.hid hr
  have H := Lib.hid h
  obtain ⟨i0, hi, hz0, hz1, hz2⟩ := info_parts info_int
  clear h hr
  go_enter Tryz.func78, Tryz.ntmps78
  go_wp2_with (go_at_call 92; (with_reducible refine H1.out.mono ?_); rintro e w1 ⟨rfl, rfl⟩)
  go_loopw [3, 7] (fun v iv wr => ∃ k : Nat, k ≤ l.length ∧ iv = .int .i64 k ∧ OwnI wr w.heap.size v (l.take k) ∧ Below w.heap.size w wr) (fun _ iv _ => l.length - (intOf iv).toNat)
  case atStart => exact ⟨0, Nat.zero_le _, rfl, OwnR.nil _ _ _ _ _, Below.refl _ _⟩
  case round =>
    obtain ⟨k, hk, rfl, ho, hb⟩ := hrel
    have HO := Lib.hid ho
    have HB := Lib.hid hb
    by_cases hlt : k < l.length
    · have hf := HR.out.fl
      have hk2 := HR.out.le
      have hat := HR.out.at_ k hlt
      rw [List.getElem?_eq_getElem hlt] at hat
      have H2 := Lib.hid (H.out.kept hb)
      have HN := Lib.hid (List.take_succ_eq_append_getElem hlt)
      have PL := fun (w1 : World) (hb1 : Below wr.heap.size wr w1) => Lib.hid (fPlace_any k (H2.out.kept hb1) hf (by omega))
      obtain ⟨t, ht⟩ : ∃ t, (f + k) % 1024 = t := ⟨_, rfl⟩
      rw [ht] at hat PL
      have c0 := H2.out.ring hat
      have t0 : (0 : Int) ≤ (t : Int) := by omega
      have t1 : (t : Int) < 1024 := by omega
      have k0 : (0 : Int) ≤ (k : Int) := by omega
      have k1 : (k : Int) < (l.length : Int) := by omega
      have k2 : (k : Int) ≤ 1024 := by omega
      have HTL := Lib.hid (show (l.take k).length ≤ 1000000 by rw [List.length_take]; omega)
      have HKL := Lib.hid hlt
      obtain ⟨a3, c3, e3⟩ := RowsAt.form (OwnR.rows csI_len ho)
      have e4 : (l.take k).length = k := by rw [List.length_take]; omega
      rw [e4] at e3
      generalize l[k]'hlt = y at *
      clear ho hb hlt hk hf hk2 hat ht e4
      subst e3
      go_wp2
      refine wp_region_calmN 9 10 [(.cells #[.int .i64 y] 3, fun b => .slice (some ⟨b, 0, none⟩) 1 1)] (by kernel_rfl) (by simp) (by simp) (by kernel_rfl) fun M => ?_
      simp only [List.take_succ_cons, List.take_zero, List.drop_succ_cons, List.drop_zero, List.length_cons, List.length_nil]
      have m0 := fun n : In M.w => n.cell (M.cell c0)
      have PN := fun n : In M.w => Lib.hid ((PL n.w (M.h.trans (n.h.mono M.h.size))).out)
      repeat (go_big_quiet_step ((go_at_call 93; with_reducible exact In.call_same (PN _).out)))
      refine wpQuiet_nil ?_
      clear m0 PN M
      refine ⟨rfl, fun n => by simp [go_sem], fun bp hbp _ w2 hw => ?_⟩
      have hb2 := hw.below
      have HH := Lib.hid (oneI18 (hw.own bp _ (Gh.set_self _ _ _)))
      have HO2 := Lib.hid (OwnR.kept HO.out hb2)
      have HB2 := Lib.hid (HB.out.trans (hb2.mono HB.out.size))
      clear hw hb2 c0
      go_wp2_with (at_builtin; refine wpList_append_rows csI_len (by decide) csI_one13 rfl _ _ 22 rfl w.heap.size 3 i0 (.int .i64 0) 8 Tryz.underlying22 hi hz0 hz1 hz2 rfl _ _ rfl HO2.out _ [y] rfl HH.out (by have := HTL.out; unfold maxLen; simp; omega) (by have := HTL.out; simp; omega) HB2.out.size ?_; intro v3 w3 k1 k2; have HO3 := Lib.hid k1; have HB3 := Lib.hid (OwnR.below HO2.out HB2.out HB2.out.size k2); clear k1 k2)
      go_roundw
      case rel => exact ⟨k + 1, by have := HKL.out; omega, by go_num, by rw [HN.out]; exact HO3.out, HB3.out⟩
      case measure => have := HKL.out; simp [intOf] <;> omega
    · have hke : k = l.length := by omega
      subst hke
      rw [List.take_length] at HO
      clear ho hb hlt hk
      go_wp2
      go_ret
      exact ⟨_, rfl, HO.out, HB.out⟩
theorem fList_any {l : List Int} (h : FqRaw w p m R f room l.length (setB l)) (hr : RingIs R f l) : Calls Tryz.prog 78 #[ptr18 p] w fun e w' => ∃ v, e = .returned v ∧ IntsAt w' v l ∧ Below w.heap.size w w' :=
  (fList_own h hr).mono fun _ _ ⟨v, h1, h2, h3⟩ => ⟨v, h1, OwnI.ints h2, h3⟩
end
end Go.Proofs.YtjmgokjljmmmgaaGreat
/- Stage 18's program: New, Put, closeGap. -/
namespace Go.Proofs.YtjmgokjljmmmgaaGreat
open Go.RowKit

/-- a queue in memory, its blocks of F -/
def FqAt (F : Nat → Prop) (w : World) (v : Value) (q : Fq) : Prop :=
  ∃ p m R f, v = ptr18 p ∧ FqRaw w p m R f q.room q.l.length (setB q.l) ∧ RingIs R f q.l ∧ (q.l.Nodup ∧ ∀ x ∈ q.l, I64 x) ∧ (q.room ≤ 1024 ∧ (q.l.length : Int) ≤ q.room) ∧ F p ∧ F m ∧ ∀ k, F k → k < w.heap.size
theorem FqAt.same {F : Nat → Prop} {w w' : World} {v : Value} {q : Fq} (h : FqAt F w v q) (hz : w.heap.size ≤ w'.heap.size) (he : ∀ k, F k → w'.heap[k]? = w.heap[k]?) : FqAt F w' v q := by
  obtain ⟨p, m, R, f, rfl, h1, h2, h3, h4, h5, h6, h7⟩ := h
  exact ⟨p, m, R, f, rfl, h1.same (he p h5) (he m h6), h2, h3, h4, h5, h6, fun k hk => Nat.lt_of_lt_of_le (h7 k hk) hz⟩
theorem FqAt.lt {F : Nat → Prop} {w : World} {v : Value} {q : Fq} (h : FqAt F w v q) : ∀ k, F k → k < w.heap.size := by
  obtain ⟨p, m, R, f, rfl, h1, h2, h3, h4, h5, h6, h7⟩ := h
  exact h7

def zero18 (v : Value) : List Value := List.replicate 1024 (.int .i64 0) ++ [.int .i64 0, .int .i64 0, v]
theorem zero18_set (v v' : Value) (r : Int) (m : Nat) (h : v' = .map (some m)) : ((zero18 v).set 1025 (.int .i64 r)).set 1026 v' = qc (List.replicate 1024 0) 0 r m := by
  subst h
  unfold zero18 qc
  rw [List.set_append_right _ _ (by rw [List.length_replicate]; omega), List.set_append_right _ _ (by rw [List.length_replicate]; omega), List.length_replicate, List.map_replicate]
  rfl

set_option maxHeartbeats 2000000 in
set_option maxRecDepth 100000 in
theorem fNew_any (n : Int) (w : World) (hn : In18 n) : Calls Tryz.prog 51 #[.int .i64 n] w fun e w' => ∃ v F, e = .returned v ∧ FqAt F w' v ⟨clipF n, []⟩ ∧ (∀ k, F k → w.heap.size ≤ k) ∧ Below w.heap.size w w' := by
  obtain ⟨r, hr⟩ : ∃ r, clipF n = r := ⟨_, rfl⟩
  have hmm : min (max n 0) 1024 = r := by rw [← hr]; unfold clipF; omega
  have HR := Lib.hid (show 0 ≤ r ∧ r ≤ 1024 by rw [← hr]; unfold clipF; omega)
  rw [hr]
  obtain ⟨q, hq⟩ : ∃ q, max n 0 = q := ⟨_, rfl⟩
  rw [hq] at hmm
  have hmk : (Instr.makeMap 105 none).run Tryz.prog w = .ok (.map (some w.heap.size)) (w.alloc (.map #[] 0)) := by kernel_rfl
  obtain ⟨hz, _⟩ := zero_of_info (P := Tryz.prog) (t := 115) (v := .agg (zero18 (Value.map none)).toArray) (n := 1027) (by kernel_rfl)
  obtain ⟨Z, hZ⟩ : ∃ Z, zero18 (Value.map none) = Z := ⟨_, rfl⟩
  rw [hZ] at hz
  have hlen : Z.length = 1027 := by rw [← hZ]; rfl
  obtain ⟨Y, hY⟩ : ∃ Y, (Z.set 1025 (.int .i64 r)).set 1026 (.map (some w.heap.size)) = Y := ⟨_, rfl⟩
  have HY := Lib.hid (show qc (List.replicate 1024 0) 0 r w.heap.size = Y by rw [← hY, ← hZ]; exact (zero18_set _ _ _ _ rfl).symm)
  clear hZ
  have HN := Lib.hid hn
  clear hn hr
  go_enter Tryz.func51, Tryz.ntmps51
  go_wp2
  go_ret
  have hm := MapB.new w
  have hb := (Below.refl w.heap.size w).alloc (Nat.le_refl _) (.map #[] 0)
  have hb2 := hb.alloc hb.size (.cells Y.toArray 115)
  refine ⟨_, fun k => k = w.heap.size + 1 ∨ k = w.heap.size, rfl, ⟨w.heap.size + 1, w.heap.size, List.replicate 1024 0, 0, rfl, ⟨?_, ?_, List.length_replicate⟩, RingIs.nil List.length_replicate (by decide), ⟨List.nodup_nil, fun x hx => by cases hx⟩, ⟨HR.out.2, HR.out.1⟩, .inl rfl, .inr rfl, ?_⟩, ?_, hb2⟩
  · have := Blk.new (w.alloc (.map #[] 0)) Y 115
    rw [show (w.alloc (.map #[] 0)).heap.size = w.heap.size + 1 by simp] at this
    show Blk _ _ (qc (List.replicate 1024 0) 0 r w.heap.size)
    rw [HY.out]
    exact this
  · exact hm.kept ((Below.refl _ _).alloc (Nat.le_refl _) _)
  · intro k hk
    simp
    omega
  · intro k hk
    omega

section
variable {w w' : World} {p m : Nat} {R : List Int} {f : Nat} {room : Int} {n : Nat} {g : Int → Option Bool}
set_option maxHeartbeats 4000000 in
set_option maxRecDepth 100000 in
theorem fClose_any {F : Nat → Prop} {U : List Int} (at_ : Nat) (h : FqRaw w p m R f room n g) (hg : GapR R f U at_) (hF : F p) :
    Calls Tryz.prog 88 #[ptr18 p, .int .i64 (at_ : Int)] w fun e w' => e = .returned (.tuple #[]) ∧ ∃ R', FqRaw w' p m R' ((f + 1) % 1024) room n g ∧ RingIs R' ((f + 1) % 1024) U ∧ Only F w w' := by
  have H := Lib.hid h
  have HG := Lib.hid hg
  have HF := Lib.hid hF
  obtain ⟨e, he⟩ : ∃ e, (f + 1) % 1024 = e := ⟨_, rfl⟩
  rw [he]
  have HE := Lib.hid he
  clear h hg hF he
  go_enter Tryz.func88, Tryz.ntmps88
  go_wp2
  refine wp_scope_goto 0 (fun n' a' w' => ∃ R', FqRaw w' p m R' f room n g ∧ GapR R' f U n' ∧ Only F w w' ∧ ∃ u2 u3 u4 u5 u6 u7 u8 u9 u10 u11 u12 u13 u14 u15 u16 u17 u18 u19 u20 u21 u22 u23 u24 u25 u26 u27 u28, a' = { tmps := #[ptr18 p, .int .i64 (n' : Int), u2, u3, u4, u5, u6, u7, u8, u9, u10, u11, u12, u13, u14, u15, u16, u17, u18, u19, u20, u21, u22, u23, u24, u25, u26, u27, u28], defers := [] }) rfl rfl ?_ ?_
  · rintro j a' w' ⟨R', hq, hg, ho, u2, u3, u4, u5, u6, u7, u8, u9, u10, u11, u12, u13, u14, u15, u16, u17, u18, u19, u20, u21, u22, u23, u24, u25, u26, u27, u28, rfl⟩ K hK
    have HK := Lib.hid hK
    have hf := hg.fl
    have hle := hg.le
    have hj := hg.jl
    have HO := Lib.hid ho
    have HQ := Lib.hid hq
    cases j with
    | zero =>
      have PL := Lib.hid (show Calls Tryz.prog 93 #[ptr18 p, .int .i64 1] w' fun e w'' => e = .returned (.int .i64 (((f + 1) % 1024 : Nat) : Int)) ∧ w' = w'' from fPlace_any 1 hq hf (by omega))
      have HS := Lib.hid hg.stop
      have HM := Lib.hid (hq.move ((f + 1) % 1024))
      have HO2 := Lib.hid (ho.set ⟨p, 1024, none⟩ (.int .i64 (((f + 1) % 1024 : Nat) : Int)) HF.out)
      have z0 := hq.fst_free
      have c0 := hq.fst
      rw [HE.out] at PL HS HM HO2
      clear hK hq hg ho hf hle hj
      go_wp2_with (go_at_call 93; (with_reducible refine PL.out.mono ?_); rintro e w1 ⟨rfl, rfl⟩)
      simp only [Exit.jump]
      go_end0
      exact ⟨rfl, _, HM.out, HS.out, HO2.out⟩
    | succ j =>
      have e0 : ((j + 1 : Nat) : Int) = (j : Int) + 1 := by omega
      have PL1 := fun (w1 : World) (hb1 : Below w'.heap.size w' w1) => by have := fPlace_any (j + 1) (hq.kept hb1) hf (by omega); rw [e0] at this; exact Lib.hid this
      have PL0 := fun (w1 : World) (hb1 : Below w'.heap.size w' w1) => Lib.hid (fPlace_any j (hq.kept hb1) hf (by omega))
      rw [e0]
      have hat := hg.at_ j (by omega) (by omega)
      obtain ⟨y, hy⟩ : ∃ y, R'[(f + j) % 1024]? = some y := ⟨_, List.getElem?_eq_getElem (by rw [hg.len]; omega)⟩
      obtain ⟨z, hz⟩ : ∃ z, R'[(f + (j + 1)) % 1024]? = some z := ⟨_, List.getElem?_eq_getElem (by rw [hg.len]; omega)⟩
      have HS := Lib.hid (hg.step hy)
      obtain ⟨t, ht⟩ : ∃ t, (f + j) % 1024 = t := ⟨_, rfl⟩
      obtain ⟨s, hs⟩ : ∃ s, (f + (j + 1)) % 1024 = s := ⟨_, rfl⟩
      rw [ht] at hy PL0
      rw [hs] at hz PL1 HS
      have c0 := hq.ring hy
      have c1 := hq.ring hz
      have t0 : (0 : Int) ≤ (t : Int) := by omega
      have t1 : (t : Int) < 1024 := by omega
      have s0 : (0 : Int) ≤ (s : Int) := by omega
      have s1 : (s : Int) < 1024 := by omega
      have j0 : (0 : Int) ≤ (j : Int) := by omega
      have j1 : (j : Int) ≤ 1024 := by omega
      have HZ := Lib.hid hz
      have HSL := Lib.hid (show s < 1024 by omega)
      clear hK hq hg ho hf hle hj hat hy hz ht hs e0
      go_wp2
      refine wp_region_calmT 16 (by kernel_rfl) (by simp) (by kernel_rfl) fun M => ?_
      simp only [List.take_succ_cons, List.take_zero, List.drop_succ_cons, List.drop_zero]
      have m0 := fun n : In M.w => n.cell (M.cell c0)
      have m1 := fun n : In M.w => n.cell (M.cell c1)
      have P0 := fun n : In M.w => Lib.hid ((PL0 n.w (M.h.trans (n.h.mono M.h.size))).out)
      have P1 := fun n : In M.w => Lib.hid ((PL1 n.w (M.h.trans (n.h.mono M.h.size))).out)
      repeat (go_big_quiet_step (first
        | (go_at_call 93; with_reducible exact In.call_same (P0 _).out)
        | (go_at_call 93; with_reducible exact In.call_same (P1 _).out)))
      refine wpQuiet_nil ?_
      clear m0 m1 P0 P1 M c0 c1
      intro w2 hb2
      have hq2 := HQ.out.kept hb2
      have c1 := hq2.ring HZ.out
      have z1 := hq2.free HZ.out
      have HQ2 := Lib.hid (hq2.put HSL.out y)
      have HO2 := Lib.hid ((HO.out.trans (Only.of_below hb2)).set ⟨p, s, none⟩ (.int .i64 y) HF.out)
      clear hq2 hb2
      go_wp2
      go_step3
      exact ⟨rfl, HK.out j _ _ (by omega) ⟨_, HQ2.out, HS.out, HO2.out, _, _, _, _, _, _, _, _, _, _, _, _, _, _, _, _, _, _, _, _, _, _, _, _, _, _, _,  by first | rfl | (congr 1; go_num)⟩⟩
  · intro K hK
    have HK := Lib.hid hK
    clear hK
    go_wp2
    go_step3
    rename_i hback
    refine hback _ _ ?_
    exact HK.out _ _ _ ⟨R, H.out, HG.out, Only.refl _ _, _, _, _, _, _, _, _, _, _, _, _, _, _, _, _, _, _, _, _, _, _, _, _, _, _, _, _,  rfl⟩
end
end Go.Proofs.YtjmgokjljmmmgaaGreat
/- Stage 18's program: Put, Drop, Take; all contracts as one structure. -/
namespace Go.Proofs.YtjmgokjljmmmgaaGreat
open Go.RowKit

theorem putF_twice {l : List Int} {x : Int} (room : Int) (h : x ∈ l) : putF l room x = (l, 6) := if_pos h
theorem putF_full {l : List Int} {x room : Int} (h : x ∉ l) (hr : room ≤ (l.length : Int)) : putF l room x = (l, 9) := by unfold putF; rw [if_neg h, if_pos hr]
theorem putF_ok {l : List Int} {x room : Int} (h : x ∉ l) (hr : ¬ room ≤ (l.length : Int)) : putF l room x = (l ++ [x], 0) := by unfold putF; rw [if_neg h, if_neg hr]

set_option maxHeartbeats 4000000 in
set_option maxRecDepth 100000 in
theorem fPut_any {F : Nat → Prop} {w : World} {v : Value} {q : Fq} (x : Int) (h : FqAt F w v q) (hx : In18 x) :
    Calls Tryz.prog 86 #[v, .int .i64 x] w fun e w' => e = .returned (.int .i64 (putF q.l q.room x).2) ∧ ∃ F', FqAt F' w' v ⟨q.room, (putF q.l q.room x).1⟩ ∧ Mv F F' w w' := by
  have h0 := h
  obtain ⟨p, m, R, f, rfl, h1, h2, h3, h4, h5, h6, h7⟩ := h
  obtain ⟨room, l⟩ := q
  simp only at h1 h2 h3 h4 ⊢
  have H1 := Lib.hid (fHas_any x h1 hx)
  by_cases hin : x ∈ l
  · rw [putF_twice room hin]
    rw [inL_iff.2 hin] at H1
    have H0 := Lib.hid h0
    clear h0 h1 h2 h3 h4 h5 h6 h7 hx hin
    go_enter Tryz.func86, Tryz.ntmps86
    go_wp2_with (go_at_call 107; (with_reducible refine H1.out.mono ?_); rintro e w1 ⟨rfl, rfl⟩)
    go_ret
    exact ⟨rfl, F, H0.out, Mv.refl _ _⟩
  · rw [inL_not.2 hin] at H1
    have H2 := Lib.hid (fLen_any h1)
    have H3 := Lib.hid (fRoom_any h1)
    by_cases hr : room ≤ (l.length : Int)
    · rw [putF_full hin hr]
      have H0 := Lib.hid h0
      clear h0 h1 h2 h3 h4 h5 h6 h7 hx hin
      go_enter Tryz.func86, Tryz.ntmps86
      go_wp2_with (first
        | (go_at_call 107; (with_reducible refine H1.out.mono ?_); rintro e w1 ⟨rfl, rfl⟩)
        | (go_at_call 92; (with_reducible refine H2.out.mono ?_); rintro e w1 ⟨rfl, rfl⟩)
        | (go_at_call 108; (with_reducible refine H3.out.mono ?_); rintro e w1 ⟨rfl, rfl⟩))
      go_ret
      exact ⟨rfl, F, H0.out, Mv.refl _ _⟩
    · rw [putF_ok hin hr]
      have hl : l.length < 1024 := by omega
      have hf := h2.fl
      obtain ⟨z, hz⟩ : ∃ z, R[(f + l.length) % 1024]? = some z := ⟨_, List.getElem?_eq_getElem (by rw [h2.len]; omega)⟩
      have HP := Lib.hid (h2.put hl x)
      have PL := fun (w1 : World) (hb1 : Below w.heap.size w w1) => Lib.hid (fPlace_any l.length (h1.kept hb1) hf (by omega))
      have LL := fun (w1 : World) (hb1 : Below w.heap.size w w1) => Lib.hid (fLen_any (h1.kept hb1))
      obtain ⟨t, ht⟩ : ∃ t, (f + l.length) % 1024 = t := ⟨_, rfl⟩
      rw [ht] at hz HP PL
      have t0 : (0 : Int) ≤ (t : Int) := by omega
      have t1 : (t : Int) < 1024 := by omega
      have HT := Lib.hid (show t < 1024 by omega)
      have HZ := Lib.hid hz
      have HQ := Lib.hid h1
      have HX := Lib.hid hx
      have HL := Lib.hid hl
      have HN := Lib.hid hin
      have HF := Lib.hid (show F p ∧ F m ∧ ∀ k, F k → k < w.heap.size from ⟨h5, h6, h7⟩)
      have HD := Lib.hid h3
      have HR := Lib.hid (show room ≤ 1024 ∧ ¬ room ≤ (l.length : Int) from ⟨h4.1, hr⟩)
      clear h0 h1 h2 h3 h4 h5 h6 h7 hx hin hl hf hz ht
      go_enter Tryz.func86, Tryz.ntmps86
      go_wp2_with (first
        | (go_at_call 107; (with_reducible refine H1.out.mono ?_); rintro e w1 ⟨rfl, rfl⟩)
        | (go_at_call 92; (with_reducible refine H2.out.mono ?_); rintro e w1 ⟨rfl, rfl⟩)
        | (go_at_call 108; (with_reducible refine H3.out.mono ?_); rintro e w1 ⟨rfl, rfl⟩))
      refine wp_region_calmT 9 (by kernel_rfl) (by simp) (by kernel_rfl) fun M => ?_
      simp only [List.take_succ_cons, List.take_zero, List.drop_succ_cons, List.drop_zero]
      have P0 := fun n : In M.w => Lib.hid ((PL n.w (M.h.trans (n.h.mono M.h.size))).out)
      have P1 := fun n : In M.w => Lib.hid ((LL n.w (M.h.trans (n.h.mono M.h.size))).out)
      repeat (go_big_quiet_step (first
        | (go_at_call 93; with_reducible exact In.call_same (P0 _).out)
        | (go_at_call 92; with_reducible exact In.call_same (P1 _).out)))
      refine wpQuiet_nil ?_
      clear P0 P1 M
      intro w2 hb2
      have hq2 := HQ.out.kept hb2
      have c1 := hq2.ring HZ.out
      have z1 := hq2.free HZ.out
      have hq3 := hq2.put HT.out x
      have ho3 := (Only.of_below (F := F) hb2).set ⟨p, t, none⟩ (.int .i64 x) HF.out.1
      obtain ⟨w4, hrun, hm, hg⟩ := hq3.map.put (by have := HL.out; omega) HX.out true
      rw [setB_not HN.out, setB_put] at hm
      have c3 := hq3.in_
      have HQ4 := Lib.hid (hq3.mapped hm hg)
      have HO4 := Lib.hid (ho3.trans (Only.grown hg fun k hk => by cases hk; exact HF.out.2.1))
      clear hq2 hq3 ho3 hm hg hb2
      go_wp2
      go_ret
      refine ⟨rfl, F, ⟨p, m, _, f, rfl, ?_, HP.out, ⟨?_, ?_⟩, ⟨HR.out.1, ?_⟩, HF.out.1, HF.out.2.1, fun k hk => Nat.lt_of_lt_of_le (HF.out.2.2 k hk) HO4.out.size⟩, HO4.out, fun _ h => .inl h⟩
      · have := HQ4.out
        simp only [Option.isSome_none, Bool.false_eq_true, if_false] at this
        show FqRaw w4 p m (R.set t x) f room (l ++ [x]).length (setB (l ++ [x]))
        rw [List.length_append]
        exact this
      · rw [List.nodup_append]
        refine ⟨HD.out.1, by simp, fun a ha b hb e => ?_⟩
        rw [List.mem_singleton] at hb
        subst hb e
        exact HN.out ha
      · intro y hy
        rcases List.mem_append.1 hy with hy | hy
        · exact HD.out.2 y hy
        · rw [List.mem_singleton] at hy
          rw [hy]
          exact HX.out
      · have := HR.out.2
        simp
        omega
theorem fPut_nil (x : Int) (w : World) : Calls Tryz.prog 86 #[.pointer none, .int .i64 x] w fun e w' => e = .returned (.int .i64 9) ∧ Below w.heap.size w w' := by
  have H1 := Lib.hid (fHas_nil x w)
  have H2 := Lib.hid (fLen_nil w)
  have H3 := Lib.hid (fRoom_nil w)
  go_enter Tryz.func86, Tryz.ntmps86
  go_wp2_with (first
    | (go_at_call 107; (with_reducible refine H1.out.mono ?_); rintro e w1 ⟨rfl, rfl⟩)
    | (go_at_call 92; (with_reducible refine H2.out.mono ?_); rintro e w1 ⟨rfl, rfl⟩)
    | (go_at_call 108; (with_reducible refine H3.out.mono ?_); rintro e w1 ⟨rfl, rfl⟩))
  go_ret
  exact ⟨rfl, Below.refl _ _⟩

set_option maxHeartbeats 4000000 in
set_option maxRecDepth 100000 in
theorem fDrop_any {F : Nat → Prop} {w : World} {v : Value} {q : Fq} (x : Int) (h : FqAt F w v q) (hx : In18 x) :
    Calls Tryz.prog 74 #[v, .int .i64 x] w fun e w' => e = .returned (.bool (wasF q.l x)) ∧ ∃ F', FqAt F' w' v ⟨q.room, dropF q.l x⟩ ∧ Mv F F' w w' := by
  have h0 := h
  obtain ⟨p, m, R, f, rfl, h1, h2, h3, h4, h5, h6, h7⟩ := h
  obtain ⟨room, l⟩ := q
  simp only at h1 h2 h3 h4 ⊢
  have H1 := Lib.hid (fAt_any x h1 h2 hx)
  rw [wasF_iff]
  by_cases hin : x ∈ l
  · rw [inL_iff.2 hin]
    have hlt : l.idxOf x < l.length := List.idxOf_lt_length_iff.2 hin
    have hp : plcL l x = ((l.idxOf x : Nat) : Int) := if_pos hin
    rw [hp] at H1
    have hg := GapR.start h2 hlt
    rw [drop_erase h3.1] at hg
    have HDL := Lib.hid (show (dropF l x).length = l.length - 1 by rw [← drop_erase h3.1, List.length_eraseIdx_of_lt hlt])
    generalize l.idxOf x = j at *
    have hn : ((j : Int) == -1) = false := beq_noI (by omega)
    have H4 := fun (w1 : World) (hb1 : Below w.heap.size w w1) => Lib.hid (h1.kept hb1)
    have HI := Lib.hid hin
    have HX := Lib.hid hx
    have HG := Lib.hid hg
    have HF := Lib.hid (show F p ∧ F m ∧ ∀ k, F k → k < w.heap.size from ⟨h5, h6, h7⟩)
    have HD := Lib.hid h3
    have HR := Lib.hid h4
    clear h0 h1 h2 h3 h4 h5 h6 h7 hx hin hlt hp hg
    go_enter Tryz.func74, Tryz.ntmps74
    go_upto_region 4 with (go_at_call 87; (with_reducible refine H1.out.mono ?_); rintro e w1 ⟨rfl, hb1⟩)
    have hq1 := (H4 w1 hb1).out
    have c3 := hq1.in_
    have HQ1 := Lib.hid hq1
    have HO1 := Lib.hid (Only.of_below (F := F) hb1)
    clear hq1 hb1 H4
    go_wp2_with (first
      | (at_delete; refine wpList_delB rfl rfl _ _ rfl rfl HQ1.out.map x HX.out rfl ?_; intro w2 hm2 hg2; rw [setB_in HI.out, setB_del] at hm2; have HQ2 := Lib.hid (HQ1.out.mapped hm2 hg2); have HO2 := Lib.hid (HO1.out.trans (Only.grown hg2 fun k hk => by cases hk; exact HF.out.2.1)); clear hm2 hg2 c3)
      | (go_at_call 88; (with_reducible refine (fClose_any j HQ2.out HG.out HF.out.1).mono ?_); rintro e w3 ⟨rfl, R', k1, k2, k3⟩; have HQ3 := Lib.hid k1; have HR3 := Lib.hid k2; have HO3 := Lib.hid (HO2.out.trans k3); clear k1 k2 k3))
    go_ret
    refine ⟨rfl, F, ⟨p, m, R', _, rfl, ?_, HR3.out, ⟨drop_nodup HD.out.1 x, fun y hy => HD.out.2 y ((dropF_mem l x y).1 hy).1⟩, ⟨HR.out.1, ?_⟩, HF.out.1, HF.out.2.1, fun k hk => Nat.lt_of_lt_of_le (HF.out.2.2 k hk) HO3.out.size⟩, HO3.out, fun _ h => .inl h⟩
    · show FqRaw w3 p m R' _ room (dropF l x).length (setB (dropF l x))
      rw [HDL.out]
      exact HQ3.out
    · have := HR.out.2
      have := dropF_len l x
      simp only
      omega
  · rw [inL_not.2 hin]
    rw [drop_none hin]
    rw [plc_none hin] at H1
    have H0 := Lib.hid fun (w' : World) (hb : Below w.heap.size w w') => h0.same hb.size fun k hk => hb.block k (h0.lt k hk)
    clear h0 h1 h2 h3 h4 h5 h6 h7 hx hin
    go_enter Tryz.func74, Tryz.ntmps74
    go_wp2_with (go_at_call 87; (with_reducible refine H1.out.mono ?_); rintro e w1 ⟨rfl, hb1⟩)
    go_ret
    exact ⟨rfl, F, H0.out _ hb1, Mv.of_below hb1⟩
theorem fDrop_nil (x : Int) (w : World) : Calls Tryz.prog 74 #[.pointer none, .int .i64 x] w fun e w' => e = .returned (.bool false) ∧ Below w.heap.size w w' := by
  have H1 := Lib.hid (fAt_nil x w)
  go_enter Tryz.func74, Tryz.ntmps74
  go_wp2_with (go_at_call 87; (with_reducible refine H1.out.mono ?_); rintro e w1 ⟨rfl, hb1⟩)
  go_ret
  exact ⟨rfl, hb1⟩

set_option maxHeartbeats 2000000 in
theorem fTake_any {F : Nat → Prop} {w : World} {v : Value} {q : Fq} (h : FqAt F w v q) :
    Calls Tryz.prog 75 #[v] w fun e w' => e = .returned (.tuple #[.int .i64 (hdF q.l).1, .bool (hdF q.l).2]) ∧ ∃ F', FqAt F' w' v ⟨q.room, q.l.drop 1⟩ ∧ Mv F F' w w' := by
  have h0 := h
  obtain ⟨p, m, R, f, rfl, h1, h2, h3, h4, h5, h6, h7⟩ := h
  have H1 := Lib.hid (fFirst_any h1 h2)
  have ht : wasF q.l (hdF q.l).1 = (hdF q.l).2 ∧ dropF q.l (hdF q.l).1 = q.l.drop 1 ∧ In18 (hdF q.l).1 := by
    cases hq : q.l with
    | nil => exact ⟨rfl, rfl, by simp [hdF, In18]⟩
    | cons x t =>
      rw [hq] at h3
      exact ⟨(wasF_iff _ _).trans (inL_iff.2 List.mem_cons_self), drop_head h3.1, h3.2 x List.mem_cons_self⟩
  obtain ⟨t1, t2, t3⟩ := ht
  have H2 := Lib.hid fun (w1 : World) (hb : Below w.heap.size w w1) => fDrop_any (hdF q.l).1 (h0.same hb.size fun k hk => hb.block k (h0.lt k hk)) t3
  rw [t1, t2] at H2
  generalize (hdF q.l).1 = a at *
  generalize (hdF q.l).2 = b at *
  generalize q.l.drop 1 = T at *
  clear h0 h1 h2 h3 h4 h5 h6 h7 t1 t2 t3
  go_enter Tryz.func75, Tryz.ntmps75
  go_wp2_with (first
    | (go_at_call 89; (with_reducible refine H1.out.mono ?_); rintro e w1 ⟨rfl, hb1⟩)
    | (go_at_call 74; (with_reducible refine (H2.out _ hb1).mono ?_); rintro e w2 ⟨rfl, F', k1, k2⟩; have HQ := Lib.hid k1; have HM := Lib.hid ((Mv.of_below hb1).trans k2); clear k1 k2))
  exact bodyPost_ret (v := .tuple #[.int .i64 a, .bool b]) (by simp [results, Tryz.results75, go_sem]) rfl ⟨rfl, F', HQ.out, HM.out⟩
theorem fTake_nil (w : World) : Calls Tryz.prog 75 #[.pointer none] w fun e w' => e = .returned (.tuple #[.int .i64 0, .bool false]) ∧ Below w.heap.size w w' := by
  have H1 := Lib.hid (fFirst_nil w)
  have H2 := Lib.hid fun w => fDrop_nil 0 w
  go_enter Tryz.func75, Tryz.ntmps75
  go_wp2_with (first
    | (go_at_call 89; (with_reducible refine H1.out.mono ?_); rintro e w1 ⟨rfl, hb1⟩)
    | (go_at_call 74; (with_reducible refine (H2.out _).mono ?_); rintro e w2 ⟨rfl, hb2⟩))
  exact bodyPost_ret (v := .tuple #[.int .i64 0, .bool false]) (by simp [results, Tryz.results75, go_sem]) rfl ⟨rfl, hb1.trans (hb2.mono hb1.size)⟩

theorem quiet18 {P : Program} {f : Nat} {args : Array Value} {w : World} {v : Value} (h : Calls P f args w fun e w' => e = .returned v ∧ w = w') : Calls P f args w fun e w' => e = .returned v ∧ Below w.heap.size w w' :=
  h.mono fun _ _ ⟨h1, h2⟩ => ⟨h1, h2 ▸ Below.refl _ _⟩
/-- package fifo -/
def fProg : FifoProg where
  obj := ⟨FqAt, FqAt.same, FqAt.lt⟩
  new := fNew_any
  put := fun x h hx => fPut_any x h hx
  take := fun h => fTake_any h
  drop := fun x h hx => fDrop_any x h hx
  first := fun h => by
    obtain ⟨p, m, R, f, rfl, h1, h2, _⟩ := h
    exact fFirst_any h1 h2
  at_ := fun x h hx => by
    obtain ⟨p, m, R, f, rfl, h1, h2, _⟩ := h
    exact fAt_any x h1 h2 hx
  list := fun h => by
    obtain ⟨p, m, R, f, rfl, h1, h2, _⟩ := h
    exact fList_any h1 h2
  len := fun h => by
    obtain ⟨p, m, R, f, rfl, h1, h2, _⟩ := h
    exact quiet18 (fLen_any h1)
  room := fun h => by
    obtain ⟨p, m, R, f, rfl, h1, h2, _⟩ := h
    exact quiet18 (fRoom_any h1)
  put_nil := fPut_nil
  take_nil := fTake_nil
  drop_nil := fDrop_nil
  first_nil := fFirst_nil
  at_nil := fAt_nil
  len_nil := fun w => quiet18 (fLen_nil w)
  room_nil := fun w => quiet18 (fRoom_nil w)
end Go.Proofs.YtjmgokjljmmmgaaGreat
/- Stage 19's program: a lock in memory: its queue, its ID, its holder; all its contracts. -/
namespace Go.Proofs.YtjmgokjljmmmgaaGreat
open Go.RowKit

/-- a lock's block b, its queue at m in blocks of G -/
def LkAt (F : Nat → Prop) (w : World) (v : Value) (q : Lq) : Prop :=
  ∃ b m G, v = ptr18 b ∧ Blk w b [ptr18 m, .int .i64 q.id, .int .i64 q.holder] ∧ FqAt G w (ptr18 m) ⟨64, q.wait⟩ ∧ ¬ G b ∧ F b ∧ (∀ k, G k → F k) ∧ (∀ k, F k → k < w.heap.size) ∧ ∀ x ∈ q.wait, 1 ≤ x
theorem LkAt.same {F : Nat → Prop} {w w' : World} {v : Value} {q : Lq} (h : LkAt F w v q) (hz : w.heap.size ≤ w'.heap.size) (he : ∀ k, F k → w'.heap[k]? = w.heap[k]?) : LkAt F w' v q := by
  obtain ⟨b, m, G, rfl, h1, h2, h3, h4, h5, h6, h7⟩ := h
  exact ⟨b, m, G, rfl, h1.same (he b h4), h2.same hz fun k hk => he k (h5 k hk), h3, h4, h5, fun k hk => Nat.lt_of_lt_of_le (h6 k hk) hz, h7⟩
theorem LkAt.lt {F : Nat → Prop} {w : World} {v : Value} {q : Lq} (h : LkAt F w v q) : ∀ k, F k → k < w.heap.size := by
  obtain ⟨b, m, G, rfl, h1, h2, h3, h4, h5, h6, h7⟩ := h
  exact h6
theorem LkAt.kept {F : Nat → Prop} {w w' : World} {v : Value} {q : Lq} (h : LkAt F w v q) (hb : Below w.heap.size w w') : LkAt F w' v q := h.same hb.size fun k hk => hb.block k (h.lt k hk)
theorem FqAt.kept {F : Nat → Prop} {w w' : World} {v : Value} {q : Fq} (h : FqAt F w v q) (hb : Below w.heap.size w w') : FqAt F w' v q := h.same hb.size fun k hk => hb.block k (h.lt k hk)
/-- the queue has gone on, and the lock's own cells may be others -/
theorem LkAt.next {F G G' : Nat → Prop} {w w1 w2 : World} {b m : Nat} {id h : Int} {vs : List Value} {L : List Int} (h3 : ¬ G b) (h4 : F b) (h5 : ∀ k, G k → F k) (h6 : ∀ k, F k → k < w.heap.size) (hm : Mv G G' w w1) (ho : Only (fun k => k = b) w1 w2)
    (hb : Blk w2 b (ptr18 m :: .int .i64 id :: .int .i64 h :: vs)) (hq : FqAt G' w1 (ptr18 m) ⟨64, L⟩) (h7 : ∀ x ∈ L, 1 ≤ x) :
    ∃ F', LkAt F' w2 (ptr18 b) ⟨id, h, L⟩ ∧ Mv F F' w w2 := by
  have hbG : ¬ G' b := hm.off (h6 b h4) h3
  refine ⟨fun k => F k ∨ G' k, ⟨b, m, G', rfl, fun j u hu => hb j u ?_, hq.same ho.size fun k hk => ho.block k (hq.lt k hk) (fun e => hbG (e ▸ hk)), hbG, .inl h4, fun k hk => .inr hk, fun k hk => ?_, h7⟩, ?_, fun k hk => ?_⟩
  · match j, hu with
    | 0, hu => exact hu
    | 1, hu => exact hu
    | 2, hu => exact hu
    | _ + 3, hu => cases hu
  · have h8 := hm.only.size
    have h9 := ho.size
    rcases hk with hk | hk
    · have := h6 k hk
      omega
    · have := hq.lt k hk
      omega
  · exact (hm.only.mono h5).trans (ho.mono fun k hk => hk ▸ h4)
  · rcases hk with hk | hk
    · exact .inl hk
    · rcases hm.sub k hk with h | h
      · exact .inl (h5 k h)
      · exact .inr h

/-- those that wait, by value -/
abbrev wtv (m : Nat) : Value := .agg #[ptr18 m]
section
variable {w : World} {m : Nat} {L : List Int} {G : Nat → Prop}
set_option maxHeartbeats 2000000 in
theorem lkQueueUp_any (t : Int) (hq : FqAt G w (ptr18 m) ⟨64, L⟩) (ht : In18 t) : Calls Tryz.prog 73 #[wtv m, .int .i64 t] w fun e w' => e = .returned (.int .i64 (putF L 64 t).2) ∧ ∃ G', FqAt G' w' (ptr18 m) ⟨64, (putF L 64 t).1⟩ ∧ Mv G G' w w' := by
  have b1 := (Below.refl w.heap.size w).alloc (Nat.le_refl _) (.cells #[ptr18 m] 96)
  have H := Lib.hid (fPut_any t (hq.kept b1) ht)
  have c0 := (Blk.new w [ptr18 m] 96).cell 0 rfl
  have HB := Lib.hid b1
  generalize (putF L 64 t).1 = L' at *
  generalize (putF L 64 t).2 = r at *
  clear b1 hq ht
  go_enter Tryz.func73, Tryz.ntmps73
  go_wp2_with (go_at_call 86; (with_reducible refine H.out.mono ?_); rintro e w1 ⟨rfl, G', k1, k2⟩; have HQ := Lib.hid k1; have HM := Lib.hid ((Mv.of_below HB.out).trans k2); clear k1 k2)
  go_ret
  exact ⟨rfl, G', HQ.out, HM.out⟩
set_option maxHeartbeats 2000000 in
theorem lkCallNext_any (hq : FqAt G w (ptr18 m) ⟨64, L⟩) : Calls Tryz.prog 58 #[wtv m] w fun e w' => e = .returned (.tuple #[.int .i64 (hdF L).1, .bool (hdF L).2]) ∧ ∃ G', FqAt G' w' (ptr18 m) ⟨64, L.drop 1⟩ ∧ Mv G G' w w' := by
  have b1 := (Below.refl w.heap.size w).alloc (Nat.le_refl _) (.cells #[ptr18 m] 96)
  have H := Lib.hid (fTake_any (hq.kept b1))
  have c0 := (Blk.new w [ptr18 m] 96).cell 0 rfl
  have HB := Lib.hid b1
  simp only at H
  generalize (hdF L).1 = x at *
  generalize (hdF L).2 = r at *
  generalize L.drop 1 = L' at *
  clear b1 hq
  go_enter Tryz.func58, Tryz.ntmps58
  go_wp2_with (go_at_call 75; (with_reducible refine H.out.mono ?_); rintro e w1 ⟨rfl, G', k1, k2⟩; have HQ := Lib.hid k1; have HM := Lib.hid ((Mv.of_below HB.out).trans k2); clear k1 k2)
  exact bodyPost_ret (v := .tuple #[.int .i64 x, .bool r]) (by simp [results, Tryz.results58, go_sem]) rfl ⟨rfl, G', HQ.out, HM.out⟩
set_option maxHeartbeats 2000000 in
theorem lkGiveUp_any (t : Int) (hq : FqAt G w (ptr18 m) ⟨64, L⟩) (ht : In18 t) : Calls Tryz.prog 57 #[wtv m, .int .i64 t] w fun e w' => e = .returned (.bool (wasF L t)) ∧ ∃ G', FqAt G' w' (ptr18 m) ⟨64, dropF L t⟩ ∧ Mv G G' w w' := by
  have b1 := (Below.refl w.heap.size w).alloc (Nat.le_refl _) (.cells #[ptr18 m] 96)
  have H := Lib.hid (fDrop_any t (hq.kept b1) ht)
  have c0 := (Blk.new w [ptr18 m] 96).cell 0 rfl
  have HB := Lib.hid b1
  simp only at H
  generalize wasF L t = r at *
  generalize dropF L t = L' at *
  clear b1 hq ht
  go_enter Tryz.func57, Tryz.ntmps57
  go_wp2_with (go_at_call 74; (with_reducible refine H.out.mono ?_); rintro e w1 ⟨rfl, G', k1, k2⟩; have HQ := Lib.hid k1; have HM := Lib.hid ((Mv.of_below HB.out).trans k2); clear k1 k2)
  go_ret
  exact ⟨rfl, G', HQ.out, HM.out⟩
set_option maxHeartbeats 2000000 in
theorem lkInOrder_any (hq : FqAt G w (ptr18 m) ⟨64, L⟩) : Calls Tryz.prog 64 #[wtv m] w fun e w' => ∃ v, e = .returned v ∧ OwnO w' 1 csI v L ∧ (∀ g, v.ownBlock = some g → w.heap.size ≤ g) ∧ Below w.heap.size w w' := by
  have b1 := (Below.refl w.heap.size w).alloc (Nat.le_refl _) (.cells #[ptr18 m] 96)
  have H := Lib.hid (show Calls Tryz.prog 78 #[ptr18 m] _ _ from by
    obtain ⟨p, m1, R, f, e, h1, h2, _⟩ := hq.kept b1
    obtain rfl : m = p := by simpa [ptr18] using e
    exact fList_own h1 h2)
  have c0 := (Blk.new w [ptr18 m] 96).cell 0 rfl
  have HB := Lib.hid b1
  clear b1 hq
  go_enter Tryz.func64, Tryz.ntmps64
  go_wp2_with (go_at_call 78; (with_reducible refine H.out.mono ?_); rintro e w1 ⟨v, rfl, h, hb⟩; have HI := Lib.hid (And.intro (OwnR.own h) (fun g hg => Nat.le_trans HB.out.size (World.ownsRow.lt h g hg).1)); have HB2 := Lib.hid (HB.out.trans (hb.mono HB.out.size)); clear h hb)
  go_ret
  exact ⟨_, rfl, HI.out.1, HI.out.2, HB2.out⟩
end

set_option maxHeartbeats 2000000 in
theorem lkNew_any (id : Int) (w : World) : Calls Tryz.prog 22 #[.int .i64 id] w fun e w' => ∃ p F, e = .returned p ∧ LkAt F w' p ⟨id, 0, []⟩ ∧ (∀ k, F k → w.heap.size ≤ k) ∧ Below w.heap.size w w' := by
  have H := Lib.hid fun w => fNew_any 64 w (by simp [In18])
  go_enter Tryz.func22, Tryz.ntmps22
  go_wp2_with (go_at_call 51; (with_reducible refine (H.out _).mono ?_); rintro e w1 ⟨v, G, rfl, h1, h2, h3⟩; obtain ⟨m, hm⟩ : ∃ m, v = ptr18 m := by { obtain ⟨m, _, _, _, rfl, _⟩ := h1; exact ⟨m, rfl⟩ }; subst hm; have HQ := Lib.hid h1; have HG := Lib.hid h2; have HB := Lib.hid h3; clear h1 h2 h3)
  go_ret
  have b1 := (Below.refl w1.heap.size w1).alloc (Nat.le_refl _) (.cells #[ptr18 m, .int .i64 id, .int .i64 0] 98)
  have hz : w.heap.size ≤ w1.heap.size := HB.out.size
  refine ⟨_, fun k => k = w1.heap.size ∨ G k, rfl, ⟨w1.heap.size, m, G, rfl, Blk.new w1 _ _, HQ.out.kept b1, fun h => Nat.lt_irrefl _ (HQ.out.lt _ h), .inl rfl, fun k hk => .inr hk, fun k hk => ?_, fun x hx => by cases hx⟩, fun k hk => ?_, HB.out.trans (b1.mono hz)⟩
  · rcases hk with rfl | hk
    · simp
    · have := HQ.out.lt k hk
      simp
      omega
  · rcases hk with rfl | hk
    · exact hz
    · exact HG.out k hk

set_option maxHeartbeats 4000000 in
set_option maxRecDepth 100000 in
theorem lkAsk_any {F : Nat → Prop} {w : World} {v : Value} {q : Lq} (t : Int) (h : LkAt F w v q) (ht : In18 t) :
    Calls Tryz.prog 56 #[v, .int .i64 t] w fun e w' => e = .returned (.int .i64 (askL q.holder q.wait t).2) ∧ ∃ F', LkAt F' w' v ⟨q.id, q.holder, (askL q.holder q.wait t).1⟩ ∧ Mv F F' w w' := by
  have h0 := h
  obtain ⟨b, m, G, rfl, h1, h2, h3, h4, h5, h6, h7⟩ := h
  obtain ⟨id, hd, L⟩ := q
  simp only at h1 h2 h7 h0 ⊢
  have c0 := h1.cell 0 rfl
  have c2 := h1.cell 2 rfl
  have H0 := Lib.hid h0
  by_cases e1 : t < 1
  · have ea : askL hd L t = (L, 1) := by unfold askL; rw [if_pos e1]
    rw [ea]
    clear ea h0 h1 h2 h3 h4 h5 h6 h7 ht
    go_enter Tryz.func56, Tryz.ntmps56
    go_wp2
    go_ret
    exact ⟨rfl, F, H0.out, Mv.refl _ _⟩
  by_cases e2 : t = hd
  · subst e2
    have ea : askL t L t = (L, 6) := by unfold askL; rw [if_neg e1, if_pos (.inl rfl)]
    rw [ea]
    clear ea h0 h1 h2 h3 h4 h5 h6 h7 ht
    go_enter Tryz.func56, Tryz.ntmps56
    go_wp2
    go_ret
    exact ⟨rfl, F, H0.out, Mv.refl _ _⟩
  · have ea : askL hd L t = putF L 64 t := by
      unfold askL putF
      rw [if_neg e1]
      by_cases e3 : t ∈ L
      · rw [if_pos (.inr e3), if_pos e3]
      · rw [if_neg (fun h => h.elim (fun h => e2 h.symm) e3), if_neg e3]
        by_cases e4 : 64 ≤ L.length
        · rw [if_pos e4, if_pos (by omega)]
        · rw [if_neg e4, if_neg (by omega)]
    have hp : ∀ x ∈ (putF L 64 t).1, 1 ≤ x := by
      intro x hx
      unfold putF at hx
      split at hx
      · exact h7 x hx
      · split at hx
        · exact h7 x hx
        · rcases List.mem_append.1 hx with hx | hx
          · exact h7 x hx
          · rw [List.mem_singleton] at hx
            omega
    rw [ea]
    have H := Lib.hid (lkQueueUp_any t h2 ht)
    have e2b : (t == hd) = false := beq_noI e2
    generalize (putF L 64 t).1 = L' at *
    generalize (putF L 64 t).2 = r at *
    have HK := Lib.hid (And.intro h1 (And.intro h3 (And.intro h4 (And.intro h5 (And.intro h6 hp)))))
    clear ea h0 h1 h2 h3 h4 h5 h6 h7 hp ht e2 H0
    go_enter Tryz.func56, Tryz.ntmps56
    go_wp2_with (go_at_call 73; (with_reducible refine H.out.mono ?_); rintro e w1 ⟨rfl, G', k1, k2⟩; have HQ := Lib.hid k1; have HM := Lib.hid k2; clear k1 k2)
    go_ret
    obtain ⟨h1, h3, h4, h5, h6, hp⟩ := HK.out
    exact ⟨rfl, LkAt.next h3 h4 h5 h6 HM.out (Only.refl _ _) (h1.same (HM.out.only.block b (h6 b h4) h3)) HQ.out hp⟩
theorem lkAsk_nil (t : Int) (w : World) : Calls Tryz.prog 56 #[.pointer none, .int .i64 t] w fun e w' => e = .returned (.int .i64 9) ∧ Below w.heap.size w w' := by
  go_enter Tryz.func56, Tryz.ntmps56
  go_wp2
  go_ret
  exact ⟨rfl, Below.refl _ _⟩

set_option maxHeartbeats 4000000 in
set_option maxRecDepth 100000 in
theorem lkGrant_any {F : Nat → Prop} {w : World} {v : Value} {q : Lq} (h : LkAt F w v q) :
    Calls Tryz.prog 32 #[v] w fun e w' => e = .returned (.tuple #[.int .i64 (grantL q.holder q.wait).2.2.1, .bool (grantL q.holder q.wait).2.2.2]) ∧ ∃ F', LkAt F' w' v ⟨q.id, (grantL q.holder q.wait).1, (grantL q.holder q.wait).2.1⟩ ∧ Mv F F' w w' := by
  have h0 := h
  obtain ⟨b, m, G, rfl, h1, h2, h3, h4, h5, h6, h7⟩ := h
  obtain ⟨id, hd, L⟩ := q
  simp only at h1 h2 h7 h0 ⊢
  have c0 := h1.cell 0 rfl
  have c2 := h1.cell 2 rfl
  have H0 := Lib.hid h0
  by_cases e1 : hd = 0
  · subst e1
    have H := Lib.hid (lkCallNext_any h2)
    have HK := Lib.hid (And.intro h1 (And.intro h3 (And.intro h4 (And.intro h5 (And.intro h6 h7)))))
    cases L with
    | nil =>
      have ea : grantL 0 [] = (0, [], 0, false) := by simp [grantL]
      rw [ea]
      simp only [hdF, List.drop_nil] at H
      clear ea h0 h1 h2 h3 h4 h5 h6 h7 H0
      go_enter Tryz.func32, Tryz.ntmps32
      go_wp2_with (go_at_call 58; (with_reducible refine H.out.mono ?_); rintro e w1 ⟨rfl, G', k1, k2⟩; have HQ := Lib.hid k1; have HM := Lib.hid k2; clear k1 k2)
      obtain ⟨h1, h3, h4, h5, h6, hp⟩ := HK.out
      exact bodyPost_ret (v := .tuple #[.int .i64 0, .bool false]) (by simp [results, Tryz.results32, go_sem]) rfl ⟨rfl, LkAt.next h3 h4 h5 h6 HM.out (Only.refl _ _) (h1.same (HM.out.only.block b (h6 b h4) h3)) HQ.out hp⟩
    | cons x T =>
      have ea : grantL 0 (x :: T) = (x, T, x, true) := by simp [grantL]
      rw [ea]
      simp only [hdF, List.drop_succ_cons, List.drop_zero] at H
      clear ea h0 h1 h2 h3 h4 h5 h6 h7 H0
      go_enter Tryz.func32, Tryz.ntmps32
      go_upto_region 5 with (go_at_call 58; (with_reducible refine H.out.mono ?_); rintro e w1 ⟨rfl, G', k1, k2⟩; have HQ := Lib.hid k1; have HM := Lib.hid k2; clear k1 k2)
      obtain ⟨h1, h3, h4, h5, h6, hp⟩ := HK.out
      have g1 := h1.same (HM.out.only.block b (h6 b h4) h3)
      have z2 := g1.free 2 rfl
      have c2' := g1.cell 2 rfl
      have HF := Lib.hid (LkAt.next h3 h4 h5 h6 HM.out ((Only.refl (fun k => k = b) w1).set ⟨b, 2, none⟩ (.int .i64 x) rfl) (g1.set 2 (.int .i64 x)) HQ.out fun y hy => hp y (List.mem_cons_of_mem _ hy))
      clear c0 c2 h1 h3 h4 h5 h6 hp g1 HK HQ HM H
      go_wp2
      exact bodyPost_ret (v := .tuple #[.int .i64 x, .bool true]) (by simp [results, Tryz.results32, go_sem]) rfl ⟨rfl, HF.out⟩
  · have ea : grantL hd L = (hd, L, 0, false) := by unfold grantL; rw [if_neg e1]
    have e2 : (hd != 0) = true := by simp [e1]
    rw [ea]
    clear ea h0 h1 h2 h3 h4 h5 h6 h7 e1
    go_enter Tryz.func32, Tryz.ntmps32
    go_wp2
    exact bodyPost_ret (v := .tuple #[.int .i64 0, .bool false]) (by simp [results, Tryz.results32, go_sem]) rfl ⟨rfl, F, H0.out, Mv.refl _ _⟩
theorem lkGrant_nil (w : World) : Calls Tryz.prog 32 #[.pointer none] w fun e w' => e = .returned (.tuple #[.int .i64 0, .bool false]) ∧ Below w.heap.size w w' := by
  go_enter Tryz.func32, Tryz.ntmps32
  go_wp2
  exact bodyPost_ret (v := .tuple #[.int .i64 0, .bool false]) (by simp [results, Tryz.results32, go_sem]) rfl ⟨rfl, Below.refl _ _⟩

set_option maxHeartbeats 4000000 in
set_option maxRecDepth 100000 in
theorem lkLeave_any {F : Nat → Prop} {w : World} {v : Value} {q : Lq} (t : Int) (h : LkAt F w v q) (ht : In18 t) :
    Calls Tryz.prog 29 #[v, .int .i64 t] w fun e w' => e = .returned (.int .i64 (leaveL q.holder q.wait t).2.2) ∧ ∃ F', LkAt F' w' v ⟨q.id, (leaveL q.holder q.wait t).1, (leaveL q.holder q.wait t).2.1⟩ ∧ Mv F F' w w' := by
  have h0 := h
  obtain ⟨b, m, G, rfl, h1, h2, h3, h4, h5, h6, h7⟩ := h
  obtain ⟨id, hd, L⟩ := q
  simp only at h1 h2 h7 h0 ⊢
  have c0 := h1.cell 0 rfl
  have c2 := h1.cell 2 rfl
  have z2 := h1.free 2 rfl
  have H0 := Lib.hid h0
  by_cases e1 : t < 1
  · have ea : leaveL hd L t = (hd, L, 0) := by
      unfold leaveL
      rw [if_neg (fun h => by omega), wasF_iff, inL_not.2 (fun h => by have := h7 t h; omega)]
      rfl
    rw [ea]
    clear ea h0 h1 h2 h3 h4 h5 h6 h7 ht
    go_enter Tryz.func29, Tryz.ntmps29
    go_wp2
    go_ret
    exact ⟨rfl, F, H0.out, Mv.refl _ _⟩
  by_cases e2 : t = hd
  · subst e2
    have ea : leaveL t L t = (0, L, 2) := by unfold leaveL; rw [if_pos ⟨by omega, rfl⟩]
    rw [ea]
    have HF := Lib.hid (LkAt.next h3 h4 h5 h6 (Mv.refl G w) ((Only.refl (fun k => k = b) w).set ⟨b, 2, none⟩ (.int .i64 0) rfl) (h1.set 2 (.int .i64 0)) h2 h7)
    clear ea h0 h1 h2 h3 h4 h5 h6 h7 ht
    go_enter Tryz.func29, Tryz.ntmps29
    go_wp2
    go_ret
    exact ⟨rfl, HF.out⟩
  · have e2b : (t == hd) = false := beq_noI e2
    have H := Lib.hid (lkGiveUp_any t h2 ht)
    have hp : ∀ x ∈ dropF L t, 1 ≤ x := fun x hx => h7 x ((dropF_mem L t x).1 hx).1
    have ea : leaveL hd L t = (hd, dropF L t, if wasF L t then 1 else 0) := by
      unfold leaveL
      rw [if_neg (fun h => e2 h.2.symm)]
      by_cases e3 : t ∈ L
      · rw [wasF_iff, inL_iff.2 e3]
        rfl
      · rw [wasF_iff, inL_not.2 e3, drop_none e3]
        rfl
    rw [ea]
    generalize dropF L t = L' at *
    generalize wasF L t = r at *
    have HK := Lib.hid (And.intro h1 (And.intro h3 (And.intro h4 (And.intro h5 (And.intro h6 hp)))))
    clear ea h0 h1 h2 h3 h4 h5 h6 h7 hp ht e2 H0
    cases r <;> simp only [if_true, Bool.false_eq_true, if_false]
    all_goals
      go_enter Tryz.func29, Tryz.ntmps29
      go_wp2_with (go_at_call 57; (with_reducible refine H.out.mono ?_); rintro e w1 ⟨rfl, G', k1, k2⟩; have HQ := Lib.hid k1; have HM := Lib.hid k2; clear k1 k2)
      go_ret
      obtain ⟨h1, h3, h4, h5, h6, hp⟩ := HK.out
      exact ⟨rfl, LkAt.next h3 h4 h5 h6 HM.out (Only.refl _ _) (h1.same (HM.out.only.block b (h6 b h4) h3)) HQ.out hp⟩
theorem lkLeave_nil (t : Int) (w : World) : Calls Tryz.prog 29 #[.pointer none, .int .i64 t] w fun e w' => e = .returned (.int .i64 0) ∧ Below w.heap.size w w' := by
  go_enter Tryz.func29, Tryz.ntmps29
  go_wp2
  go_ret
  exact ⟨rfl, Below.refl _ _⟩

end Go.Proofs.YtjmgokjljmmmgaaGreat
/- Stage 19's program: View; package lock as a whole. -/
namespace Go.Proofs.YtjmgokjljmmmgaaGreat
open Go.RowKit

set_option maxHeartbeats 4000000 in
set_option maxRecDepth 100000 in
theorem lkViewN_any {F : Nat → Prop} {w : World} {v : Value} {q : Lq} (h : LkAt F w v q) : Calls Tryz.prog 43 #[v] w fun e w' => ∃ v, e = .returned (lkv q.id q.holder v) ∧ IntsAt w' v q.wait ∧ (∀ k, v.ownBlock = some k → w.heap.size ≤ k) ∧ Below w.heap.size w w' := by
  obtain ⟨b, m, G, rfl, h1, h2, h3, h4, h5, h6, h7⟩ := h
  obtain ⟨id, hd, L⟩ := q
  simp only at h1 h2 ⊢
  have b1 := (Below.refl w.heap.size w).alloc (Nat.le_refl _) (.cells #[.int .i64 0, .int .i64 0, .slice none 0 0] 50)
  have hY := Blk.new w [.int .i64 0, .int .i64 0, .slice none 0 0] 50
  have g1 := h1.kept b1
  have H := Lib.hid fun (w1 : World) (hb : Below (w.alloc (.cells #[.int .i64 0, .int .i64 0, .slice none 0 0] 50)).heap.size (w.alloc (.cells #[.int .i64 0, .int .i64 0, .slice none 0 0] 50)) w1) => lkInOrder_any ((h2.kept b1).kept hb)
  obtain ⟨n, hn⟩ : ∃ n, L.length = n := ⟨_, rfl⟩
  have HN := Lib.hid hn.symm
  have HB := Lib.hid b1
  have HY := Lib.hid hY
  have x0 := h1.cell 0 rfl
  have x1 := h1.cell 1 rfl
  have x2 := h1.cell 2 rfl
  have c0 := g1.cell 0 rfl
  have c1 := g1.cell 1 rfl
  have c2 := g1.cell 2 rfl
  clear h1 h2 h3 h4 h5 h6 h7 hn b1 hY g1
  go_enter Tryz.func43, Tryz.ntmps43
  go_upto_region 3 with fail
  have HZ := Lib.hid (show (w.alloc (.cells #[.int .i64 0, .int .i64 0, .slice none 0 0] 50)).heap.size = w.heap.size + 1 by simp)
  generalize w.alloc (.cells #[.int .i64 0, .int .i64 0, .slice none 0 0] 50) = w1 at *
  refine wp_region_chain 14 [.calm 12, .own (Lk.list (w.heap.size + 1) 1 csI n L), .calm 1] [12] rfl (by kernel_rfl) (by simp) (by kernel_rfl) (by kernel_rfl) ?_
  simp only [List.take_succ_cons, List.take_zero, List.drop_succ_cons, List.drop_zero]
  refine ⟨by simp, fun M => ?_⟩
  simp only [List.take_succ_cons, List.take_zero, List.drop_succ_cons, List.drop_zero]
  have k0 := fun n : In M.w => n.cell (M.cell c0)
  have k1 := fun n : In M.w => n.cell (M.cell c1)
  have k2 := fun n : In M.w => n.cell (M.cell c2)
  repeat (go_big_quiet_step (fail))
  refine wpQuiet_nil ?_
  clear k0 k1 k2 M
  refine ⟨rfl, Lk.at_call HZ.out (f := 64) (args := #[wtv m]) n L HN.out (fun k => by simp [go_sem]) (fun k => H.out k.w k.h), fun y A hA => ?_⟩
  simp [Act.put, Lk.list] at hA
  subst hA
  refine ⟨by simp, fun M => ?_⟩
  simp only [List.take_succ_cons, List.take_zero, List.drop_succ_cons, List.drop_zero]
  repeat (go_big_quiet_step (fail))
  refine wpQuiet_nil ?_
  clear M
  refine ⟨rfl, fun w5 hb5 h5 => ?_⟩
  obtain ⟨y1, y2⟩ := y
  have HI := Lib.hid (show OwnO w5 1 csI (.slice y1 n y2) L ∧ ∀ g, (Value.slice y1 n y2).ownBlock = some g → w.heap.size + 1 ≤ g from h5)
  have hy := HY.out.kept hb5
  have f0 := hy.free 0 rfl
  have f1 := hy.free 1 rfl
  have f2 := hy.free 2 rfl
  have d0 := hy.cell 0 rfl
  have d1 := hy.cell 1 rfl
  have d2 := hy.cell 2 rfl
  have ht := ((hy.set 0 (.int .i64 id)).set 1 (.int .i64 hd)).set 2 (.slice y1 n y2)
  have HT := Lib.hid ht
  have HB5 := Lib.hid hb5
  clear hb5 h5 hy ht c0 c1 c2 x0 x1 x2
  go_wp2
  have HBF := Lib.hid ((((HB.out.trans (HB5.out.mono HB.out.size)).setCell (p := ⟨w.heap.size, 0, none⟩) (by simp) (.int .i64 id)).setCell (p := ⟨w.heap.size, 1, none⟩) (by simp) (.int .i64 hd)).setCell (p := ⟨w.heap.size, 2, none⟩) (by simp) (.slice y1 n y2))
  have r0 := HT.out.cell 0 rfl
  have r1 := HT.out.cell 1 rfl
  have r2 := HT.out.cell 2 rfl
  refine bodyPost_ret (v := lkv id hd (.slice y1 n y2)) ?_ rfl ⟨_, rfl, ?_, fun k hk => Nat.le_of_succ_le (HI.out.2 k hk), HBF.out⟩
  · simp [results, Tryz.results43, go_sem, r0, r1, r2]
  · have hne : ∀ g, (Value.slice y1 n y2).ownBlock = some g → g ≠ w.heap.size := fun g hg => by
      have := HI.out.2 g hg
      omega
    exact RowsAt.ints (OwnO.rows csI_len (((HI.out.1.away ⟨w.heap.size, 0, none⟩ (.int .i64 id) hne).away ⟨w.heap.size, 1, none⟩ (.int .i64 hd) hne).away ⟨w.heap.size, 2, none⟩ (.slice y1 n y2) hne))
theorem lkView_any {F : Nat → Prop} {w : World} {v : Value} {q : Lq} (h : LkAt F w v q) : Calls Tryz.prog 43 #[v] w fun e w' => ∃ v, e = .returned (lkv q.id q.holder v) ∧ IntsAt w' v q.wait ∧ Below w.heap.size w w' := by
  refine (lkViewN_any h).mono ?_
  rintro e w' ⟨v, h1, h2, _, h3⟩
  exact ⟨v, h1, h2, h3⟩
theorem lkView_nil (w : World) : Calls Tryz.prog 43 #[.pointer none] w fun e w' => ∃ v, e = .returned (lkv 0 0 v) ∧ Below w.heap.size w w' := by
  have b1 := (Below.refl w.heap.size w).alloc (Nat.le_refl _) (.cells #[.int .i64 0, .int .i64 0, .slice none 0 0] 50)
  go_enter Tryz.func43, Tryz.ntmps43
  go_wp2
  refine bodyPost_ret (v := lkv 0 0 (.slice none 0 0)) ?_ rfl ⟨_, rfl, b1⟩
  simp [results, Tryz.results43, go_sem]

end Go.Proofs.YtjmgokjljmmmgaaGreat
