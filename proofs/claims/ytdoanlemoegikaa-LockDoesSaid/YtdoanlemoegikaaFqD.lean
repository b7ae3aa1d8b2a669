/- Stage 18's program: Put, Drop, Take; all contracts as one structure. -/
import Derived.Test.YtdoanlemoegikaaFqC
import Derived.Deep.DeepCutAuto
namespace Go.Proofs.Ytdoanlemoegikaa
open Go.RowKit

theorem putF_twice {l : List Int} {x : Int} (room : Int) (h : x ∈ l) : putF l room x = (l, 6) := if_pos h
theorem putF_full {l : List Int} {x room : Int} (h : x ∉ l) (hr : room ≤ (l.length : Int)) : putF l room x = (l, 9) := by unfold putF; rw [if_neg h, if_pos hr]
theorem putF_ok {l : List Int} {x room : Int} (h : x ∉ l) (hr : ¬ room ≤ (l.length : Int)) : putF l room x = (l ++ [x], 0) := by unfold putF; rw [if_neg h, if_neg hr]

set_option maxHeartbeats 4000000 in
set_option maxRecDepth 100000 in
theorem fPut_any {F : Nat → Prop} {w : World} {v : Value} {q : Fq} (x : Int) (h : FqAt F w v q) (hx : In18 x) :
    Calls Try.prog 25 #[v, .int .i64 x] w fun e w' => e = .returned (.int .i64 (putF q.l q.room x).2) ∧ ∃ F', FqAt F' w' v ⟨q.room, (putF q.l q.room x).1⟩ ∧ Mv F F' w w' := by
  have h0 := h
  obtain ⟨p, m, R, f, rfl, h1, h2, h3, h4, h5, h6, h7⟩ := h
  obtain ⟨room, l⟩ := q
  simp only at h1 h2 h3 h4 ⊢
  have H1 := Lib.hid (fHas_any x h1 hx)
  by_cases hin : x ∈ l
  · rw [putF_twice room hin]
    rw [inL_iff.2 hin] at H1
    have H0 := Lib.hid h0
    clear h0 h1 h2 h3 h4 h5 h6 h7 hx hin
    go_enter Try.func25, Try.ntmps25
    go_wp2_with (go_at_call 30; (with_reducible refine H1.out.mono ?_); rintro e w1 ⟨rfl, rfl⟩)
    go_ret
    exact ⟨rfl, F, H0.out, Mv.refl _ _⟩
  · rw [inL_not.2 hin] at H1
    have H2 := Lib.hid (fLen_any h1)
    have H3 := Lib.hid (fRoom_any h1)
    by_cases hr : room ≤ (l.length : Int)
    · rw [putF_full hin hr]
      have H0 := Lib.hid h0
      clear h0 h1 h2 h3 h4 h5 h6 h7 hx hin
      go_enter Try.func25, Try.ntmps25
      go_wp2_with (first
        | (go_at_call 30; (with_reducible refine H1.out.mono ?_); rintro e w1 ⟨rfl, rfl⟩)
        | (go_at_call 31; (with_reducible refine H2.out.mono ?_); rintro e w1 ⟨rfl, rfl⟩)
        | (go_at_call 32; (with_reducible refine H3.out.mono ?_); rintro e w1 ⟨rfl, rfl⟩))
      go_ret
      exact ⟨rfl, F, H0.out, Mv.refl _ _⟩
    · rw [putF_ok hin hr]
      have hl : l.length < 1024 := by omega
      have hf := h2.fl
      obtain ⟨z, hz⟩ : ∃ z, R[(f + l.length) % 1024]? = some z := ⟨_, List.getElem?_eq_getElem (by rw [h2.len]; omega)⟩
      have HP := Lib.hid (h2.put hl x)
      have PL := fun (w1 : World) (hb1 : Below w.heap.size w w1) => Lib.hid (fPlace_any l.length (h1.kept hb1) hf (by omega))
      have LL := fun (w1 : World) (hb1 : Below w.heap.size w w1) => Lib.hid (fLen_any (h1.kept hb1))
      obtain ⟨t, ht⟩ : ∃ t, (f + l.length) % 1024 = t := ⟨_, rfl⟩
      rw [ht] at hz HP PL
      have t0 : (0 : Int) ≤ (t : Int) := by omega
      have t1 : (t : Int) < 1024 := by omega
      have HT := Lib.hid (show t < 1024 by omega)
      have HZ := Lib.hid hz
      have HQ := Lib.hid h1
      have HX := Lib.hid hx
      have HL := Lib.hid hl
      have HN := Lib.hid hin
      have HF := Lib.hid (show F p ∧ F m ∧ ∀ k, F k → k < w.heap.size from ⟨h5, h6, h7⟩)
      have HD := Lib.hid h3
      have HR := Lib.hid (show room ≤ 1024 ∧ ¬ room ≤ (l.length : Int) from ⟨h4.1, hr⟩)
      clear h0 h1 h2 h3 h4 h5 h6 h7 hx hin hl hf hz ht
      go_enter Try.func25, Try.ntmps25
      go_wp2_with (first
        | (go_at_call 30; (with_reducible refine H1.out.mono ?_); rintro e w1 ⟨rfl, rfl⟩)
        | (go_at_call 31; (with_reducible refine H2.out.mono ?_); rintro e w1 ⟨rfl, rfl⟩)
        | (go_at_call 32; (with_reducible refine H3.out.mono ?_); rintro e w1 ⟨rfl, rfl⟩))
      refine wp_region_calmT 9 (by kernel_rfl) (by simp) (by kernel_rfl) fun M => ?_
      simp only [List.take_succ_cons, List.take_zero, List.drop_succ_cons, List.drop_zero]
      have P0 := fun n : In M.w => Lib.hid ((PL n.w (M.h.trans (n.h.mono M.h.size))).out)
      have P1 := fun n : In M.w => Lib.hid ((LL n.w (M.h.trans (n.h.mono M.h.size))).out)
      repeat (go_big_quiet_step (first
        | (go_at_call 33; with_reducible exact In.call_same (P0 _).out)
        | (go_at_call 31; with_reducible exact In.call_same (P1 _).out)))
      refine wpQuiet_nil ?_
      clear P0 P1 M
      intro w2 hb2
      have hq2 := HQ.out.kept hb2
      have c1 := hq2.ring HZ.out
      have z1 := hq2.free HZ.out
      have hq3 := hq2.put HT.out x
      have ho3 := (Only.of_below (F := F) hb2).set ⟨p, t, none⟩ (.int .i64 x) HF.out.1
      obtain ⟨w4, hrun, hm, hg⟩ := hq3.map.put (by have := HL.out; omega) HX.out true
      rw [setB_not HN.out, setB_put] at hm
      have c3 := hq3.in_
      have HQ4 := Lib.hid (hq3.mapped hm hg)
      have HO4 := Lib.hid (ho3.trans (Only.grown hg fun k hk => by cases hk; exact HF.out.2.1))
      clear hq2 hq3 ho3 hm hg hb2
      go_wp2
      go_ret
      refine ⟨rfl, F, ⟨p, m, _, f, rfl, ?_, HP.out, ⟨?_, ?_⟩, ⟨HR.out.1, ?_⟩, HF.out.1, HF.out.2.1, fun k hk => Nat.lt_of_lt_of_le (HF.out.2.2 k hk) HO4.out.size⟩, HO4.out, fun _ h => .inl h⟩
      · have := HQ4.out
        simp only [Option.isSome_none, Bool.false_eq_true, if_false] at this
        show FqRaw w4 p m (R.set t x) f room (l ++ [x]).length (setB (l ++ [x]))
        rw [List.length_append]
        exact this
      · rw [List.nodup_append]
        refine ⟨HD.out.1, by simp, fun a ha b hb e => ?_⟩
        rw [List.mem_singleton] at hb
        subst hb e
        exact HN.out ha
      · intro y hy
        rcases List.mem_append.1 hy with hy | hy
        · exact HD.out.2 y hy
        · rw [List.mem_singleton] at hy
          rw [hy]
          exact HX.out
      · have := HR.out.2
        simp
        omega
theorem fPut_nil (x : Int) (w : World) : Calls Try.prog 25 #[.pointer none, .int .i64 x] w fun e w' => e = .returned (.int .i64 9) ∧ Below w.heap.size w w' := by
  have H1 := Lib.hid (fHas_nil x w)
  have H2 := Lib.hid (fLen_nil w)
  have H3 := Lib.hid (fRoom_nil w)
  go_enter Try.func25, Try.ntmps25
  go_wp2_with (first
    | (go_at_call 30; (with_reducible refine H1.out.mono ?_); rintro e w1 ⟨rfl, rfl⟩)
    | (go_at_call 31; (with_reducible refine H2.out.mono ?_); rintro e w1 ⟨rfl, rfl⟩)
    | (go_at_call 32; (with_reducible refine H3.out.mono ?_); rintro e w1 ⟨rfl, rfl⟩))
  go_ret
  exact ⟨rfl, Below.refl _ _⟩

set_option maxHeartbeats 4000000 in
set_option maxRecDepth 100000 in
theorem fDrop_any {F : Nat → Prop} {w : World} {v : Value} {q : Fq} (x : Int) (h : FqAt F w v q) (hx : In18 x) :
    Calls Try.prog 27 #[v, .int .i64 x] w fun e w' => e = .returned (.bool (wasF q.l x)) ∧ ∃ F', FqAt F' w' v ⟨q.room, dropF q.l x⟩ ∧ Mv F F' w w' := by
  have h0 := h
  obtain ⟨p, m, R, f, rfl, h1, h2, h3, h4, h5, h6, h7⟩ := h
  obtain ⟨room, l⟩ := q
  simp only at h1 h2 h3 h4 ⊢
  have H1 := Lib.hid (fAt_any x h1 h2 hx)
  rw [wasF_iff]
  by_cases hin : x ∈ l
  · rw [inL_iff.2 hin]
    have hlt : l.idxOf x < l.length := List.idxOf_lt_length_iff.2 hin
    have hp : plcL l x = ((l.idxOf x : Nat) : Int) := if_pos hin
    rw [hp] at H1
    have hg := GapR.start h2 hlt
    rw [drop_erase h3.1] at hg
    have HDL := Lib.hid (show (dropF l x).length = l.length - 1 by rw [← drop_erase h3.1, List.length_eraseIdx_of_lt hlt])
    generalize l.idxOf x = j at *
    have hn : ((j : Int) == -1) = false := beq_noI (by omega)
    have H4 := fun (w1 : World) (hb1 : Below w.heap.size w w1) => Lib.hid (h1.kept hb1)
    have HI := Lib.hid hin
    have HX := Lib.hid hx
    have HG := Lib.hid hg
    have HF := Lib.hid (show F p ∧ F m ∧ ∀ k, F k → k < w.heap.size from ⟨h5, h6, h7⟩)
    have HD := Lib.hid h3
    have HR := Lib.hid h4
    clear h0 h1 h2 h3 h4 h5 h6 h7 hx hin hlt hp hg
    go_enter Try.func27, Try.ntmps27
    go_upto_region 4 with (go_at_call 34; (with_reducible refine H1.out.mono ?_); rintro e w1 ⟨rfl, hb1⟩)
    have hq1 := (H4 w1 hb1).out
    have c3 := hq1.in_
    have HQ1 := Lib.hid hq1
    have HO1 := Lib.hid (Only.of_below (F := F) hb1)
    clear hq1 hb1 H4
    go_wp2_with (first
      | (at_delete; refine wpList_delB rfl rfl _ _ rfl rfl HQ1.out.map x HX.out rfl ?_; intro w2 hm2 hg2; rw [setB_in HI.out, setB_del] at hm2; have HQ2 := Lib.hid (HQ1.out.mapped hm2 hg2); have HO2 := Lib.hid (HO1.out.trans (Only.grown hg2 fun k hk => by cases hk; exact HF.out.2.1)); clear hm2 hg2 c3)
      | (go_at_call 35; (with_reducible refine (fClose_any j HQ2.out HG.out HF.out.1).mono ?_); rintro e w3 ⟨rfl, R', k1, k2, k3⟩; have HQ3 := Lib.hid k1; have HR3 := Lib.hid k2; have HO3 := Lib.hid (HO2.out.trans k3); clear k1 k2 k3))
    go_ret
    refine ⟨rfl, F, ⟨p, m, R', _, rfl, ?_, HR3.out, ⟨drop_nodup HD.out.1 x, fun y hy => HD.out.2 y ((dropF_mem l x y).1 hy).1⟩, ⟨HR.out.1, ?_⟩, HF.out.1, HF.out.2.1, fun k hk => Nat.lt_of_lt_of_le (HF.out.2.2 k hk) HO3.out.size⟩, HO3.out, fun _ h => .inl h⟩
    · show FqRaw w3 p m R' _ room (dropF l x).length (setB (dropF l x))
      rw [HDL.out]
      exact HQ3.out
    · have := HR.out.2
      have := dropF_len l x
      simp only
      omega
  · rw [inL_not.2 hin]
    rw [drop_none hin]
    rw [plc_none hin] at H1
    have H0 := Lib.hid fun (w' : World) (hb : Below w.heap.size w w') => h0.same hb.size fun k hk => hb.block k (h0.lt k hk)
    clear h0 h1 h2 h3 h4 h5 h6 h7 hx hin
    go_enter Try.func27, Try.ntmps27
    go_wp2_with (go_at_call 34; (with_reducible refine H1.out.mono ?_); rintro e w1 ⟨rfl, hb1⟩)
    go_ret
    exact ⟨rfl, F, H0.out _ hb1, Mv.of_below hb1⟩
theorem fDrop_nil (x : Int) (w : World) : Calls Try.prog 27 #[.pointer none, .int .i64 x] w fun e w' => e = .returned (.bool false) ∧ Below w.heap.size w w' := by
  have H1 := Lib.hid (fAt_nil x w)
  go_enter Try.func27, Try.ntmps27
  go_wp2_with (go_at_call 34; (with_reducible refine H1.out.mono ?_); rintro e w1 ⟨rfl, hb1⟩)
  go_ret
  exact ⟨rfl, hb1⟩

set_option maxHeartbeats 2000000 in
theorem fTake_any {F : Nat → Prop} {w : World} {v : Value} {q : Fq} (h : FqAt F w v q) :
    Calls Try.prog 26 #[v] w fun e w' => e = .returned (.tuple #[.int .i64 (hdF q.l).1, .bool (hdF q.l).2]) ∧ ∃ F', FqAt F' w' v ⟨q.room, q.l.drop 1⟩ ∧ Mv F F' w w' := by
  have h0 := h
  obtain ⟨p, m, R, f, rfl, h1, h2, h3, h4, h5, h6, h7⟩ := h
  have H1 := Lib.hid (fFirst_any h1 h2)
  have ht : wasF q.l (hdF q.l).1 = (hdF q.l).2 ∧ dropF q.l (hdF q.l).1 = q.l.drop 1 ∧ In18 (hdF q.l).1 := by
    cases hq : q.l with
    | nil => exact ⟨rfl, rfl, by simp [hdF, In18]⟩
    | cons x t =>
      rw [hq] at h3
      exact ⟨(wasF_iff _ _).trans (inL_iff.2 List.mem_cons_self), drop_head h3.1, h3.2 x List.mem_cons_self⟩
  obtain ⟨t1, t2, t3⟩ := ht
  have H2 := Lib.hid fun (w1 : World) (hb : Below w.heap.size w w1) => fDrop_any (hdF q.l).1 (h0.same hb.size fun k hk => hb.block k (h0.lt k hk)) t3
  rw [t1, t2] at H2
  generalize (hdF q.l).1 = a at *
  generalize (hdF q.l).2 = b at *
  generalize q.l.drop 1 = T at *
  clear h0 h1 h2 h3 h4 h5 h6 h7 t1 t2 t3
  go_enter Try.func26, Try.ntmps26
  go_wp2_with (first
    | (go_at_call 28; (with_reducible refine H1.out.mono ?_); rintro e w1 ⟨rfl, hb1⟩)
    | (go_at_call 27; (with_reducible refine (H2.out _ hb1).mono ?_); rintro e w2 ⟨rfl, F', k1, k2⟩; have HQ := Lib.hid k1; have HM := Lib.hid ((Mv.of_below hb1).trans k2); clear k1 k2))
  exact bodyPost_ret (v := .tuple #[.int .i64 a, .bool b]) (by simp [results, Try.results26, go_sem]) rfl ⟨rfl, F', HQ.out, HM.out⟩
theorem fTake_nil (w : World) : Calls Try.prog 26 #[.pointer none] w fun e w' => e = .returned (.tuple #[.int .i64 0, .bool false]) ∧ Below w.heap.size w w' := by
  have H1 := Lib.hid (fFirst_nil w)
  have H2 := Lib.hid fun w => fDrop_nil 0 w
  go_enter Try.func26, Try.ntmps26
  go_wp2_with (first
    | (go_at_call 28; (with_reducible refine H1.out.mono ?_); rintro e w1 ⟨rfl, hb1⟩)
    | (go_at_call 27; (with_reducible refine (H2.out _).mono ?_); rintro e w2 ⟨rfl, hb2⟩))
  exact bodyPost_ret (v := .tuple #[.int .i64 0, .bool false]) (by simp [results, Try.results26, go_sem]) rfl ⟨rfl, hb1.trans (hb2.mono hb1.size)⟩

theorem quiet18 {P : Program} {f : Nat} {args : Array Value} {w : World} {v : Value} (h : Calls P f args w fun e w' => e = .returned v ∧ w = w') : Calls P f args w fun e w' => e = .returned v ∧ Below w.heap.size w w' :=
  h.mono fun _ _ ⟨h1, h2⟩ => ⟨h1, h2 ▸ Below.refl _ _⟩
/-- package fifo -/
def fProg : FifoProg where
  obj := ⟨FqAt, FqAt.same, FqAt.lt⟩
  new := fNew_any
  put := fun x h hx => fPut_any x h hx
  take := fun h => fTake_any h
  drop := fun x h hx => fDrop_any x h hx
  first := fun h => by
    obtain ⟨p, m, R, f, rfl, h1, h2, _⟩ := h
    exact fFirst_any h1 h2
  at_ := fun x h hx => by
    obtain ⟨p, m, R, f, rfl, h1, h2, _⟩ := h
    exact fAt_any x h1 h2 hx
  list := fun h => by
    obtain ⟨p, m, R, f, rfl, h1, h2, _⟩ := h
    exact fList_any h1 h2
  len := fun h => by
    obtain ⟨p, m, R, f, rfl, h1, h2, _⟩ := h
    exact quiet18 (fLen_any h1)
  room := fun h => by
    obtain ⟨p, m, R, f, rfl, h1, h2, _⟩ := h
    exact quiet18 (fRoom_any h1)
  put_nil := fPut_nil
  take_nil := fTake_nil
  drop_nil := fDrop_nil
  first_nil := fFirst_nil
  at_nil := fAt_nil
  len_nil := fun w => quiet18 (fLen_nil w)
  room_nil := fun w => quiet18 (fRoom_nil w)
end Go.Proofs.Ytdoanlemoegikaa
