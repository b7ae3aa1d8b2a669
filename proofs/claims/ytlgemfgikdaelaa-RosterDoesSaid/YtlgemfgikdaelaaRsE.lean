/- Stage 25's program: what nobody's roster answers; acts; alive. -/
import Derived.Test.YtlgemfgikdaelaaRsD
import Derived.Test.YtlgemfgikdaelaaOneI
namespace Go.Proofs.Ytlgemfgikdaelaa
open Go.RowKit

section
variable (w : World)
theorem rThose_nil : Calls Try.prog 33 #[.pointer none, .func (.func 34) #[] #[]] w fun e w' => e = .returned (.slice none 0 0) ∧ w = w' := by
  go_enter Try.func33, Try.ntmps33
  go_wp2
  refine wp_scope_goto 0 (fun _ _ _ => False) rfl rfl ?_ ?_
  · rintro n a' w' h
    cases h
  · intro K hpass
    go_wp2
    simp only [Exit.jump]
    go_ret
    exact ⟨rfl, rfl⟩
theorem rFree_nil : Calls Try.prog 18 #[.pointer none] w fun e w' => e = .returned (.slice none 0 0) ∧ w = w' := by
  have G := Lib.hid (rThose_nil w)
  go_enter Try.func18, Try.ntmps18
  go_wp2_with (go_at_call 33; (with_reducible refine G.out.mono ?_); rintro e w1 ⟨rfl, rfl⟩)
  go_ret
  exact ⟨rfl, rfl⟩
theorem rView_nil : Calls Try.prog 17 #[.pointer none] w fun e w' => e = .returned (.slice none 0 0) ∧ w = w' := by
  go_enter Try.func17, Try.ntmps17
  go_wp2
  go_ret
  exact ⟨rfl, rfl⟩
theorem rAdd_nil (n b : Int) : Calls Try.prog 26 #[.pointer none, .int .i64 n, .int .u64 b] w fun e w' => e = .returned (.int .i64 9) ∧ w = w' := by
  go_enter Try.func26, Try.ntmps26
  go_wp2
  go_ret
  exact ⟨rfl, rfl⟩
theorem rSet_nil (n : Int) (on : Bool) : Calls Try.prog 27 #[.pointer none, .int .i64 n, .bool on] w fun e w' => e = .returned (.int .i64 7) ∧ w = w' := by
  have G := Lib.hid (rFind_nil n w)
  go_enter Try.func27, Try.ntmps27
  go_wp2_with (go_at_call 35; (with_reducible refine G.out.mono ?_); rintro e w1 ⟨rfl, rfl⟩)
  go_ret
  exact ⟨rfl, rfl⟩
theorem rTake_nil (n : Int) : Calls Try.prog 24 #[.pointer none, .int .i64 n] w fun e w' => e = .returned (.int .i64 7) ∧ w = w' := by
  have G := Lib.hid (rFind_nil n w)
  go_enter Try.func24, Try.ntmps24
  go_wp2_with (go_at_call 35; (with_reducible refine G.out.mono ?_); rintro e w1 ⟨rfl, rfl⟩)
  go_ret
  exact ⟨rfl, rfl⟩
theorem rBusy_nil (n : Int) : Calls Try.prog 19 #[.pointer none, .int .i64 n] w fun e w' => e = .returned (.bool false) ∧ w = w' := by
  have G := Lib.hid (rFind_nil n w)
  go_enter Try.func19, Try.ntmps19
  go_wp2_with (go_at_call 35; (with_reducible refine G.out.mono ?_); rintro e w1 ⟨rfl, rfl⟩)
  go_ret
  exact ⟨rfl, rfl⟩
theorem rGive_nil (n : Int) : Calls Try.prog 25 #[.pointer none, .int .i64 n] w fun e w' => e = .returned (.bool false) ∧ w = w' := by
  have G := Lib.hid (rBusy_nil w n)
  go_enter Try.func25, Try.ntmps25
  go_wp2_with (go_at_call 19; (with_reducible refine G.out.mono ?_); rintro e w1 ⟨rfl, rfl⟩)
  go_ret
  exact ⟨rfl, rfl⟩
set_option maxRecDepth 100000 in
theorem rPick_nil (n : Int) (vn : Value) : Calls Try.prog 13 #[.pointer none, .int .u64 n, vn] w fun e w' => e = .returned (.tuple #[.int .i64 0, .bool false]) ∧ w = w' := by
  have G := Lib.hid (rFree_nil w)
  go_enter Try.func13, Try.ntmps13
  go_wp2_with (go_at_call 18; (with_reducible refine G.out.mono ?_); rintro e w1 ⟨rfl, rfl⟩)
  refine wp_loop_rounds 1 ?_
  rw [rounds_succ]; go_wp2
  exact bodyPost_ret (v := .tuple #[.int .i64 0, .bool false]) (by simp [results, Try.results13, go_sem]) rfl ⟨rfl, rfl⟩
set_option maxHeartbeats 4000000 in
set_option maxRecDepth 100000 in
theorem rFindR_nil (n : Int) : Calls Try.prog 21 #[.pointer none, .int .i64 n] w fun e w' => e = .returned (.tuple #[hdv ⟨0, 0, false⟩, .bool false]) ∧ Below w.heap.size w w' := by
  have HB0 := Lib.hid ((Below.refl w.heap.size w).alloc (Nat.le_refl _) (.cells #[.int .i64 0, .int .u64 0, .bool false] 52))
  have HX := Lib.hid (Blk.new w [.int .i64 0, .int .u64 0, .bool false] 52)
  have G := Lib.hid fun w => rFind_nil n w
  have c0 := HX.out.cell 0 rfl
  have c1 := HX.out.cell 1 rfl
  have c2 := HX.out.cell 2 rfl
  have f0 := HX.out.free 0 rfl
  have f1 := HX.out.free 1 rfl
  have f2 := HX.out.free 2 rfl
  dsimp only [hdv]
  go_enter Try.func21, Try.ntmps21
  go_wp2_with (go_at_call 35; (with_reducible refine (G.out _).mono ?_); rintro e w1 ⟨rfl, rfl⟩)
  exact bodyPost_ret (v := .tuple #[.agg #[.int .i64 0, .int .u64 0, .bool false], .bool false]) (by simp [results, Try.results21, go_sem]) rfl ⟨rfl, HB0.out⟩
end

section
variable {F : Nat → Prop} {w w' : World} {p : Nat} {room : Int} {L : List En}
abbrev rav (a : Ra) : Value := .agg #[.int .i64 a.kind, .int .i64 a.id, .int .u64 (a.bits : Int), .bool a.on]
theorem RsTo.of_below {w0 : World} {L' : List En} (h : RsTo F w w' p room L') (hb : Below w0.heap.size w0 w) : RsTo F w0 w' p room L' := by
  obtain ⟨F', h1, h2⟩ := h
  exact ⟨F', h1, (Mv.of_below hb).trans h2⟩
set_option maxHeartbeats 4000000 in
set_option maxRecDepth 100000 in
theorem rDo_any (h : RsAt F w p room L) (a : Ra) (hb : a.bits < 2 ^ 64) :
    Calls Try.prog 8 #[ptr25 p, rav a] w fun e w' => e = .returned (.tuple #[.int .i64 (actE room L a).2.1, .bool (actE room L a).2.2]) ∧ RsTo F w w' p room (actE room L a).1 := by
  obtain ⟨kind, id, bi, on⟩ := a
  have HA := Lib.hid ((Below.refl w.heap.size w).alloc (Nat.le_refl _) (.cells #[.int .i64 kind, .int .i64 id, .int .u64 (bi : Int), .bool on] 33))
  have h1 := h.kept HA.out
  have GA := Lib.hid (rAdd_any h1 id bi hb)
  have GS := Lib.hid (rSet_any h1 id on)
  have GT := Lib.hid (rTake_any h1 id)
  have GG := Lib.hid (rGive_any h1 id)
  dsimp only [rav]
  clear h h1 hb
  unfold actE
  dsimp only
  by_cases k1 : kind = 1
  · subst k1
    rw [if_pos rfl]
    clear GS GT GG
    generalize addE room L id bi = r at *
    obtain ⟨L', e'⟩ := r
    dsimp only at GA ⊢
    go_enter Try.func8, Try.ntmps8
    go_wp2_with (go_at_call 26; (with_reducible refine GA.out.mono ?_); rintro e w1 ⟨rfl, h1⟩; have H1 := Lib.hid h1; clear h1)
    exact bodyPost_ret (v := .tuple #[.int .i64 e', .bool false]) (by simp [results, Try.results8, go_sem]) rfl ⟨rfl, H1.out.of_below HA.out⟩
  · rw [if_neg k1]
    have b1 : (kind == 1) = false := beq_noI k1
    by_cases k2 : kind = 2
    · subst k2
      rw [if_pos rfl]
      clear GA GT GG
      generalize setE L id on = r at *
      obtain ⟨L', e'⟩ := r
      dsimp only at GS ⊢
      go_enter Try.func8, Try.ntmps8
      go_wp2_with (go_at_call 27; (with_reducible refine GS.out.mono ?_); rintro e w1 ⟨rfl, h1⟩; have H1 := Lib.hid h1; clear h1)
      exact bodyPost_ret (v := .tuple #[.int .i64 e', .bool false]) (by simp [results, Try.results8, go_sem]) rfl ⟨rfl, H1.out.of_below HA.out⟩
    · rw [if_neg k2]
      have b2 : (kind == 2) = false := beq_noI k2
      by_cases k3 : kind = 3
      · subst k3
        rw [if_pos rfl]
        clear GA GS GG
        generalize takeE L id = r at *
        obtain ⟨L', e'⟩ := r
        dsimp only at GT ⊢
        go_enter Try.func8, Try.ntmps8
        go_wp2_with (go_at_call 24; (with_reducible refine GT.out.mono ?_); rintro e w1 ⟨rfl, h1⟩; have H1 := Lib.hid h1; clear h1)
        exact bodyPost_ret (v := .tuple #[.int .i64 e', .bool false]) (by simp [results, Try.results8, go_sem]) rfl ⟨rfl, H1.out.of_below HA.out⟩
      · rw [if_neg k3]
        have b3 : (kind == 3) = false := beq_noI k3
        clear GA GS GT k1 k2 k3
        generalize giveE L id = r at *
        obtain ⟨L', e'⟩ := r
        dsimp only at GG ⊢
        go_enter Try.func8, Try.ntmps8
        go_wp2_with (go_at_call 25; (with_reducible refine GG.out.mono ?_); rintro e w1 ⟨rfl, h1⟩; have H1 := Lib.hid h1; clear h1)
        exact bodyPost_ret (v := .tuple #[.int .i64 0, .bool e']) (by simp [results, Try.results8, go_sem]) rfl ⟨rfl, H1.out.of_below HA.out⟩
end
end Go.Proofs.Ytlgemfgikdaelaa
