/- Stage 8's program: the number whose short form bytes begin with. -/
import Derived.Test.YtpbihplnaaojlaaPackD
namespace Go.Proofs.Ytpbihplnaaojlaa
open Go.RowKit

set_option maxHeartbeats 4000000 in
set_option maxRecDepth 100000 in
theorem kUnvar_any (va : Value) (l : List UInt8) (w : World) (ha : BytesAt w va l) (hl : l.length ≤ 1000000) :
    Calls Try.prog 13 #[va] w fun e w' => ∃ v, e = .returned (.tuple #[.int .u64 ((unvB l).1 : Int), v, .int .i64 (unvB l).2.2]) ∧ BytesAt w' v (unvB l).2.1 ∧ Below w.heap.size w w' := by
  have HA := Lib.hid ha
  obtain ⟨a, c, rfl⟩ := RowsAt.form ha
  clear ha
  have hfin : ∀ z r e, unv 0 0 (nb l) = (z, r, e) → unvB l = (z, bn r, eno e) := fun z r e h => by unfold unvB; rw [h]
  have HF := Lib.hid hfin
  clear hfin
  go_enter Try.func13, Try.ntmps13
  go_wp2
  refine wp_scope_goto 0 (fun n a' w' => ∃ (j z : Nat), n = l.length - j ∧ j ≤ l.length ∧ j ≤ 9 ∧ z < 128 ^ j ∧ unv 0 0 (nb l) = unv j z (nb (l.drop j)) ∧ w' = w ∧ ∃ u1 u7 u8 u9 u10 u11 u12 u13 u14 u15 u16 u17 u18 u19 u20 u21 u22 u23 u24 u25 u26 u27 u28 u29 u30 u31 u32 u33 u34 u35 u36 u37 u38 u39 u40 u41 u42 u43 u44 u45, a' = { tmps := #[.slice a l.length c, u1, .int .u64 0, .slice none 0 0, .int .i64 0, .int .u64 (z : Int), .int .i64 (j : Int), u7, u8, u9, u10, u11, u12, u13, u14, u15, u16, u17, u18, u19, u20, u21, u22, u23, u24, u25, u26, u27, u28, u29, u30, u31, u32, u33, u34, u35, u36, u37, u38, u39, u40, u41, u42, u43, u44, u45], defers := [] }) rfl rfl ?_ ?_
  · rintro n a' w' ⟨j, z, rfl, hj, h9, hz, hun, rfl, u1, u7, u8, u9, u10, u11, u12, u13, u14, u15, u16, u17, u18, u19, u20, u21, u22, u23, u24, u25, u26, u27, u28, u29, u30, u31, u32, u33, u34, u35, u36, u37, u38, u39, u40, u41, u42, u43, u44, u45, rfl⟩ K hK
    have HK := Lib.hid hK
    clear hK
    by_cases hlt : j < l.length
    · obtain ⟨g, o, c', ev, hc, hg, p0⟩ := HA.out.at j hlt
      cases ev
      rw [nb_drop l j hlt] at hun
      have hu := l[j].toNat_lt
      generalize l[j].toNat = b at *
      have hstep : unv j z (b :: nb (l.drop (j + 1))) = if (j = 9 ∧ 1 < b) ∨ (0 < j ∧ b = 0) then (0, [], 2) else if b < 128 then (z + 128 ^ j * (b % 128), nb (l.drop (j + 1)), 0) else unv (j + 1) (z + 128 ^ j * (b % 128)) (nb (l.drop (j + 1))) := rfl
      rw [hstep] at hun
      clear hstep
      have j0 : (0 : Int) ≤ (j : Int) := by omega
      have j1 : (j : Int) < (l.length : Int) := by omega
      have j2 : ((j : Int) == (l.length : Int)) = false := beq_no8 (by omega)
      have u0 : (0 : Int) ≤ (b : Int) := by omega
      have u1 : (b : Int) ≤ 255 := by omega
      by_cases hbad : (j = 9 ∧ 1 < b) ∨ (0 < j ∧ b = 0)
      · rw [if_pos hbad] at hun
        have hfin := HF.out _ _ _ hun
        have HFIN := Lib.hid hfin
        clear hun hfin
        have hway : (j = 9 ∧ (1 : Int) < (b : Int)) ∨ (j = 9 ∧ b = 0) ∨ (((j : Int) == 9) = false ∧ (0 : Int) < (j : Int) ∧ b = 0) := by
          by_cases h : j = 9
          · rcases hbad with ⟨_, h2⟩ | ⟨_, h2⟩
            · exact .inl ⟨h, by omega⟩
            · exact .inr (.inl ⟨h, h2⟩)
          · exact .inr (.inr ⟨beq_no8 (by omega), by omega, by omega⟩)
        clear hbad
        rcases hway with ⟨rfl, h2⟩ | ⟨rfl, rfl⟩ | ⟨h1, h2, rfl⟩
        all_goals
          go_wp2
          simp only [Exit.jump]
          exact bodyPost_ret (v := .tuple #[.int .u64 0, .slice none 0 0, .int .i64 3]) (by simp [results, Try.results13, go_sem]) rfl ⟨.slice none 0 0, by rw [HFIN.out]; rfl, by rw [HFIN.out]; exact RowsAt.nil _ _ _, Below.refl _ _⟩
      · rw [if_neg hbad] at hun
        obtain ⟨r1, r2⟩ := unv_room h9 hz hu hbad
        have hor := or_high z (b % 128) (7 * j) (by rw [show (2 : Nat) ^ (7 * j) = 128 ^ j by rw [Nat.pow_mul]]; exact hz) (by rw [show (2 : Nat) ^ (7 * j) = 128 ^ j by rw [Nat.pow_mul]]; exact r1)
        rw [show (2 : Nat) ^ (7 * j) = 128 ^ j by rw [Nat.pow_mul]] at hor
        have hwr : IntKind.u64.wrap ((b : Int) % 128 * 2 ^ (7 * j)) = ((128 ^ j * (b % 128) : Nat) : Int) := by
          have e : (b : Int) % 128 * 2 ^ (7 * j) = ((128 ^ j * (b % 128) : Nat) : Int) := by
            rw [show (128 : Nat) ^ j = 2 ^ (7 * j) by rw [Nat.pow_mul]]
            simp [Int.mul_comm]
          rw [e, IntKind.wrap_u64]
          have : 128 ^ j * (b % 128) < 2 ^ 64 := by omega
          generalize 128 ^ j * (b % 128) = q at *
          omega
        rw [← hwr] at hor
        obtain ⟨p, hp⟩ : ∃ p, z + 128 ^ j * (b % 128) = p := ⟨_, rfl⟩
        rw [hp] at hor hun r1 r2
        have R2 := Lib.hid r2
        clear hwr hp r1 r2
        have hways : (((j : Int) == 9) = true ∧ ¬ (1 : Int) < (b : Int) ∧ (0 : Int) < (j : Int) ∧ ((b : Int) == 0) = false ∧ b < 128) ∨ (((j : Int) == 9) = false ∧ (0 : Int) < (j : Int) ∧ ((b : Int) == 0) = false ∧ j < 9) ∨ (((j : Int) == 9) = false ∧ ¬ (0 : Int) < (j : Int) ∧ j < 9) := by
          by_cases e9 : j = 9
          · exact .inl ⟨by subst e9; rfl, by omega, by omega, beq_no8 (by omega), by omega⟩
          · by_cases e0 : j = 0
            · exact .inr (.inr ⟨beq_no8 (by omega), by omega, by omega⟩)
            · exact .inr (.inl ⟨beq_no8 (by omega), by omega, beq_no8 (by omega), by omega⟩)
        have HBAD := Lib.hid hbad
        have HUN := Lib.hid hun
        clear hbad hun
        rcases hways with ⟨a1, a2, a3, a4, _⟩ | ⟨a1, a3, a4, _⟩ | ⟨a1, a3, _⟩
        all_goals
          by_cases h128 : b < 128
          · have b1 : ¬ (128 : Int) ≤ (b : Int) := by omega
            have hun := HUN.out
            rw [if_pos h128] at hun
            have hfin := HF.out _ _ _ hun
            rw [bn_nb] at hfin
            have HFIN := Lib.hid hfin
            have hrest := RowsAt.rest HA.out (j + 1) (by omega)
            have k1 : (j : Int) + 1 ≤ (l.length : Int) := by omega
            by_cases hcK : c = j + 1
            · have hP := hrest (some ⟨g, o, none⟩) (fun _ _ _ h => by omega)
              rw [show c - (j + 1) = 0 by omega, show l.length - (j + 1) = 0 by omega] at hP
              have HP := Lib.hid hP
              subst hcK
              have e0 : l.length - (j + 1) = 0 := by omega
              clear hrest hP hun hfin
              go_wp2
              refine wp_region_calm0 (by kernel_rfl) (by kernel_rfl) fun M => ?_
              repeat (go_big_quiet_step (fail))
              refine wpQuiet_nil ?_
              intro w1 hb1
              go_wp2
              simp only [Exit.jump]
              exact bodyPost_ret (v := .tuple #[.int .u64 (p : Int), .slice (some ⟨g, o, none⟩) 0 0, .int .i64 0]) (by simp [results, Try.results13, go_sem]) rfl ⟨_, by rw [HFIN.out]; rfl, by rw [HFIN.out]; exact HP.out.kept hb1, hb1⟩
            · have hP := hrest (some ⟨g, o + (j + 1), none⟩) (fun _ _ e _ => by cases e; simp)
              have HP := Lib.hid hP
              clear hrest hP hun hfin
              go_wp2
              refine wp_region_calm0 (by kernel_rfl) (by kernel_rfl) fun M => ?_
              repeat (go_big_quiet_step (fail))
              refine wpQuiet_nil ?_
              intro w1 hb1
              go_wp2
              simp only [Exit.jump]
              exact bodyPost_ret (v := .tuple #[.int .u64 (p : Int), .slice (some ⟨g, o + (j + 1), none⟩) (l.length - (j + 1)) (c - (j + 1)), .int .i64 0]) (by simp [results, Try.results13, go_sem]) rfl ⟨_, by rw [HFIN.out]; rfl, by rw [HFIN.out]; exact HP.out.kept hb1, hb1⟩
          · have b1 : (128 : Int) ≤ (b : Int) := by omega
            have hun := HUN.out
            rw [if_neg h128] at hun
            have HUN2 := Lib.hid hun
            first
              | omega
              | clear hun
                go_wp2
                go_step3
                exact ⟨rfl, HK.out _ _ _ (by omega) ⟨j + 1, p, rfl, by omega, by omega, R2.out, HUN2.out, rfl, _, _, _, _, _, _, _, _, _, _, _, _, _, _, _, _, _, _, _, _, _, _, _, _, _, _, _, _, _, _, _, _, _, _, _, _, _, _, _, _,  rfl⟩⟩
    · have hje : j = l.length := by omega
      rw [hje, List.drop_length] at hun
      have hfin := HF.out _ _ _ hun
      have HFIN := Lib.hid hfin
      rw [hje]
      clear hun hfin hje hlt hj
      go_wp2
      simp only [Exit.jump]
      exact bodyPost_ret (v := .tuple #[.int .u64 0, .slice none 0 0, .int .i64 4]) (by simp [results, Try.results13, go_sem]) rfl ⟨.slice none 0 0, by rw [HFIN.out]; rfl, by rw [HFIN.out]; exact RowsAt.nil _ _ _, Below.refl _ _⟩
  · intro K hpass
    go_wp2
    go_step3
    rename_i hback
    exact hback _ _ (hpass _ _ _ ⟨0, 0, rfl, Nat.zero_le _, by omega, by simp, by simp, rfl, _, _, _, _, _, _, _, _, _, _, _, _, _, _, _, _, _, _, _, _, _, _, _, _, _, _, _, _, _, _, _, _, _, _, _, _, _, _, _, _,  rfl⟩)
end Go.Proofs.Ytpbihplnaaojlaa
