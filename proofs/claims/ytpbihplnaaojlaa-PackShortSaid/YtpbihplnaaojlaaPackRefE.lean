/- The walks of the document's answers for layer 8: the number whose short form bytes begin with. -/
import Derived.Test.YtpbihplnaaojlaaPackRefD
namespace Go.Proofs.Ytpbihplnaaojlaa
open Go.RowKit

theorem beq_no8 {a b : Int} (h : a ≠ b) : (a == b) = false := by simpa using h
/-- an error's number -/
def eno (n : Nat) : Int := if n = 0 then 0 else if n = 1 then 4 else 3
/-- what is read of bytes: the number, what is behind it, what is wrong -/
def unvB (l : List UInt8) : Nat × List UInt8 × Int := ((unv 0 0 (nb l)).1, bn (unv 0 0 (nb l)).2.1, eno (unv 0 0 (nb l)).2.2)
theorem nb_drop (l : List UInt8) (j : Nat) (h : j < l.length) : nb (l.drop j) = l[j].toNat :: nb (l.drop (j + 1)) := by
  unfold nb
  rw [List.drop_eq_getElem_cons h]
  rfl

set_option maxHeartbeats 4000000 in
set_option maxRecDepth 100000 in
theorem refUnvar_any (va : Value) (l : List UInt8) (w : World) (ha : BytesAt w va l) (hl : l.length ≤ 1000000) :
    Calls Try.prog 14 #[va] w fun e w' => ∃ v, e = .returned (.tuple #[.int .u64 ((unvB l).1 : Int), v, .int .i64 (unvB l).2.2]) ∧ BytesAt w' v (unvB l).2.1 ∧ Below w.heap.size w w' := by
  obtain ⟨i0, hi, hz0, hz1, hz2⟩ := info_parts info_byte
  have HA := Lib.hid ha
  obtain ⟨a, c, rfl⟩ := RowsAt.form ha
  clear ha
  have hfin : ∀ z r e, unv 0 0 (nb l) = (z, r, e) → unvB l = (z, bn r, eno e) := fun z r e h => by unfold unvB; rw [h]
  have HF := Lib.hid hfin
  clear hfin
  go_enter Try.func14, Try.ntmps14
  go_wp2
  go_loopw [5, 6, 7] (fun x y i wr => ∃ j z : Nat, j ≤ l.length ∧ j ≤ 9 ∧ x = .int .u64 (z : Int) ∧ y = .int .u64 ((128 ^ j : Nat) : Int) ∧ i = .int .i64 j ∧ z < 128 ^ j ∧ unv 0 0 (nb l) = unv j z (nb (l.drop j)) ∧ w = wr) (fun _ _ i _ => l.length - (intOf i).toNat)
  case atStart => exact ⟨0, 0, Nat.zero_le _, by omega, rfl, rfl, rfl, by simp, by simp, rfl⟩
  case round =>
    obtain ⟨j, z, hj, h9, rfl, rfl, rfl, hz, hun, rfl⟩ := hrel
    by_cases hlt : j < l.length
    · obtain ⟨g, o, c', ev, hc, hg, p0⟩ := HA.out.at j hlt
      cases ev
      rw [nb_drop l j hlt] at hun
      have hu := l[j].toNat_lt
      generalize l[j].toNat = b at *
      have hstep : unv j z (b :: nb (l.drop (j + 1))) = if (j = 9 ∧ 1 < b) ∨ (0 < j ∧ b = 0) then (0, [], 2) else if b < 128 then (z + 128 ^ j * (b % 128), nb (l.drop (j + 1)), 0) else unv (j + 1) (z + 128 ^ j * (b % 128)) (nb (l.drop (j + 1))) := rfl
      rw [hstep] at hun
      clear hstep
      have j0 : (0 : Int) ≤ (j : Int) := by omega
      have j1 : (j : Int) < (l.length : Int) := by omega
      have u0 : (0 : Int) ≤ (b : Int) := by omega
      have u1 : (b : Int) ≤ 255 := by omega
      by_cases hbad : (j = 9 ∧ 1 < b) ∨ (0 < j ∧ b = 0)
      · rw [if_pos hbad] at hun
        have hfin := HF.out _ _ _ hun
        have HFIN := Lib.hid hfin
        clear hun hfin
        have hway : (j = 9 ∧ (1 : Int) < (b : Int)) ∨ (j = 9 ∧ b = 0) ∨ (((j : Int) == 9) = false ∧ (0 : Int) < (j : Int) ∧ b = 0) := by
          by_cases h : j = 9
          · rcases hbad with ⟨_, h2⟩ | ⟨_, h2⟩
            · exact .inl ⟨h, by omega⟩
            · exact .inr (.inl ⟨h, h2⟩)
          · exact .inr (.inr ⟨beq_no8 (by omega), by omega, by omega⟩)
        clear hbad
        rcases hway with ⟨rfl, h2⟩ | ⟨rfl, rfl⟩ | ⟨h1, h2, rfl⟩
        all_goals
          go_wp2
          exact bodyPost_ret (v := .tuple #[.int .u64 0, .slice none 0 0, .int .i64 3]) (by simp [results, Try.results14, go_sem]) rfl ⟨.slice none 0 0, by rw [HFIN.out]; rfl, by rw [HFIN.out]; exact RowsAt.nil _ _ _, Below.refl _ _⟩
      · rw [if_neg hbad] at hun
        obtain ⟨r1, r2⟩ := unv_room h9 hz hu hbad
        have hW : 128 ^ j ≤ 128 ^ 9 := Nat.pow_le_pow_right (by decide) h9
        have hW8 : j < 9 → 128 ^ j ≤ 128 ^ 8 := fun h => Nat.pow_le_pow_right (by decide) (by omega)
        have hWn : 128 ^ (j + 1) = 128 ^ j * 128 := Nat.pow_succ _ _
        have hW0 : 0 < 128 ^ j := Nat.pow_pos (by decide)
        rw [hWn] at r2
        generalize 128 ^ j = W at *
        obtain ⟨p, hp⟩ : ∃ p, W * (b % 128) = p := ⟨_, rfl⟩
        have hpi : (W : Int) * ((b : Int) % 128) = (p : Int) := by rw [← hp, Int.natCast_mul, Int.natCast_emod]; rfl
        rw [hp] at hun r1 r2
        have w1 : (W : Int) ≤ 9223372036854775808 := by have : (128 : Nat) ^ 9 = 9223372036854775808 := by decide
                                                        omega
        have p1 : (z : Int) + (p : Int) ≤ 18446744073709551615 := by omega
        have z0 : (0 : Int) ≤ (z : Int) := by omega
        have pp0 : (0 : Int) ≤ (p : Int) := by omega
        have hways : (((j : Int) == 9) = true ∧ ¬ (1 : Int) < (b : Int) ∧ (0 : Int) < (j : Int) ∧ ((b : Int) == 0) = false ∧ b < 128) ∨ (((j : Int) == 9) = false ∧ (0 : Int) < (j : Int) ∧ ((b : Int) == 0) = false ∧ j < 9) ∨ (((j : Int) == 9) = false ∧ ¬ (0 : Int) < (j : Int) ∧ j < 9) := by
          by_cases e9 : j = 9
          · exact .inl ⟨by subst e9; rfl, by omega, by omega, beq_no8 (by omega), by omega⟩
          · by_cases e0 : j = 0
            · exact .inr (.inr ⟨beq_no8 (by omega), by omega, by omega⟩)
            · exact .inr (.inl ⟨beq_no8 (by omega), by omega, beq_no8 (by omega), by omega⟩)
        have HBAD := Lib.hid hbad
        clear hbad
        by_cases h128 : b < 128
        · rw [if_pos h128] at hun
          have hfin := HF.out _ _ _ hun
          rw [bn_nb] at hfin
          have HFIN := Lib.hid hfin
          have b1 : (b : Int) < 128 := by omega
          have ho := ownb_empty w
          have hB := (Below.refl w.heap.size w).alloc (Nat.le_refl _) (.cells #[] 5)
          have hA1 := HA.out.kept hB
          have hdl : (l.drop (j + 1)).length ≤ 1000000 := by rw [List.length_drop]; omega
          have hrest := RowsAt.rest hA1 (j + 1) (by omega)
          have HREST := Lib.hid hrest
          have k1 : (j : Int) + 1 ≤ (l.length : Int) := by omega
          clear hun hfin hA1 hrest hW hW8 hWn hW0 r1 r2 hp hu
          rcases hways with ⟨a1, a2, a3, a4, _⟩ | ⟨a1, a3, a4, _⟩ | ⟨a1, a3, _⟩
          all_goals
            by_cases hcK : c = j + 1
            · have hP := HREST.out (some ⟨g, o, none⟩) (fun _ _ _ h => by omega)
              rw [show c - (j + 1) = 0 by omega] at hP
              have HP := Lib.hid hP
              clear hP HREST
              go_wp2_with (at_builtin; refine wpList_append_rows csB_len (by decide) csB_one rfl _ _ 22 rfl w.heap.size 5 i0 (.int .u8 0) 1 Try.underlying22 hi hz0 hz1 hz2 rfl _ _ rfl ho _ _ rfl HP.out (by unfold maxLen; simp only [List.length_nil]; omega) (by simp only [List.length_nil]; omega) hB.size ?_)
              intro v' w5 g1 g2
              have hB5 := OwnR.below ho hB hB.size g2
              replace g1 : OwnB w5 w.heap.size v' (l.drop (j + 1)) := g1
              have HO5 := Lib.hid g1
              clear g1 g2 ho hB
              go_wp2
              exact bodyPost_ret (v := .tuple #[.int .u64 ((z : Int) + (p : Int)), v', .int .i64 0]) (by simp [results, Try.results14, go_sem]) rfl ⟨v', by rw [HFIN.out]; simp [eno], by rw [HFIN.out]; exact HO5.out.bytes, hB5⟩
            · have hP := HREST.out (some ⟨g, o + (j + 1), none⟩) (fun _ _ e _ => by cases e; simp)
              have HP := Lib.hid hP
              clear hP HREST
              go_wp2_with (at_builtin; refine wpList_append_rows csB_len (by decide) csB_one rfl _ _ 22 rfl w.heap.size 5 i0 (.int .u8 0) 1 Try.underlying22 hi hz0 hz1 hz2 rfl _ _ rfl ho _ _ rfl HP.out (by unfold maxLen; simp only [List.length_nil]; omega) (by simp only [List.length_nil]; omega) hB.size ?_)
              intro v' w5 g1 g2
              have hB5 := OwnR.below ho hB hB.size g2
              replace g1 : OwnB w5 w.heap.size v' (l.drop (j + 1)) := g1
              have HO5 := Lib.hid g1
              clear g1 g2 ho hB
              go_wp2
              exact bodyPost_ret (v := .tuple #[.int .u64 ((z : Int) + (p : Int)), v', .int .i64 0]) (by simp [results, Try.results14, go_sem]) rfl ⟨v', by rw [HFIN.out]; simp [eno], by rw [HFIN.out]; exact HO5.out.bytes, hB5⟩
        · rw [if_neg h128] at hun
          have HUN := Lib.hid hun
          have hj9 : j < 9 := by omega
          have w2 : (W : Int) * 128 ≤ 18446744073709551615 := by
            have h8 := hW8 hj9
            have e8 : (128 : Nat) ^ 8 = 72057594037927936 := by decide
            omega
          have b1 : ¬ (b : Int) < 128 := by omega
          have R2 := Lib.hid r2
          have HWN := Lib.hid hWn
          have way2 : (((j : Int) == 9) = false ∧ (0 : Int) < (j : Int) ∧ ((b : Int) == 0) = false) ∨ (((j : Int) == 9) = false ∧ ¬ (0 : Int) < (j : Int)) := by
            rcases hways with ⟨_, _, _, _, h⟩ | ⟨h1, h2, h3, _⟩ | ⟨h1, h2, _⟩
            · exact absurd h h128
            · exact .inl ⟨h1, h2, h3⟩
            · exact .inr ⟨h1, h2⟩
          clear hun hW hW8 hWn hW0 r1 r2 hp hu hways h128
          rcases way2 with ⟨a1, a3, a4⟩ | ⟨a1, a3⟩
          all_goals
            go_wp2
            go_roundw
            case rel => exact ⟨j + 1, z + p, by omega, by omega, by go_num, by rw [HWN.out]; go_num, by go_num, by rw [HWN.out]; exact R2.out, HUN.out, by trivial⟩
            case measure => simp [intOf] <;> omega
    · have hje : j = l.length := by omega
      rw [hje, List.drop_length] at hun
      have hfin := HF.out _ _ _ hun
      have HFIN := Lib.hid hfin
      rw [hje]
      clear hun hfin hje hlt hj
      go_wp2
      exact bodyPost_ret (v := .tuple #[.int .u64 0, .slice none 0 0, .int .i64 4]) (by simp [results, Try.results14, go_sem]) rfl ⟨.slice none 0 0, by rw [HFIN.out]; rfl, by rw [HFIN.out]; exact RowsAt.nil _ _ _, Below.refl _ _⟩
end Go.Proofs.Ytpbihplnaaojlaa
