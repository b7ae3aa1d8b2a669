/- Stage 9's program: sums. -/
import Derived.Test.YtmmaodcihpgdfaaCrcA
namespace Go.Proofs.Ytmmaodcihpgdfaa
open Go.RowKit

theorem sti_byte (y u : Nat) : sti 8 (y ^^^ u) = y / 256 ^^^ sti 8 (y % 256 ^^^ u) := by
  have h1 : y = y % 256 ^^^ 2 ^ 8 * (y / 256) := by rw [← low_xor (Nat.mod_lt y (by decide)) (y / 256)]; omega
  have h2 : y ^^^ u = 2 ^ 8 * (y / 256) ^^^ (y % 256 ^^^ u) := by
    conv => lhs; rw [h1]
    rw [Nat.xor_comm (y % 256), Nat.xor_assoc]
  rw [h2, sti_xor, sti_shift]

theorem turned {s : Nat} (h : s < 4294967296) : bits .xor .u32 IntKind.u32.max (s : Int) = ((tn9 s : Nat) : Int) := by
  rw [tn9_xor h, Nat.xor_comm]
  exact u32_xor_nat 4294967295 s (by decide) h

set_option maxHeartbeats 2000000 in
set_option maxRecDepth 100000 in
theorem cMore9_any (s : Nat) (va : Value) (l : List UInt8) (w : World) (ha : BytesAt w va l) (hl : l.length ≤ 1000000) (hs : s < 4294967296) :
    Calls Try.prog 27 #[.int .u32 (s : Int), va] w fun e w' => e = .returned (.int .u32 ((mor s (nb9 l) : Nat) : Int)) ∧ Below w.heap.size w w' := by
  obtain ⟨hz, hsz⟩ := zero_of_info (P := Try.prog) (t := 56) (v := .agg (List.replicate 256 (.int .u32 0)).toArray) (n := 256) (by kernel_rfl)
  have hal : Try.prog.arrayLen 56 = 256 := by kernel_rfl
  obtain ⟨Z, hZ⟩ : ∃ Z, Z = List.replicate 256 (Value.int .u32 0) := ⟨_, rfl⟩
  rw [← hZ] at hz
  have hZl : Z.length = 256 := by rw [hZ]; rfl
  clear hZ
  have HE := Lib.hid (cEach9_any w)
  have HA := Lib.hid ha
  obtain ⟨a, c, rfl⟩ := RowsAt.form ha
  obtain ⟨M, hM⟩ : ∃ M, M = tab9 := ⟨_, rfl⟩
  rw [← hM] at HE
  have hone : M.toArray.all (·.oneCell') = true := by rw [hM, Array.all_eq_true_iff_forall_mem]; intro v hv; unfold tab9 at hv; simp at hv; obtain ⟨i, _, rfl⟩ := hv; rfl
  have hat := fun i hi => Lib.hid (tab9_at i hi)
  have hMl := tab9_len
  rw [← hM] at hat hMl
  have HONE := Lib.hid hone
  have HZL := Lib.hid hZl
  have hMs : some 256 = some M.toArray.size := by rw [List.size_toArray, hMl]
  have HMS := Lib.hid (hsz.trans hMs)
  clear ha hM hone hZl hMs hsz
  go_enter Try.func27, Try.ntmps27
  go_wp2_with (go_at_call 32; (with_reducible refine HE.out.mono ?_); rintro e w1 ⟨rfl, hb⟩)
  have hsc : (storeCells ⟨w1.heap.size, 0, none⟩ M 0).run Try.prog (w1.alloc (.cells Z.toArray 56)) = .ok () (w1.alloc (.cells M.toArray 56)) := by
    simpa using run_storeCells_new (P := Try.prog) w1 56 Z.toArray M.toArray HMS.out (by rw [List.size_toArray, List.size_toArray, hMl, HZL.out]) HONE.out
  simp only [hsc, Result.andThen]
  rw [Oper.upon_skip]
  have hB := hb.alloc hb.size (.cells M.toArray 56)
  have hg := heap_alloc_new w1 (.cells M.toArray 56)
  have hcell : ∀ i, (hi : i < 256) → (w1.alloc (.cells M.toArray 56)).cell? ⟨w1.heap.size, i, none⟩ = some (.int .u32 ((sti 8 i : Nat) : Int)) := by
    intro i hi
    simp only [World.cell?, hg]
    simpa using (hat i hi).out
  have hsz2 : w1.heap.size < (w1.alloc (.cells M.toArray 56)).heap.size := by simp
  obtain ⟨w2, hw2⟩ : ∃ w2, w2 = w1.alloc (.cells M.toArray 56) := ⟨_, rfl⟩
  rw [← hw2] at hB hcell ⊢
  obtain ⟨B, hBe⟩ : ∃ B, B = w1.heap.size := ⟨_, rfl⟩
  rw [← hBe] at hcell ⊢
  have HA2 := Lib.hid (HA.out.kept hB)
  have HC := fun i hi => Lib.hid (hcell i hi)
  have HB := Lib.hid hB
  have hr : ∀ j, reg (tn9 s) (nb9 (l.take j)) < 4294967296 := fun j => reg_lt (nb9 (l.take j)) (tn9 s) (tn9_lt s) (nb9_byte _)
  have HN := fun j hj => Lib.hid (reg_next (tn9 s) l j hj)
  have hn0 := turned hs
  have hn1 := turned (hr l.length)
  rw [List.take_length] at hn1
  have HR := fun j => Lib.hid (hr j)
  have hm : tn9 (reg (tn9 s) (nb9 l)) = mor s (nb9 l) := rfl
  rw [hm] at hn1
  have hreg0 : reg (tn9 s) (nb9 (l.take 0)) = tn9 s := rfl
  have H0 := Lib.hid hreg0
  clear hsc hB hg hcell hsz2 hw2 hBe hb hr hs hz hMl hat HMS HZL HONE HE HA hm hreg0
  go_wp2
  go_loopw [6, 8, 14] (fun x _ i wr => ∃ j : Nat, j ≤ l.length ∧ x = .int .u32 ((reg (tn9 s) (nb9 (l.take j)) : Nat) : Int) ∧ i = .int .i64 j ∧ wr = w2) (fun _ _ i _ => l.length - (intOf i).toNat)
  case atStart => exact ⟨0, Nat.zero_le _, by rw [H0.out], rfl, rfl⟩
  case round =>
    obtain ⟨j, hj, rfl, rfl, rfl⟩ := hrel
    by_cases hlt : j < l.length
    · obtain ⟨g, o, c', ev, hc, hg, p0⟩ := BytesAt.at HA2.out j hlt
      cases ev
      have hn := (HN j hlt).out
      have hrj := (HR j).out
      have hu := l[j].toNat_lt
      rw [sti_byte] at hn
      generalize reg (tn9 s) (nb9 (l.take j)) = y at *
      generalize l[j].toNat = u at *
      have hx8 : bits .xor .u8 ((y : Int) % 256) (u : Int) = ((y % 256 ^^^ u : Nat) : Int) := by
        have := u8_xor_nat (y % 256) u (by omega) hu
        rwa [show ((y % 256 : Nat) : Int) = (y : Int) % 256 by omega] at this
      have hnl : y % 256 ^^^ u < 256 := Nat.xor_lt_two_pow (n := 8) (by omega) hu
      generalize y % 256 ^^^ u = n at *
      have hcell := (HC n hnl).out
      have hsl : sti 8 n < 4294967296 := sti_lt 8 n (by omega)
      generalize sti 8 n = z at *
      have hx32 : bits .xor .u32 ((y : Int) / 256) (z : Int) = ((y / 256 ^^^ z : Nat) : Int) := by
        have := u32_xor_nat (y / 256) z (by omega) hsl
        rwa [show ((y / 256 : Nat) : Int) = (y : Int) / 256 by omega] at this
      have HNN := Lib.hid hn
      have j0 : (0 : Int) ≤ (j : Int) := by omega
      have j1 : (j : Int) < (l.length : Int) := by omega
      have n1 : (n : Int) < 256 := by omega
      have n0 : (0 : Int) ≤ (n : Int) := by omega
      have y1 : (y : Int) ≤ 4294967295 := by omega
      clear hn hrj hu hsl hnl hn0 hn1
      go_wp2
      go_roundw
      case rel => exact ⟨j + 1, by omega, by rw [HNN.out], by go_num, by trivial⟩
      case measure => simp [intOf] <;> omega
    · have hje : j = l.length := by omega
      rw [hje, List.take_length]
      clear hje hlt hj
      go_wp2
      go_ret
      exact ⟨rfl, HB.out⟩
end Go.Proofs.Ytmmaodcihpgdfaa
