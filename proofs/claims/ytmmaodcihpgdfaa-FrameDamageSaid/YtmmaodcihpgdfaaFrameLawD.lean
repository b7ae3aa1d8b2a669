/- The law FrameDamage. -/
import Derived.Test.YtmmaodcihpgdfaaFrameMath
import Derived.Test.YtmmaodcihpgdfaaCrcRefB
import Derived.Test.YtmmaodcihpgdfaaCrcRefC
import Derived.Laws.BitsAllLaws
namespace Go.Proofs.Ytmmaodcihpgdfaa
open Go.RowKit

set_option maxHeartbeats 4000000 in
set_option maxRecDepth 100000 in
theorem frameDamage_any (va vb : Value) (l r : List UInt8) (A B : Int) (w : World) (ha : BytesAt w va l) (hb : BytesAt w vb r) (hA : 0 ≤ A ∧ A < 65536) (hBy : 0 ≤ B ∧ B < 256) :
    Calls Try.prog 6 #[va, vb, .int .u16 A, .int .u8 B] w fun e w' => e = .returned (.bool true) ∧ Below w.heap.size w w' := by
  have HAL := Lib.hid fun w => fAlive10_any w
  have HA := Lib.hid ha
  have HR := Lib.hid hb
  obtain ⟨a, c, rfl⟩ := RowsAt.form ha
  obtain ⟨a', c', rfl⟩ := RowsAt.form hb
  clear ha hb
  by_cases hout : 300 < l.length ∨ 300 < r.length ∨ B = 0
  · have hway : (300 < (l.length : Int)) ∨ (¬ 300 < (l.length : Int) ∧ 300 < (r.length : Int)) ∨ (¬ 300 < (l.length : Int) ∧ ¬ 300 < (r.length : Int) ∧ B = 0) := by omega
    clear hout hA hBy
    rcases hway with h1 | ⟨h1, h2⟩ | ⟨h1, h2, rfl⟩
    all_goals
      go_enter Try.func6, Try.ntmps6
      go_wp2_with (go_at_call 7; (with_reducible refine (HAL.out _).mono ?_); rintro e w1 ⟨rfl, hb⟩)
      go_ret
      exact ⟨rfl, hb⟩
  have h1 : ¬ 300 < (l.length : Int) := by omega
  have h2 : ¬ 300 < (r.length : Int) := by omega
  have h3 : (B == 0) = false := beq_no9 (by omega)
  obtain ⟨b, rfl⟩ : ∃ b : Nat, B = b := ⟨B.toNat, by omega⟩
  obtain ⟨i0, hi, hz0, hz1, hz2⟩ := info_parts info_byte
  obtain ⟨m, hm⟩ : ∃ m, (recF l).length = m := ⟨_, rfl⟩
  have hml : m = 8 + l.length := by rw [← hm, recF_len]
  have mi : 8 + (l.length : Int) = (m : Int) := by omega
  obtain ⟨q, hq⟩ : ∃ q, q = 4 + l.length := ⟨_, rfl⟩
  have qi : (m : Int) - 4 = (q : Int) := by omega
  obtain ⟨d, hd⟩ : ∃ d : Nat, A % (q : Int) = d := ⟨(A % (q : Int)).toNat, by have := Int.emod_nonneg A (show (q : Int) ≠ 0 by omega); omega⟩
  have hdq : d < q := by have := Int.emod_lt_of_pos A (show 0 < (q : Int) by omega); omega
  obtain ⟨i, hii⟩ : ∃ i, i = 4 + d := ⟨_, rfl⟩
  have ii : 4 + (d : Int) = (i : Int) := by omega
  have hlen : (recF l ++ r).length = m + r.length := by rw [List.length_append, hm]
  have hix : i < (recF l ++ r).length := by omega
  have hdm := damage l r i b (by omega) (by omega) (by omega) (by omega) (by omega) hix
  obtain ⟨y, hy⟩ : ∃ y, (recF l ++ r)[i]'hix = y := ⟨_, rfl⟩
  rw [hy] at hdm
  have g1 : ∀ w, BytesAt w (.slice a l.length c) l → Calls Try.prog 8 #[.slice none 0 0, .slice a l.length c] w fun e w' => ∃ a1 c1, e = .returned (.tuple #[.slice a1 m c1, .int .i64 0]) ∧ BytesAt w' (.slice a1 m c1) (recF l) ∧ Below w.heap.size w w' := fun w ha => by
    have := fWrite10_any (.slice none 0 0) (.slice a l.length c) [] l w (RowsAt.nil _ _ _) ha (by simp) (by omega)
    rw [show wrF [] l = (recF l, 0) by unfold wrF; rw [if_neg (by omega)]; rfl] at this
    refine this.mono ?_
    rintro e w' ⟨v, rfl, hp, hb⟩
    obtain ⟨a1, c1, rfl⟩ := RowsAt.form hp
    rw [hm] at hp ⊢
    exact ⟨a1, c1, rfl, hp, hb⟩
  have hxl : ((recF l ++ r).set i (UInt8.ofNat (y.toNat ^^^ b))).length ≤ 900000 := by rw [List.length_set]; omega
  have hx256 : y.toNat ^^^ b < 256 := Nat.xor_lt_two_pow (n := 8) y.toNat_lt (by omega)
  have x1 := u8_xor_nat y.toNat b y.toNat_lt (by omega)
  have hall := allF_end _ (by rw [hdm]; decide : (readF ((recF l ++ r).set i (UInt8.ofNat (y.toNat ^^^ b)))).2.2 ≠ 0)
  have g2 := fun w va ha => fRead10_any va _ w ha hxl
  have g3 := fun w va ha => fAll10_any va _ w ha hxl
  rw [hdm] at g2
  rw [hall] at g3
  simp only at g2 g3
  have G1 := Lib.hid g1
  have G2 := Lib.hid g2
  have G3 := Lib.hid g3
  have HLEN := Lib.hid hlen
  have HIX := Lib.hid hix
  have HX256 := Lib.hid hx256
  have HM := Lib.hid hm
  have l0 : (0 : Int) ≤ (d : Int) := by omega
  have l1 : (0 : Int) ≤ (i : Int) := by omega
  have l2 : (i : Int) < ((m + r.length : Nat) : Int) := by omega
  have l3 : (i : Int) < (m : Int) + (r.length : Int) := by omega
  have l4 : (m : Int) ≤ 308 := by omega
  have l5 : 4 ≤ (m : Int) := by omega
  have l6 : (0 : Int) < (q : Int) := by omega
  have l7 : (q : Int) ≤ 304 := by omega
  have l8 : (d : Int) ≤ 304 := by omega
  have HN := Lib.hid (show m ≤ 308 ∧ r.length ≤ 300 by omega)
  have HY := Lib.hid hy
  clear g1 g2 g3 hlen hx256 hxl hy hm hml hq hdq hii hdm hall hout hBy
  go_enter Try.func6, Try.ntmps6
  go_wp2_with (go_at_call 8; (with_reducible refine (G1.out _ HA.out).mono ?_); rintro e w1 ⟨a1, c1, rfl, hp1, hb1⟩; refine (fun (_ : True) => ?_) trivial; revert hp1)
  intro hp1
  have ho := ownb_empty w1
  have hBa := (Below.refl w1.heap.size w1).alloc (Nat.le_refl _) (.cells #[] 5)
  have hq1 := hp1.kept hBa
  clear hp1
  go_wp2_with (at_builtin; refine wpList_append_rows csB_len (by decide) csB_one rfl _ _ 22 rfl w1.heap.size 5 i0 (.int .u8 0) 1 Try.underlying22 hi hz0 hz1 hz2 rfl _ _ rfl ho _ _ rfl hq1 (by unfold maxLen; have := HN.out; rw [HM.out]; simp only [List.length_nil]; omega) (by have := HN.out; rw [HM.out]; simp only [List.length_nil]; omega) hBa.size ?_)
  intro v2 w2 o2 g2
  have hB2 := OwnR.below ho hBa hBa.size g2
  have hB02 := hb1.trans (hB2.mono hb1.size)
  replace o2 : OwnB w2 w1.heap.size v2 (recF l) := o2
  have hr2 := HR.out.kept hB02
  clear ho g2 hq1 hBa
  go_wp2_with (at_builtin; refine wpList_append_rows csB_len (by decide) csB_one rfl _ _ 22 rfl w1.heap.size 5 i0 (.int .u8 0) 1 Try.underlying22 hi hz0 hz1 hz2 rfl _ _ rfl o2 _ _ rfl hr2 (by unfold maxLen; have := HN.out; rw [HM.out]; omega) (by have := HN.out; rw [HM.out]; omega) hB2.size ?_)
  intro v3 w3 o3 g3
  have hB3 := OwnR.below o2 hB2 hB2.size g3
  have hB03 := hb1.trans (hB3.mono hb1.size)
  replace o3 : OwnB w3 w1.heap.size v3 (recF l ++ r) := o3
  obtain ⟨g, cap, e, hg, hcap, hfr⟩ := OwnB.some o3 (by rw [HLEN.out]; omega)
  rw [HLEN.out] at e
  subst e
  obtain ⟨g', o', c2, e, _, _, p0⟩ := BytesAt.at o3.bytes i HIX.out
  rw [HLEN.out] at e
  cases e
  rw [HY.out, Nat.zero_add] at p0
  have z0 := hfr i
  have hput := OwnB.put o3 i HIX.out (UInt8.ofNat (y.toNat ^^^ b))
  rw [UInt8.toNat_ofNat', Nat.mod_eq_of_lt HX256.out] at hput
  have hB4 := hB03.setCell (p := ⟨g, i, none⟩) (Nat.le_trans hb1.size hg) (.int .u8 ((y.toNat ^^^ b : Nat) : Int))
  have HPUT := Lib.hid hput.bytes
  clear o2 g3 hr2 hB2 hB02 o3 hput hfr hB3 hB03
  generalize (recF l ++ r).set i (UInt8.ofNat (y.toNat ^^^ b)) = X at *
  generalize y.toNat ^^^ b = z at *
  go_wp2_with (first
    | (go_at_call 13; (with_reducible refine (G2.out _ _ HPUT.out).mono ?_); rintro e w5 ⟨v5, u5, rfl, hp5, hq5, hb5⟩; obtain ⟨a5, c5, rfl⟩ := RowsAt.form hp5; obtain ⟨a6, c6, rfl⟩ := RowsAt.form hq5; have HB := Lib.hid (hB4.trans (hb5.mono hB4.size)); replace HPUT := Lib.hid (HPUT.out.kept hb5); clear hp5 hq5 hb5)
    | (go_at_call 15; (with_reducible refine (G3.out _ _ HPUT.out).mono ?_); rintro e w6 ⟨v6, rfl, hp6, hb6⟩; obtain ⟨a7, c7, rfl⟩ := BssAt.form hp6; replace HB := Lib.hid (HB.out.trans (hb6.mono HB.out.size)); clear hp6 hb6)
    | (go_at_call 7; (with_reducible refine (HAL.out _).mono ?_); rintro e w8 ⟨rfl, hb8⟩; replace HB := Lib.hid (HB.out.trans (hb8.mono HB.out.size)); clear hb8))
  go_ret
  exact ⟨rfl, HB.out⟩
end Go.Proofs.Ytmmaodcihpgdfaa
