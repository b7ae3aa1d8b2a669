/- The walks of the document's answers for layer 10: Size, Write. -/
import Derived.Test.YtmmaodcihpgdfaaPackRefC
import Derived.Test.YtmmaodcihpgdfaaCrcRefA
namespace Go.Proofs.Ytmmaodcihpgdfaa
open Go.RowKit

/-- a record -/
def hdF (n : Nat) : List UInt8 := bn (bigs 4 n)
def sbF (p : List UInt8) : Nat := sm (nb9 (hdF p.length ++ p))
def recF (p : List UInt8) : List UInt8 := hdF p.length ++ hdF (sbF p) ++ p
def wrF (l p : List UInt8) : List UInt8 × Nat := if 65536 < p.length then ([], 15) else (l ++ recF p, 0)
def szF (n : Int) : Int := if n < 0 ∨ 65536 < n then 0 else 8 + n
theorem hdF_len (n : Nat) : (hdF n).length = 4 := by unfold hdF; rw [bn_len, bigs_length]
theorem sbF_lt (p : List UInt8) : sbF p < 4294967296 := tn9_lt _

set_option maxHeartbeats 1000000 in
theorem refSize10_any (n : Int) (w : World) (hn : -9223372036854775808 ≤ n ∧ n ≤ 9223372036854775807) :
    Calls Try.prog 12 #[.int .i64 n] w fun e w' => e = .returned (.int .i64 (szF n)) ∧ w = w' := by
  unfold szF
  have hw : (n < 0) ∨ (¬ n < 0 ∧ 65536 < n) ∨ (¬ n < 0 ∧ ¬ 65536 < n) := by omega
  rcases hw with h1 | ⟨h1, h2⟩ | ⟨h1, h2⟩
  · rw [if_pos (.inl h1)]
    go_enter Try.func12, Try.ntmps12
    go_wp2
    go_ret
    exact ⟨rfl, rfl⟩
  · rw [if_pos (.inr h2)]
    go_enter Try.func12, Try.ntmps12
    go_wp2
    go_ret
    exact ⟨rfl, rfl⟩
  · rw [if_neg (by omega)]
    have hz : IntKind.i64.wrap (8 + n) = 8 + n := IntWalk.i64_in _ ⟨by omega, by omega⟩
    go_enter Try.func12, Try.ntmps12
    go_wp2
    go_ret
    exact ⟨rfl, rfl⟩

set_option maxHeartbeats 4000000 in
set_option maxRecDepth 100000 in
theorem refWriteO10_any (va vp : Value) (l p : List UInt8) (w : World) (ha : BytesAt w va l) (hp : BytesAt w vp p) (hl : l.length ≤ 100000) (hpl : p.length ≤ 9223372036854775807) :
    Calls Try.prog 9 #[va, vp] w fun e w' => ∃ v, e = .returned (.tuple #[v, .int .i64 ((wrF l p).2 : Int)]) ∧ OwnB w' w.heap.size v (wrF l p).1 ∧ Below w.heap.size w w' := by
  obtain ⟨i0, hi, hz0, hz1, hz2⟩ := info_parts info_byte
  have HA := Lib.hid ha
  have HP := Lib.hid hp
  obtain ⟨a, c, rfl⟩ := RowsAt.form ha
  obtain ⟨a', c', rfl⟩ := RowsAt.form hp
  clear ha hp
  unfold wrF
  by_cases hbig : 65536 < p.length
  · rw [if_pos hbig]
    go_enter Try.func9, Try.ntmps9
    go_wp2
    exact bodyPost_ret (v := .tuple #[.slice none 0 0, .int .i64 15]) (by simp [results, Try.results9, go_sem]) rfl ⟨_, rfl, OwnR.nil _ _ _ _ _, Below.refl _ _⟩
  · rw [if_neg hbig]
    have g1 : ∀ w, Calls Try.prog 22 #[.slice none 0 0, .int .u64 (p.length : Int), .int .i64 4] w fun e w' => ∃ v, e = .returned v ∧ BytesAt w' v (hdF p.length) ∧ Below w.heap.size w w' := fun w => refPut_any (.slice none 0 0) [] p.length 4 w (RowsAt.nil _ _ _) (by simp) (by omega)
    have g2 := fun w va ha => refSum9_any va (hdF p.length ++ p) w ha (by rw [List.length_append, hdF_len]; omega)
    have g3 : ∀ w va, BytesAt w va (l ++ hdF p.length) → Calls Try.prog 22 #[va, .int .u64 (sbF p : Int), .int .i64 4] w fun e w' => ∃ v, e = .returned v ∧ OwnB w' w.heap.size v (l ++ hdF p.length ++ hdF (sbF p)) ∧ Below w.heap.size w w' := fun w va ha => refPutO_any va _ (sbF p) 4 w ha (by rw [List.length_append, hdF_len]; omega) (by have := sbF_lt p; omega)
    have g4 : ∀ w va, BytesAt w va (hdF p.length ++ p) → Calls Try.prog 23 #[va] w fun e w' => e = .returned (.int .u32 ((sbF p : Nat) : Int)) ∧ w = w' := fun w va ha => g2 w va ha
    have hrec : l ++ recF p = l ++ hdF p.length ++ hdF (sbF p) ++ p := by unfold recF; simp only [List.append_assoc]
    rw [hrec]
    have hs := sbF_lt p
    have hh := hdF_len p.length
    have hh2 := hdF_len (sbF p)
    generalize hdF (sbF p) = S at *
    generalize sbF p = s at *
    generalize hdF p.length = D at *
    have s1 : (s : Int) ≤ 4294967295 := by omega
    have p1 : ¬ 65536 < (p.length : Int) := by omega
    have S1 := Lib.hid s1
    have G1 := Lib.hid g1
    have G3 := Lib.hid g3
    have G4 := Lib.hid g4
    have HH := Lib.hid hh
    have HPL := Lib.hid (show p.length ≤ 65536 by omega)
    have q1 : (p.length : Int) ≤ 65536 := by omega
    have HS := Lib.hid hh2
    have HL := Lib.hid hl
    clear g1 g2 g3 g4 hrec hs hbig hpl p1 s1 hh hh2 hl
    go_enter Try.func9, Try.ntmps9
    go_wp2_with (go_at_call 22; (with_reducible refine (G1.out _).mono ?_); rintro e w1 ⟨v1, rfl, hp1, hb1⟩; refine (fun (_ : True) => ?_) trivial; revert hp1)
    intro hp1
    obtain ⟨a1, c1, rfl⟩ := RowsAt.form hp1
    have ho := ownb_empty w1
    have hBa := (Below.refl w1.heap.size w1).alloc (Nat.le_refl _) (.cells #[] 5)
    have hD1 := hp1.kept hBa
    clear G1
    rw [HH.out] at hD1 hp1 ⊢
    have HD := Lib.hid hp1
    clear hp1
    go_wp2_with (at_builtin; refine wpList_append_rows csB_len (by decide) csB_one rfl _ _ 22 rfl w1.heap.size 5 i0 (.int .u8 0) 1 Try.underlying22 hi hz0 hz1 hz2 rfl _ _ rfl ho _ _ rfl hD1 (by unfold maxLen; simp only [List.length_nil, HH.out]; omega) (by simp only [List.length_nil, HH.out]; omega) hBa.size ?_)
    intro v2 w2 o2 g2
    have hB2 := OwnR.below ho hBa hBa.size g2
    have hB02 := hb1.trans (hB2.mono hb1.size)
    replace o2 : OwnB w2 w1.heap.size v2 D := o2
    have hp2 := HP.out.kept hB02
    clear ho hBa g2 hD1
    go_wp2_with (at_builtin; refine wpList_append_rows csB_len (by decide) csB_one rfl _ _ 22 rfl w1.heap.size 5 i0 (.int .u8 0) 1 Try.underlying22 hi hz0 hz1 hz2 rfl _ _ rfl o2 _ _ rfl hp2 (by unfold maxLen; have := HPL.out; have := HH.out; omega) (by have := HPL.out; have := HH.out; omega) hB2.size ?_)
    intro v3 w3 o3 g3
    have hB3 := OwnR.below o2 hB2 hB2.size g3
    have hB03 := hb1.trans (hB3.mono hb1.size)
    replace o3 : OwnB w3 w1.heap.size v3 (D ++ p) := o3
    have hO3 := Lib.hid o3.bytes
    have ho := ownb_empty w3
    have hBc := (Below.refl w3.heap.size w3).alloc (Nat.le_refl _) (.cells #[] 5)
    have hA3 := (HA.out.kept hB03).kept hBc
    clear o2 g3 hp2 hB2 hB02 o3
    go_wp2_with (first
      | (go_at_call 23; (with_reducible refine (G4.out _ _ hO3.out).mono ?_); rintro e w4 ⟨rfl, rfl⟩)
      | (at_builtin; refine wpList_append_rows csB_len (by decide) csB_one rfl _ _ 22 rfl w3.heap.size 5 i0 (.int .u8 0) 1 Try.underlying22 hi hz0 hz1 hz2 rfl _ _ rfl ho _ _ rfl hA3 (by unfold maxLen; have := HL.out; simp only [List.length_nil]; omega) (by have := HL.out; simp only [List.length_nil]; omega) hBc.size ?_))
    intro v5 w5 o5 g5
    have hB5 := OwnR.below ho hBc hBc.size g5
    have hB05 := hB03.trans (hB5.mono hB03.size)
    replace o5 : OwnB w5 w3.heap.size v5 l := o5
    have hD5 := (HD.out.kept hB3).kept hB5
    clear ho hBc g5 hA3 hO3 G4
    go_wp2_with (at_builtin; refine wpList_append_rows csB_len (by decide) csB_one rfl _ _ 22 rfl w3.heap.size 5 i0 (.int .u8 0) 1 Try.underlying22 hi hz0 hz1 hz2 rfl _ _ rfl o5 _ _ rfl hD5 (by unfold maxLen; have := HL.out; have := HH.out; omega) (by have := HL.out; have := HH.out; omega) hB5.size ?_)
    intro v6 w6 o6 g6
    have hB6 := OwnR.below o5 hB5 hB5.size g6
    have hB06 := hB03.trans (hB6.mono hB03.size)
    replace o6 : OwnB w6 w3.heap.size v6 (l ++ D) := o6
    have hO6 := Lib.hid o6.bytes
    have s1 := S1.out
    clear o5 hB5 hB05 hD5 g6 o6 HD
    go_wp2_with (go_at_call 22; (with_reducible refine (G3.out _ _ hO6.out).mono ?_); rintro e w7 ⟨v7, rfl, o7, hb7⟩; refine (fun (_ : True) => ?_) trivial; revert hb7)
    intro hb7
    have hB07 := hB06.trans (hb7.mono hB06.size)
    have hp7 := HP.out.kept hB07
    clear G3 hO6 hB6 hB3
    go_wp2_with (at_builtin; refine wpList_append_rows csB_len (by decide) csB_one rfl _ _ 22 rfl w6.heap.size 5 i0 (.int .u8 0) 1 Try.underlying22 hi hz0 hz1 hz2 rfl _ _ rfl o7 _ _ rfl hp7 (by unfold maxLen; have := HL.out; have := HH.out; have := HPL.out; have := HS.out; simp only [List.length_append]; omega) (by have := HL.out; have := HH.out; have := HPL.out; have := HS.out; simp only [List.length_append]; omega) hb7.size ?_)
    intro v8 w8 o8 g8
    have hB8 := OwnR.below o7 hb7 hb7.size g8
    have hB08 := hB06.trans (hB8.mono hB06.size)
    replace o8 : OwnB w8 w6.heap.size v8 (l ++ D ++ S ++ p) := by simp only [List.append_assoc] at o8 ⊢; exact o8
    have hO8 := Lib.hid (OwnB.base o8 hB06.size)
    clear o7 g8 hp7 hb7 o8
    go_wp2
    exact bodyPost_ret (v := .tuple #[v8, .int .i64 0]) (by simp [results, Try.results9, go_sem]) rfl ⟨_, rfl, hO8.out, hB08⟩
theorem refWrite10_any (va vp : Value) (l p : List UInt8) (w : World) (ha : BytesAt w va l) (hp : BytesAt w vp p) (hl : l.length ≤ 100000) (hpl : p.length ≤ 9223372036854775807) :
    Calls Try.prog 9 #[va, vp] w fun e w' => ∃ v, e = .returned (.tuple #[v, .int .i64 ((wrF l p).2 : Int)]) ∧ BytesAt w' v (wrF l p).1 ∧ Below w.heap.size w w' := by
  refine (refWriteO10_any va vp l p w ha hp hl hpl).mono ?_
  rintro e w' ⟨v, h1, h2, h3⟩
  exact ⟨v, h1, h2.bytes, h3⟩
end Go.Proofs.Ytmmaodcihpgdfaa
