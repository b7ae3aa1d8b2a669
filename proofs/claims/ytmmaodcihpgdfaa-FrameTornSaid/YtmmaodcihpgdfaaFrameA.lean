/- Stage 10's program: Size, the sum of a record, Write. -/
import Derived.Test.YtmmaodcihpgdfaaFrameRefD
import Derived.Test.YtmmaodcihpgdfaaPackC
import Derived.Test.YtmmaodcihpgdfaaCrcC
namespace Go.Proofs.Ytmmaodcihpgdfaa
open Go.RowKit

set_option maxHeartbeats 1000000 in
theorem fSize10_any (n : Int) (w : World) (hn : -9223372036854775808 ≤ n ∧ n ≤ 9223372036854775807) :
    Calls Try.prog 11 #[.int .i64 n] w fun e w' => e = .returned (.int .i64 (szF n)) ∧ Below w.heap.size w w' := by
  unfold szF
  have hw : (n < 0) ∨ (¬ n < 0 ∧ 65536 < n) ∨ (¬ n < 0 ∧ ¬ 65536 < n) := by omega
  rcases hw with h1 | ⟨h1, h2⟩ | ⟨h1, h2⟩
  · rw [if_pos (.inl h1)]
    go_enter Try.func11, Try.ntmps11
    go_wp2
    go_ret
    exact ⟨rfl, Below.refl _ _⟩
  · rw [if_pos (.inr h2)]
    go_enter Try.func11, Try.ntmps11
    go_wp2
    go_ret
    exact ⟨rfl, Below.refl _ _⟩
  · rw [if_neg (by omega)]
    have hz : IntKind.i64.wrap (8 + n) = 8 + n := IntWalk.i64_in _ ⟨by omega, by omega⟩
    go_enter Try.func11, Try.ntmps11
    go_wp2
    go_ret
    exact ⟨rfl, Below.refl _ _⟩

/-- the sum of two, one behind the other -/
theorem mor_two (a b : List UInt8) : mor (sm (nb9 a)) (nb9 b) = sm (nb9 (a ++ b)) := by
  unfold nb9
  rw [List.map_append]
  exact mor_more _ _ (nb9_byte a)
set_option maxHeartbeats 2000000 in
theorem fSum10_any (va vp : Value) (l p : List UInt8) (w : World) (ha : BytesAt w va l) (hp : BytesAt w vp p) (hl : l.length ≤ 1000000) (hpl : p.length ≤ 1000000) :
    Calls Try.prog 20 #[va, vp] w fun e w' => e = .returned (.int .u64 ((sm (nb9 (l ++ p)) : Nat) : Int)) ∧ Below w.heap.size w w' := by
  have H1 := Lib.hid (cSum9_any va l w ha hl)
  have H2 := fun w' (hb : Below w.heap.size w w') => Lib.hid (cMore9_any (sm (nb9 l)) vp p w' (hp.kept hb) hpl (tn9_lt _))
  have he := mor_two l p
  rw [he] at H2
  have h1 : sm (nb9 (l ++ p)) < 4294967296 := tn9_lt _
  obtain ⟨a, c, rfl⟩ := RowsAt.form ha
  obtain ⟨a', c', rfl⟩ := RowsAt.form hp
  generalize sm (nb9 (l ++ p)) = S at *
  generalize sm (nb9 l) = s at *
  have s1 : (S : Int) ≤ 4294967295 := by omega
  clear ha hp he h1
  go_enter Try.func20, Try.ntmps20
  go_wp2_with (first
    | (go_at_call 28; (with_reducible refine H1.out.mono ?_); rintro e w1 ⟨rfl, hb1⟩)
    | (go_at_call 27; (with_reducible refine (H2 _ hb1).out.mono ?_); rintro e w2 ⟨rfl, hb2⟩; replace hb1 := hb1.trans (hb2.mono hb1.size)))
  go_ret
  exact ⟨rfl, hb1⟩

/-- rows that a call gathers -/
theorem bss_lit {w : World} {ts : List Sl} {L : List (List UInt8)} (h : EachB w none ts L) (T : TypeId) : BssAt (w.alloc (.cells (ts.map sl).toArray T)) (.slice (some ⟨w.heap.size, 0, none⟩) ts.length ts.length) L := by
  have hB := (Below.refl w.heap.size w).alloc (Nat.le_refl _) (.cells (ts.map sl).toArray T)
  refine ⟨ts, ⟨_, _, rfl, Nat.le_refl _, fun _ => ⟨_, _, rfl, by simp, fun j x hj i u hu => ?_⟩⟩, h.kept hB⟩
  rcases i with _ | i
  · simp [csS] at hu
    subst hu
    rw [World.cell?_alloc_at _ _ _ _ rfl]
    simp [hj]
  · simp [csS] at hu
theorem bss_four {w : World} {v1 v2 v3 v4 : Value} {l1 l2 l3 l4 : List UInt8} (h1 : BytesAt w v1 l1) (h2 : BytesAt w v2 l2) (h3 : BytesAt w v3 l3) (h4 : BytesAt w v4 l4) (T : TypeId) :
    BssAt (w.alloc (.cells #[v1, v2, v3, v4] T)) (.slice (some ⟨w.heap.size, 0, none⟩) 4 4) [l1, l2, l3, l4] := by
  obtain ⟨a1, c1, rfl⟩ := RowsAt.form h1
  obtain ⟨a2, c2, rfl⟩ := RowsAt.form h2
  obtain ⟨a3, c3, rfl⟩ := RowsAt.form h3
  obtain ⟨a4, c4, rfl⟩ := RowsAt.form h4
  have hN : EachB w none [] [] := ⟨rfl, fun j t l h => by simp at h⟩
  have hn : ∀ (l : List UInt8) (a : Option Addr), 0 < l.length → ∀ b, a = some b → some b.block ≠ none := fun _ _ _ _ _ e => by cases e
  have := (((hN.snoc (t := (a1, l1.length, c1)) h1 (hn _ _)).snoc (t := (a2, l2.length, c2)) h2 (hn _ _)).snoc (t := (a3, l3.length, c3)) h3 (hn _ _)).snoc (t := (a4, l4.length, c4)) h4 (hn _ _)
  exact bss_lit this T

set_option maxHeartbeats 4000000 in
set_option maxRecDepth 100000 in
theorem fWriteO10_any (va vp : Value) (l p : List UInt8) (w : World) (ha : BytesAt w va l) (hp : BytesAt w vp p) (hl : l.length ≤ 100000) (hpl : p.length ≤ 9223372036854775807) :
    Calls Try.prog 8 #[va, vp] w fun e w' => ∃ v, e = .returned (.tuple #[v, .int .i64 ((wrF l p).2 : Int)]) ∧ OwnB w' w.heap.size v (wrF l p).1 ∧ Below w.heap.size w w' := by
  have HA := Lib.hid ha
  have HP := Lib.hid hp
  obtain ⟨a, c, rfl⟩ := RowsAt.form ha
  obtain ⟨a', c', rfl⟩ := RowsAt.form hp
  clear ha hp
  unfold wrF
  by_cases hbig : 65536 < p.length
  · rw [if_pos hbig]
    have p1 : 65536 < (p.length : Int) := by omega
    go_enter Try.func8, Try.ntmps8
    go_wp2
    exact bodyPost_ret (v := .tuple #[.slice none 0 0, .int .i64 15]) (by simp [results, Try.results8, go_sem]) rfl ⟨_, rfl, OwnR.nil _ _ _ _ _, Below.refl _ _⟩
  · rw [if_neg hbig]
    have hh := hdF_len p.length
    have hh2 := hdF_len (sbF p)
    have hs := sbF_lt p
    have g1 : ∀ w, Calls Try.prog 19 #[.slice none 0 0, .int .u64 (p.length : Int), .int .i64 4] w fun e w' => ∃ v, e = .returned v ∧ BytesAt w' v (hdF p.length) ∧ Below w.heap.size w w' := fun w => kPut_any (.slice none 0 0) [] p.length 4 w (RowsAt.nil _ _ _) (by simp) (by omega)
    have g2 : ∀ w, Calls Try.prog 19 #[.slice none 0 0, .int .u64 (sbF p : Int), .int .i64 4] w fun e w' => ∃ v, e = .returned v ∧ BytesAt w' v (hdF (sbF p)) ∧ Below w.heap.size w w' := fun w => kPut_any (.slice none 0 0) [] (sbF p) 4 w (RowsAt.nil _ _ _) (by simp) (by omega)
    have g3 : ∀ w va vp, BytesAt w va (hdF p.length) → BytesAt w vp p → Calls Try.prog 20 #[va, vp] w fun e w' => e = .returned (.int .u64 (sbF p : Int)) ∧ Below w.heap.size w w' := fun w va vp ha hp => fSum10_any va vp _ p w ha hp (by omega) (by omega)
    have hrec : cat [l, hdF p.length, hdF (sbF p), p] = l ++ recF p := by simp [cat, recF]
    have g4 : ∀ w v, BssAt w v [l, hdF p.length, hdF (sbF p), p] → Calls Try.prog 21 #[v] w fun e w' => ∃ v, e = .returned v ∧ OwnB w' w.heap.size v (l ++ recF p) ∧ Below w.heap.size w w' := fun w v h => by
      have := concat_any v _ w h (by simp) (by simp [cat]; omega)
      rwa [hrec] at this
    clear hrec
    generalize recF p = R at *
    generalize hdF (sbF p) = S at *
    generalize hdF p.length = D at *
    generalize sbF p = s at *
    have s1 : (s : Int) ≤ 4294967295 := by omega
    have p1 : ¬ 65536 < (p.length : Int) := by omega
    have q1 : (p.length : Int) ≤ 65536 := by omega
    have S1 := Lib.hid s1
    have G1 := Lib.hid g1
    have G2 := Lib.hid g2
    have G3 := Lib.hid g3
    have G4 := Lib.hid g4
    clear g1 g2 g3 g4 hs hbig hpl p1 hh hh2 hl s1
    go_enter Try.func8, Try.ntmps8
    go_wp2_with (go_at_call 19; (with_reducible refine (G1.out _).mono ?_); rintro e w1 ⟨v1, rfl, hp1, hb1⟩; refine (fun (_ : True) => ?_) trivial; revert hp1)
    intro hp1
    have HD := Lib.hid hp1
    obtain ⟨a1, c1, rfl⟩ := RowsAt.form hp1
    have hP1 := HP.out.kept hb1
    have HP1 := Lib.hid hP1
    clear hp1 hP1
    have s1 := S1.out
    go_wp2_with (first
      | (go_at_call 20; (with_reducible refine (G3.out _ _ _ HD.out HP1.out).mono ?_); rintro e w2 ⟨rfl, hb2⟩)
      | (go_at_call 19; (with_reducible refine (G2.out _).mono ?_); rintro e w3 ⟨v3, rfl, hp3, hb3⟩; refine (fun (_ : True) => ?_) trivial; revert hp3))
    intro hp3
    obtain ⟨a3, c3, rfl⟩ := RowsAt.form hp3
    have hB1 := hb2.trans (hb3.mono hb2.size)
    have hB0 := hb1.trans (hB1.mono hb1.size)
    have HB0 := Lib.hid hB0
    have HF := fun T => Lib.hid (bss_four (HA.out.kept hB0) (HD.out.kept hB1) hp3 (HP.out.kept hB0) T)
    have HBB := fun T => Lib.hid ((Below.refl w3.heap.size w3).alloc (Nat.le_refl _) (.cells #[.slice a l.length c, .slice a1 D.length c1, .slice a3 S.length c3, .slice a' p.length c'] T))
    clear hp3 hb2 hb3 hB1 hB0 hb1 HP1 HD
    go_wp2_with (go_at_call 21; (with_reducible refine (G4.out _ _ (HF _).out).mono ?_); rintro e w5 ⟨v5, rfl, hp5, hb5⟩; have HP5 := Lib.hid hp5; clear hp5)
    have h1 := HB0.out.trans ((((HBB _).out).trans (hb5.mono (by simp))).mono HB0.out.size)
    exact bodyPost_ret (v := .tuple #[v5, .int .i64 0]) (by simp [results, Try.results8, go_sem]) rfl ⟨_, rfl, HP5.out.base (by have := HB0.out.size; simp; omega), h1⟩
theorem fWrite10_any (va vp : Value) (l p : List UInt8) (w : World) (ha : BytesAt w va l) (hp : BytesAt w vp p) (hl : l.length ≤ 100000) (hpl : p.length ≤ 9223372036854775807) :
    Calls Try.prog 8 #[va, vp] w fun e w' => ∃ v, e = .returned (.tuple #[v, .int .i64 ((wrF l p).2 : Int)]) ∧ BytesAt w' v (wrF l p).1 ∧ Below w.heap.size w w' := by
  refine (fWriteO10_any va vp l p w ha hp hl hpl).mono ?_
  rintro e w' ⟨v, h1, h2, h3⟩
  exact ⟨v, h1, h2.bytes, h3⟩
end Go.Proofs.Ytmmaodcihpgdfaa
