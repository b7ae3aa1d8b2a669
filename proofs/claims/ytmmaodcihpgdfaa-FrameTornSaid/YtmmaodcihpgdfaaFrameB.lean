/- Stage 10's program: Read, All. -/
import Derived.Test.YtmmaodcihpgdfaaFrameA
namespace Go.Proofs.Ytmmaodcihpgdfaa
open Go.RowKit

/-- the front of a list, with no room behind -/
theorem RowsAt.front3 {α : Type} {w : World} {K : Nat} {cs : α → List Value} {a : Option Addr} {n cap : Nat} {l : List α} (h : RowsAt w K cs (.slice a n cap) l) (k : Nat) (hk : k ≤ l.length) : RowsAt w K cs (.slice a k k) (l.take k) := by
  have e : (l.take k).length = k := by rw [List.length_take, Nat.min_eq_left hk]
  obtain ⟨a', c', h1, hc, hx⟩ := h.front k hk
  have h2 : a = a' := by injection h1
  subst h2
  exact ⟨_, k, by rw [e], by omega, hx⟩

set_option maxHeartbeats 4000000 in
set_option maxRecDepth 100000 in
theorem fReadS_any (va : Value) (l : List UInt8) (w0 w : World) (ha : BytesAt w0 va l) (hl : l.length ≤ 900000) (hb0 : Below w0.heap.size w0 w) :
    Calls Try.prog 13 #[va] w fun e w' => ∃ v u, e = .returned (.tuple #[v, u, .int .i64 ((readF l).2.2 : Int)]) ∧ BytesAt w0 v (readF l).1 ∧ BytesAt w0 u (readF l).2.1 ∧ Below w.heap.size w w' := by
  have HA := Lib.hid ha
  obtain ⟨a, c, rfl⟩ := RowsAt.form ha
  have hlc : l.length ≤ c := by obtain ⟨_, _, e, h, _⟩ := ha; cases e; exact h
  unfold readF
  by_cases h8 : l.length < 8
  · rw [if_pos h8]
    have l8 : (l.length : Int) < 8 := by omega
    clear ha
    go_enter Try.func13, Try.ntmps13
    go_wp2
    exact bodyPost_ret (v := .tuple #[.slice none 0 0, .slice none 0 0, .int .i64 4]) (by simp [results, Try.results13, go_sem]) rfl ⟨_, _, rfl, RowsAt.nil _ _ _, RowsAt.nil _ _ _, Below.refl _ _⟩
  rw [if_neg h8]
  obtain ⟨g, o, c', e, _, _, p0⟩ := BytesAt.at ha 0 (by omega)
  cases e
  clear p0 ha
  have hF4 := HA.out.front 4 (by omega)
  have hR4 := HA.out.rest 4 (by omega) (some ⟨g, o + 4, none⟩) (fun g o e _ => by cases e; rfl)
  have g1 : ∀ w', Below w0.heap.size w0 w' → Calls Try.prog 24 #[.slice (some ⟨g, o, none⟩) l.length c, .int .i64 4] w' fun e w'' => ∃ v, e = .returned (.tuple #[.int .u64 (lenF l : Int), v, .int .i64 0]) ∧ Below w'.heap.size w' w'' := fun w' hb => by
    have := kTake_any (.slice (some ⟨g, o, none⟩) l.length c) l 4 w' (HA.out.kept hb) (by omega)
    unfold takeB at this
    rw [if_neg (by omega), if_neg (by omega)] at this
    refine this.mono ?_
    rintro e w'' ⟨v, h1, _, h3⟩
    exact ⟨v, h1, h3⟩
  have g2 : ∀ w', Below w0.heap.size w0 w' → Calls Try.prog 24 #[.slice (some ⟨g, o + 4, none⟩) (l.length - 4) (c - 4), .int .i64 4] w' fun e w'' => e = .returned (.tuple #[.int .u64 (sumF l : Int), restV (.slice (some ⟨g, o + 4, none⟩) (l.length - 4) (c - 4)) 4, .int .i64 0]) ∧ Below w'.heap.size w' w'' := fun w' hb => by
    have := kTakeS_any _ _ 4 w' (hR4.kept hb) (by rw [List.length_drop]; omega)
    unfold takeB at this
    rw [if_neg (by omega), if_neg (by rw [List.length_drop]; omega)] at this
    refine this.mono ?_
    rintro e w'' ⟨v, h1, _, h2, h3⟩
    rw [h2 rfl] at h1
    exact ⟨h1, h3⟩
  have hv : ∃ b d, restV (.slice (some ⟨g, o + 4, none⟩) (l.length - 4) (c - 4)) 4 = .slice b (l.length - 8) d ∧ BytesAt w0 (.slice b (l.length - 8) d) (l.drop 8) := by
    have h1 := restV_bytes hR4 4 (by rw [List.length_drop]; omega)
    rw [show List.drop 4 (l.drop 4) = l.drop 8 by rw [List.drop_drop]] at h1
    obtain ⟨b, d, e⟩ := RowsAt.form h1
    rw [List.length_drop] at e
    exact ⟨b, d, e, by rw [← e]; exact h1⟩
  obtain ⟨b, d, e, hb8⟩ := hv
  rw [e] at g2
  clear e
  have g3 : ∀ w va vp, BytesAt w va (l.take 4) → BytesAt w vp (payF l) → Calls Try.prog 20 #[va, vp] w fun e w' => e = .returned (.int .u64 (okF l : Int)) ∧ Below w.heap.size w w' := fun w va vp ha hp => fSum10_any va vp _ _ w ha hp (by rw [List.length_take]; omega) (by unfold payF; rw [List.length_take, List.length_drop]; omega)
  have hlt := lenF_lt l
  have hst := sumF_lt l
  have hok : okF l < 4294967296 := tn9_lt _
  have hdl : (l.drop 8).length = l.length - 8 := List.length_drop ..
  have hdd : (l.drop 8).length ≤ d := by obtain ⟨_, d', e, hc, _⟩ := hb8; injection e with _ _ e; subst e; exact hc
  have hpy : lenF l ≤ l.length - 8 → BytesAt w0 (.slice b (lenF l) (lenF l)) (payF l) := fun h => hb8.front3 _ (by omega)
  have hbh := fun h : lenF l ≤ l.length - 8 => fun a' => hb8.rest (lenF l) (by omega) a'
  generalize okF l = k at *
  generalize sumF l = s at *
  generalize payF l = P at *
  generalize hnl : lenF l = n at *
  have n1 : (n : Int) ≤ 4294967295 := by omega
  have k1 : (k : Int) ≤ 4294967295 := by omega
  have s1 : (s : Int) ≤ 4294967295 := by omega
  have l8 : 8 ≤ (l.length : Int) := by omega
  have lc : (l.length : Int) ≤ (c : Int) := by omega
  have ld : (l.length : Int) - 8 ≤ (d : Int) := by omega
  have l9 : ((l.length - 8 : Nat) : Int) = (l.length : Int) - 8 := by omega
  have G1 := Lib.hid g1
  have G2 := Lib.hid g2
  have G3 := Lib.hid g3
  have HPY := Lib.hid hpy
  have HBH := Lib.hid hbh
  have HF4 := Lib.hid hF4
  clear g1 g2 g3 hlt hst hok hpy hbh hdl hdd hb8 hF4 hR4 hlc h8 hnl
  by_cases h15 : 65536 < n
  · rw [if_pos h15]
    have n2 : 65536 < (n : Int) := by omega
    go_enter Try.func13, Try.ntmps13
    go_wp2_with (first
      | (go_at_call 24; (with_reducible refine (G1.out _ hb0).mono ?_); rintro e w1 ⟨v1, rfl, hb1⟩; have HB := Lib.hid (hb0.trans (hb1.mono hb0.size)); have HW := Lib.hid hb1; clear hb1)
      | (go_at_call 24; (with_reducible refine (G2.out _ HB.out).mono ?_); rintro e w2 ⟨rfl, hb2⟩; replace HB := Lib.hid (HB.out.trans (hb2.mono HB.out.size)); replace HW := Lib.hid (HW.out.trans (hb2.mono HW.out.size)); clear hb2))
    exact bodyPost_ret (v := .tuple #[.slice none 0 0, .slice none 0 0, .int .i64 15]) (by simp [results, Try.results13, go_sem]) rfl ⟨_, _, rfl, RowsAt.nil _ _ _, RowsAt.nil _ _ _, HW.out⟩
  rw [if_neg h15]
  have n2 : ¬ 65536 < (n : Int) := by omega
  by_cases hs : l.length - 8 < n
  · rw [if_pos hs]
    have n3 : (l.length : Int) - 8 < (n : Int) := by omega
    go_enter Try.func13, Try.ntmps13
    go_wp2_with (first
      | (go_at_call 24; (with_reducible refine (G1.out _ hb0).mono ?_); rintro e w1 ⟨v1, rfl, hb1⟩; have HB := Lib.hid (hb0.trans (hb1.mono hb0.size)); have HW := Lib.hid hb1; clear hb1)
      | (go_at_call 24; (with_reducible refine (G2.out _ HB.out).mono ?_); rintro e w2 ⟨rfl, hb2⟩; replace HB := Lib.hid (HB.out.trans (hb2.mono HB.out.size)); replace HW := Lib.hid (HW.out.trans (hb2.mono HW.out.size)); clear hb2))
    exact bodyPost_ret (v := .tuple #[.slice none 0 0, .slice none 0 0, .int .i64 4]) (by simp [results, Try.results13, go_sem]) rfl ⟨_, _, rfl, RowsAt.nil _ _ _, RowsAt.nil _ _ _, HW.out⟩
  rw [if_neg hs]
  have n3 : ¬ (l.length : Int) - 8 < (n : Int) := by omega
  have n4 : (n : Int) ≤ (d : Int) := by omega
  have n5 : (n : Int) + 8 ≤ (l.length : Int) := by omega
  have HP := Lib.hid (HPY.out (by omega))
  have HPL := Lib.hid (show n ≤ l.length - 8 by omega)
  have hlen : ((l.length - 8 - n : Nat) : Int) = (l.length : Int) - 8 - n := by omega
  have hdn : n ≤ d := by omega
  by_cases hks : k = s
  · subst hks
    rw [if_pos rfl]
    by_cases hd : d = n
    · have hr := HBH.out HPL.out b (fun g o _ h => by rw [List.length_drop] at h; omega)
      have e0 : l.length - 8 - n = 0 := by omega
      rw [hd, e0, Nat.sub_self] at hr
      rw [List.drop_drop] at hr
      have HR := Lib.hid hr
      subst hd
      clear hr
      go_enter Try.func13, Try.ntmps13
      go_wp2_with (first
        | (go_at_call 24; (with_reducible refine (G1.out _ hb0).mono ?_); rintro e w1 ⟨v1, rfl, hb1⟩; have HB := Lib.hid (hb0.trans (hb1.mono hb0.size)); have HW := Lib.hid hb1; clear hb1)
        | (go_at_call 24; (with_reducible refine (G2.out _ HB.out).mono ?_); rintro e w2 ⟨rfl, hb2⟩; replace HB := Lib.hid (HB.out.trans (hb2.mono HB.out.size)); replace HW := Lib.hid (HW.out.trans (hb2.mono HW.out.size)); clear hb2)
        | (go_at_call 20; (with_reducible refine (G3.out _ _ _ (HF4.out.kept HB.out) (HP.out.kept HB.out)).mono ?_); rintro e w3 ⟨rfl, hb3⟩; replace HB := Lib.hid (HB.out.trans (hb3.mono HB.out.size)); replace HW := Lib.hid (HW.out.trans (hb3.mono HW.out.size)); clear hb3))
      refine wp_region_calm0 (by kernel_rfl) (by kernel_rfl) fun M => ?_
      repeat (go_big_quiet_step (fail))
      refine wpQuiet_nil ?_
      intro w4 hb4
      have hb := HW.out.trans (hb4.mono HW.out.size)
      go_wp2
      exact bodyPost_ret (v := .tuple #[.slice b d d, .slice b 0 0, .int .i64 0]) (by simp [results, Try.results13, go_sem]) rfl ⟨_, _, rfl, HP.out, HR.out, hb⟩
    · have hr := HBH.out HPL.out (b.map (fun x => x.add n)) (fun g o e _ => by subst e; simp [Addr.add])
      rw [List.drop_drop] at hr
      have HR := Lib.hid hr
      clear hr
      go_enter Try.func13, Try.ntmps13
      go_wp2_with (first
        | (go_at_call 24; (with_reducible refine (G1.out _ hb0).mono ?_); rintro e w1 ⟨v1, rfl, hb1⟩; have HB := Lib.hid (hb0.trans (hb1.mono hb0.size)); have HW := Lib.hid hb1; clear hb1)
        | (go_at_call 24; (with_reducible refine (G2.out _ HB.out).mono ?_); rintro e w2 ⟨rfl, hb2⟩; replace HB := Lib.hid (HB.out.trans (hb2.mono HB.out.size)); replace HW := Lib.hid (HW.out.trans (hb2.mono HW.out.size)); clear hb2)
        | (go_at_call 20; (with_reducible refine (G3.out _ _ _ (HF4.out.kept HB.out) (HP.out.kept HB.out)).mono ?_); rintro e w3 ⟨rfl, hb3⟩; replace HB := Lib.hid (HB.out.trans (hb3.mono HB.out.size)); replace HW := Lib.hid (HW.out.trans (hb3.mono HW.out.size)); clear hb3))
      refine wp_region_calm0 (by kernel_rfl) (by kernel_rfl) fun M => ?_
      repeat (go_big_quiet_step (fail))
      refine wpQuiet_nil ?_
      intro w4 hb4
      have hb := HW.out.trans (hb4.mono HW.out.size)
      go_wp2
      exact bodyPost_ret (v := .tuple #[.slice b n n, .slice (Option.map (fun x => x.add n) b) (l.length - 8 - n) (d - n), .int .i64 0]) (by simp [results, Try.results13, go_sem]) rfl ⟨_, _, rfl, HP.out, HR.out, hb⟩
  · rw [if_neg hks]
    have kne : ((k : Int) != (s : Int)) = true := by simpa using (show ¬ (k : Int) = (s : Int) by omega)
    go_enter Try.func13, Try.ntmps13
    go_wp2_with (first
      | (go_at_call 24; (with_reducible refine (G1.out _ hb0).mono ?_); rintro e w1 ⟨v1, rfl, hb1⟩; have HB := Lib.hid (hb0.trans (hb1.mono hb0.size)); have HW := Lib.hid hb1; clear hb1)
      | (go_at_call 24; (with_reducible refine (G2.out _ HB.out).mono ?_); rintro e w2 ⟨rfl, hb2⟩; replace HB := Lib.hid (HB.out.trans (hb2.mono HB.out.size)); replace HW := Lib.hid (HW.out.trans (hb2.mono HW.out.size)); clear hb2)
      | (go_at_call 20; (with_reducible refine (G3.out _ _ _ (HF4.out.kept HB.out) (HP.out.kept HB.out)).mono ?_); rintro e w3 ⟨rfl, hb3⟩; replace HB := Lib.hid (HB.out.trans (hb3.mono HB.out.size)); replace HW := Lib.hid (HW.out.trans (hb3.mono HW.out.size)); clear hb3))
    exact bodyPost_ret (v := .tuple #[.slice none 0 0, .slice none 0 0, .int .i64 5]) (by simp [results, Try.results13, go_sem]) rfl ⟨_, _, rfl, RowsAt.nil _ _ _, RowsAt.nil _ _ _, HW.out⟩
theorem fRead10_any (va : Value) (l : List UInt8) (w : World) (ha : BytesAt w va l) (hl : l.length ≤ 900000) :
    Calls Try.prog 13 #[va] w fun e w' => ∃ v u, e = .returned (.tuple #[v, u, .int .i64 ((readF l).2.2 : Int)]) ∧ BytesAt w' v (readF l).1 ∧ BytesAt w' u (readF l).2.1 ∧ Below w.heap.size w w' := by
  refine (fReadS_any va l w w ha hl (Below.refl _ _)).mono ?_
  rintro e w' ⟨v, u, h1, h2, h3, h4⟩
  exact ⟨v, u, h1, h2.kept h4, h3.kept h4, h4⟩

theorem OwnBs.old {w0 w : World} {t : Sl} {l : List UInt8} {v : Value} {L : List (List UInt8)} (ho : OwnBs w w0.heap.size v L) (h : BytesAt w0 (sl t) l) : 0 < l.length → ∀ b, t.1 = some b → some b.block ≠ v.ownBlock :=
  fun h0 b e => ho.fresh (.inl (h.block h0 b e))
theorem allF_two (l : List UInt8) (h : (readF l).2.2 = 0) : (allF l).2 = 8 + (readF l).1.length + (allF (readF l).2.1).2 := by rw [allF_next l h]

set_option maxHeartbeats 4000000 in
set_option maxRecDepth 100000 in
theorem fAll10_any (va : Value) (l : List UInt8) (w : World) (ha : BytesAt w va l) (hl : l.length ≤ 900000) :
    Calls Try.prog 15 #[va] w fun e w' => ∃ v, e = .returned (.tuple #[v, .int .i64 ((allF l).2 : Int)]) ∧ BssAt w' v (allF l).1 ∧ Below w.heap.size w w' := by
  obtain ⟨i0, hi, hz0, hz1, hz2⟩ := info_parts info_bytes
  have HA := Lib.hid ha
  obtain ⟨a, c, rfl⟩ := RowsAt.form ha
  have hread := Lib.hid (fun w1 va l ha hl hb => fReadS_any va l w w1 ha hl hb)
  obtain ⟨⟨LS, NN⟩, hA⟩ : ∃ t, allF l = t := ⟨_, rfl⟩
  rw [hA]
  have HAA := Lib.hid hA
  clear ha hA
  go_enter Try.func15, Try.ntmps15
  go_wp2
  refine wp_scope_goto 0 (fun m a' wr => ∃ (out : List (List UInt8)) (rest : List UInt8) (n : Nat) (ov rv : Value), m = rest.length ∧ n + rest.length = l.length ∧ (LS, NN) = (out ++ (allF rest).1, n + (allF rest).2) ∧ out.length ≤ n ∧ OwnBs wr w.heap.size ov out ∧ BytesAt w rv rest ∧ Below w.heap.size w wr ∧ ∃ u1 u6 u7 u8 u9 u10 u11 u12 u13 u14 u15 u16 u17 u18 u19 u20 u21 u22 u23 u24 u25 u26 u27 u28, a' = { tmps := #[.slice a l.length c, u1, .slice none 0 0, .int .i64 0, ov, rv, u6, u7, u8, u9, u10, u11, u12, u13, u14, u15, u16, u17, u18, u19, u20, u21, u22, u23, u24, u25, u26, u27, u28], defers := [] }) rfl rfl ?_ ?_
  · rintro m a' wr ⟨out, rest, n, ov, rv, rfl, hn, hall, hon, hown, hrb, hB, u1, u6, u7, u8, u9, u10, u11, u12, u13, u14, u15, u16, u17, u18, u19, u20, u21, u22, u23, u24, u25, u26, u27, u28, rfl⟩ K hK
    have g1 := hread.out wr rv rest hrb (by omega) hB
    have hok := readF_ok rest
    have hend := allF_end rest
    have hnext := allF_next rest
    have hno := readF_no rest
    generalize hR : readF rest = R at *
    obtain ⟨x, more, e⟩ := R
    simp only at g1 hok hend hnext hno
    have G1 := Lib.hid g1
    have HALL := Lib.hid hall
    have HO := Lib.hid hown
    have HB := Lib.hid hB
    have HK := Lib.hid hK
    obtain ⟨a0, c0, rfl⟩ := RowsAt.form hrb
    clear g1 hall hown hB hrb hR hK
    rcases hno with rfl | hno
    · have hok := hok rfl
      have hnext := hnext rfl
      have HOK := Lib.hid hok
      have HNX := Lib.hid hnext
      clear hok hnext hend
      go_wp2_with (go_at_call 13; (with_reducible refine G1.out.mono ?_); rintro e w1 ⟨v1, u1, rfl, hx1, hm1, hb1⟩; refine (fun (_ : True) => ?_) trivial; revert hx1)
      intro hx1
      obtain ⟨a1, c1, rfl⟩ := RowsAt.form hx1
      have ho := HO.out.kept hb1
      have hB1 := HB.out.trans (hb1.mono HB.out.size)
      have hB2 := hB1.alloc hB1.size (.cells #[.slice a1 x.length c1] 22)
      have ho2 := ho.alloc (.cells #[.slice a1 x.length c1] 22)
      have hxb : BytesAt (w1.alloc (.cells #[.slice a1 x.length c1] 22)) (sl (a1, x.length, c1)) x := hx1.kept hB2
      have hfr := HO.out.old (t := (a1, x.length, c1)) hx1
      have ht : (w1.alloc (.cells #[.slice a1 x.length c1] 22)).cell? ⟨w1.heap.size, 0, none⟩ = some (.slice a1 x.length c1) := by go_simp
      have hol : out.length ≤ 1000000 := by omega
      have HX := Lib.hid hxb
      have HM := Lib.hid hm1
      have HF := Lib.hid hfr
      have HT := Lib.hid ht
      clear hx1 hm1 hb1 ho hxb hfr ht hread
      go_wp2_with (at_builtin; refine wpList_append_bs rfl _ _ 32 rfl Try.underlying32 w.heap.size _ _ rfl ho2 ⟨w1.heap.size, 0, none⟩ 1 (a1, x.length, c1) x rfl HT.out HX.out HF.out hol hB2.size ?_)
      intro v2 w2 o2 g2
      have hB3 := OwnBs.below ho2 hB2 hB2.size g2
      have HO2 := Lib.hid o2
      clear ho2 hB2 o2 g2 hB1
      go_wp2
      go_step3
      refine ⟨rfl, HK.out more.length _ _ (by have := HOK.out; omega) ⟨out ++ [x], more, n + (8 + x.length), _, _, rfl, by have := HOK.out; omega, ?_, by simp; omega, HO2.out, HM.out, hB3, _, _, _, _, _, _, _, _, _, _, _, _, _, _, _, _, _, _, _, _, _, _, _, _,  rfl⟩⟩
      rw [HALL.out, HNX.out]
      simp only [List.append_assoc, List.singleton_append, Nat.add_assoc]
    · have hend := hend (fun h => by rw [h] at hno; cases hno)
      have hall := HALL.out
      rw [hend] at hall
      simp only [List.append_nil, Nat.add_zero] at hall
      obtain ⟨e1, e2⟩ := Prod.mk.inj hall
      subst e1
      subst e2
      have r1 : (rest.length : Int) ≤ (l.length : Int) := by omega
      have r2 : (l.length : Int) ≤ 900000 := by omega
      have r3 : (l.length : Int) - (rest.length : Int) = (NN : Int) := by omega
      have R3 := Lib.hid r3
      clear hok hnext hend hall r3
      go_wp2_with (go_at_call 13; (with_reducible refine G1.out.mono ?_); rintro e w1 ⟨v1, u1, rfl, hx1, hm1, hb1⟩)
      simp only [Exit.jump]
      refine bodyPost_ret (v := .tuple #[ov, .int .i64 NN]) (by simp [results, Try.results15, go_sem, R3.out]) rfl ⟨_, rfl, HO.out.bss.kept hb1, HB.out.trans (hb1.mono HB.out.size)⟩
  · intro K hpass
    go_wp2
    go_step3
    rename_i hback
    exact hback _ _ (hpass l.length _ _ ⟨[], l, 0, _, _, rfl, by omega, by rw [HAA.out]; simp, by simp, OwnBs.nil _ _, HA.out, Below.refl _ _, _, _, _, _, _, _, _, _, _, _, _, _, _, _, _, _, _, _, _, _, _, _, _, _,  rfl⟩)
end Go.Proofs.Ytmmaodcihpgdfaa
