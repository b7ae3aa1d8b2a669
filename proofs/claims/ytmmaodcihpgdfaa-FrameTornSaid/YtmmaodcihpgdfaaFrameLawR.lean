/- The law FrameTorn. -/
import Derived.Test.YtmmaodcihpgdfaaFrameTornM
namespace Go.Proofs.Ytmmaodcihpgdfaa
open Go.RowKit

theorem BssAt.front {w : World} {a : Option Addr} {n c : Nat} {L : List (List UInt8)} (h : BssAt w (.slice a n c) L) (k : Nat) (hk : k ≤ L.length) : BssAt w (.slice a k c) (L.take k) := by
  obtain ⟨ts, h1, h2⟩ := h
  refine ⟨ts.take k, h1.front k (by rw [h2.1]; exact hk), by rw [List.length_take, List.length_take, h2.1], fun j t l e1 e2 => ?_⟩
  rw [List.getElem?_take] at e1 e2
  split at e1
  · rw [if_pos (by assumption)] at e2
    exact h2.2 j t l e1 e2
  · cases e1
/-- numbers that are gathered -/
def csN (n : Nat) : List Value := [.int .i64 (n : Int)]
theorem csN_len (n : Nat) : (csN n).length = 1 := rfl
theorem csN_one (n : Nat) : ∀ u ∈ csN n, u.oneCell' = true := by
  intro u hu
  simp [csN] at hu
  subst hu
  rfl
theorem info_int10 : (Try.prog.info? 3).map (fun i => (i.zero, i.size, i.bytes)) = some (some (.int .i64 0), 1, 8) := by kernel_rfl
abbrev OwnN (w : World) (B : Nat) (v : Value) (l : List Nat) : Prop := OwnR w B 3 1 csN v l
theorem RowsAt.oneN (w : World) (n : Nat) : RowsAt (w.alloc (.cells #[.int .i64 (n : Int)] 3)) 1 csN (.slice (some ⟨w.heap.size, 0, none⟩) 1 1) [n] := by
  refine ⟨_, 1, rfl, Nat.le_refl _, fun _ => ⟨w.heap.size, 0, rfl, by simp, fun j x hj i u hu => ?_⟩⟩
  have h0 : j = 0 ∧ x = n := by
    cases j with
    | zero => simp at hj; exact ⟨rfl, hj.symm⟩
    | succ j => simp at hj
  obtain ⟨rfl, rfl⟩ := h0
  have h1 : i = 0 ∧ u = .int .i64 (x : Int) := by
    cases i with
    | zero => simp [csN] at hu; exact ⟨rfl, hu.symm⟩
    | succ i => simp [csN] at hu
  obtain ⟨rfl, rfl⟩ := h1
  go_simp
theorem OwnN.fresh {w : World} {B g : Nat} {v : Value} {l : List Nat} (h : OwnN w B v l) (hg : w.heap.size ≤ g) : some g ≠ v.ownBlock := by
  rcases h.2 with ⟨rfl, _⟩ | ⟨k, cap, cur, rfl, hk, hh, _⟩
  · simp [Value.ownBlock]
  · have := lt_of_block hh
    simp [Value.ownBlock]
    omega
def endsF (L : List (List UInt8)) (k : Nat) : List Nat := (List.range k).map fun i => (catF (L.take (i + 1))).length
theorem endsF_len (L : List (List UInt8)) (k : Nat) : (endsF L k).length = k := by simp [endsF]
theorem endsF_next (L : List (List UInt8)) (k : Nat) : endsF L (k + 1) = endsF L k ++ [(catF (L.take (k + 1))).length] := by simp [endsF, List.range_succ]
theorem endsF_at (L : List (List UInt8)) (n k : Nat) (hk : k < (endsF L n).length) : (endsF L n)[k] = (catF (L.take (k + 1))).length := by simp [endsF]

set_option maxHeartbeats 4000000 in
set_option maxRecDepth 100000 in
theorem frameTorn_any (va : Value) (L : List (List UInt8)) (A : Int) (w : World) (ha : BssAt w va L) (hl : L.length ≤ 9223372036854775807) (hA : 0 ≤ A ∧ A < 65536) :
    Calls Try.prog 5 #[va, .int .u16 A] w fun e w' => e = .returned (.bool true) ∧ Below w.heap.size w w' := by
  have HAL := Lib.hid fun w => fAlive10_any w
  have HA := Lib.hid ha
  have hfew := Lib.hid (refFew10_any va L 8 60 w ha hl)
  obtain ⟨a, c, rfl⟩ := BssAt.form ha
  clear ha hl
  by_cases hw : (L.length : Int) ≤ 8 ∧ ∀ l ∈ L, (l.length : Int) ≤ 60
  · rw [decide_eq_true hw] at hfew
    have hL8 : L.length ≤ 8 := by omega
    have h60 : ∀ p ∈ L, p.length ≤ 60 := fun p hp => by have := hw.2 p hp; omega
    have H60 := Lib.hid h60
    obtain ⟨i0, hi, hz0, hz1, hz2⟩ := info_parts info_int10
    clear hw h60
    go_enter Try.func5, Try.ntmps5
    go_wp2_with (go_at_call 18; (with_reducible refine hfew.out.mono ?_); rintro e w1 ⟨rfl, rfl⟩)
    go_loopw [5, 6, 8, 9, 10, 27] (fun bv ev _ _ _ iv wr => ∃ k : Nat, k ≤ L.length ∧ iv = .int .i64 k ∧ BytesAt wr bv (catF (L.take k)) ∧ OwnN wr w.heap.size ev (endsF L k) ∧ Below w.heap.size w wr) (fun _ _ _ _ _ iv _ => L.length - (intOf iv).toNat)
    case atStart => exact ⟨0, Nat.zero_le _, rfl, RowsAt.nil _ _ _, OwnR.nil _ _ _ _ _, Below.refl _ _⟩
    case round =>
      obtain ⟨k, hk, rfl, hbv, hev, hB⟩ := hrel
      by_cases hlt : k < L.length
      · obtain ⟨g, o, cc, x, n, e, _, p0, hx⟩ := BssAt.at (HA.out.kept hB) k hlt
        cases e
        have hp60 := H60.out L[k] (List.getElem_mem hlt)
        have hcb := catF_bd (L.take k) fun p hp => H60.out p (List.mem_of_mem_take hp)
        rw [List.length_take] at hcb
        have g1 := fWriteO10_any u5 (.slice x L[k].length n) (catF (L.take k)) L[k] wr hbv hx (by omega) (by omega)
        have hnx := catF_next L k hlt
        rw [show wrF (catF (L.take k)) L[k] = (catF (L.take (k + 1)), 0) by unfold wrF; rw [if_neg (by omega), hnx]] at g1
        have hen := endsF_next L k
        have hel := endsF_len L k
        generalize hCe : catF (L.take (k + 1)) = C at *
        have HCE := Lib.hid hCe
        clear hCe
        generalize L[k].length = m at *
        have k0 : (0 : Int) ≤ (k : Int) := by omega
        have k1 : (k : Int) < (L.length : Int) := by omega
        have G1 := Lib.hid g1
        have HE := Lib.hid hev
        have HEN := Lib.hid hen
        have HEL := Lib.hid hel
        have HB := Lib.hid hB
        clear g1 hev hen hel hB hbv hx hnx hcb
        go_wp2_with (go_at_call 8; (with_reducible refine G1.out.mono ?_); rintro e w1 ⟨v1, rfl, hp1, hb1⟩; refine (fun (_ : True) => ?_) trivial; revert hp1)
        intro hp1
        obtain ⟨a1, c1, rfl⟩ := RowsAt.form (OwnB.bytes hp1)
        have ho2 := OwnR.alloc (OwnR.kept HE.out hb1) (.cells #[.int .i64 (C.length : Int)] 3)
        have hB1 := HB.out.trans (hb1.mono HB.out.size)
        have hB2 := hB1.alloc hB1.size (.cells #[.int .i64 (C.length : Int)] 3)
        have hP := RowsAt.oneN w1 C.length
        have hal := (Below.refl w1.heap.size w1).alloc (Nat.le_refl _) (.cells #[.int .i64 (C.length : Int)] 3)
        have hxb : BytesAt (w1.alloc (.cells #[.int .i64 (C.length : Int)] 3)) (sl (a1, C.length, c1)) C := (OwnB.bytes hp1).kept hal
        have HXB := Lib.hid hxb
        have HF := Lib.hid (show 0 < C.length → ∀ b, a1 = some b → some b.block ≠ u6.ownBlock from fun _ b e => OwnN.fresh HE.out (by subst e; exact OwnB.blk hp1))
        clear hp1 hb1 hxb hal hB1 p0
        go_wp2_with (at_builtin; refine wpList_append_rows csN_len (by decide) csN_one rfl _ _ 39 rfl w.heap.size 3 i0 (.int .i64 0) 8 Try.underlying39 hi hz0 hz1 hz2 rfl _ _ rfl ho2 _ _ rfl hP (by rw [HEL.out]; unfold maxLen; show k + 1 ≤ _; omega) (by rw [HEL.out]; show (k + 1) * 8 ≤ _; omega) hB2.size ?_)
        intro v2 w2 o2 g2
        have hB3 := OwnR.below ho2 hB2 hB2.size g2
        have HV := Lib.hid (BytesAt.grown (t := (a1, C.length, c1)) HXB.out g2 HF.out)
        have HO := Lib.hid (show OwnN w2 w.heap.size v2 (endsF L (k + 1)) by rw [HEN.out]; exact o2)
        clear ho2 hB2 hP o2 g2
        go_wp2
        go_roundw
        case rel => exact ⟨k + 1, by omega, by go_num, by rw [HCE.out]; exact HV.out, HO.out, hB3⟩
        case measure => simp [intOf] <;> omega
      · have hke : k = L.length := by omega
        subst hke
        rw [List.take_length] at hbv
        have hT := catF_bd L H60.out
        obtain ⟨a5, c5, rfl⟩ := RowsAt.form hbv
        obtain ⟨a6, c6, rfl⟩ := RowsAt.form (OwnR.rows csN_len hev)
        have HBV := Lib.hid hbv
        have HEV := Lib.hid (OwnR.rows csN_len hev)
        rw [endsF_len] at HEV ⊢
        obtain ⟨t, ht⟩ : ∃ t : Nat, A % ((catF L).length + 1 : Int) = t := ⟨(A % ((catF L).length + 1 : Int)).toNat, by have := Int.emod_nonneg A (show ((catF L).length + 1 : Int) ≠ 0 by omega); omega⟩
        have htT : t ≤ (catF L).length := by have := Int.emod_lt_of_pos A (show 0 < ((catF L).length + 1 : Int) by omega); omega
        have hta := torn_all L t H60.out
        have HTA := Lib.hid hta
        have HB := Lib.hid hB
        have n1 : ((catF L).length : Int) ≤ 544 := by omega
        have n2 : (0 : Int) < ((catF L).length : Int) + 1 := by omega
        clear hbv hev hta hB hT
        go_wp2
        go_loopw [12, 13, 14, 15, 54] (fun wv bv _ _ iv wx => ∃ k : Nat, k ≤ L.length ∧ iv = .int .i64 k ∧ wv = .int .i64 (wholeF L t k : Nat) ∧ bv = .int .i64 ((catF (L.take (wholeF L t k))).length : Nat) ∧ wx = wr) (fun _ _ _ _ iv _ => L.length - (intOf iv).toNat)
        case atStart => exact ⟨0, Nat.zero_le _, rfl, rfl, rfl, rfl⟩
        case round =>
          obtain ⟨k, hk, rfl, rfl, rfl, rfl⟩ := hrel
          by_cases hlt : k < L.length
          · obtain ⟨g, o, cc, e, _, _, p0⟩ := HEV.out.spot k (by rw [endsF_len]; exact hlt)
            rw [endsF_len] at e
            cases e
            have p1 := p0 0 (.int .i64 ((endsF L L.length)[k]'(by rw [endsF_len]; exact hlt) : Int)) rfl
            rw [endsF_at L L.length k, Nat.mul_one, Nat.add_zero] at p1
            have hwk := wholeF_le L t k
            have hws : wholeF L t (k + 1) = if (catF (L.take (k + 1))).length ≤ t then k + 1 else wholeF L t k := rfl
            have k0 : (0 : Int) ≤ (k : Int) := by omega
            have k1 : (k : Int) < (L.length : Int) := by omega
            by_cases hle : (catF (L.take (k + 1))).length ≤ t
            · rw [if_pos hle] at hws
              have HWS := Lib.hid hws
              generalize hCe : (catF (L.take (k + 1))).length = C at *
              have HCE := Lib.hid hCe
              have k2 : (C : Int) ≤ (t : Int) := by omega
              clear hCe p0 hws hwk hle
              go_wp2
              go_roundw
              case rel => exact ⟨k + 1, by omega, by go_num, by rw [HWS.out]; go_num, by rw [HWS.out, HCE.out], by trivial⟩
              case measure => simp [intOf] <;> omega
            · rw [if_neg hle] at hws
              have HWS := Lib.hid hws
              generalize (catF (L.take (k + 1))).length = C at *
              have k2 : ¬ (C : Int) ≤ (t : Int) := by omega
              clear p0 hws hwk hle
              go_wp2
              go_roundw
              case rel => exact ⟨k + 1, by omega, by go_num, by rw [HWS.out], by rw [HWS.out], by trivial⟩
              case measure => simp [intOf] <;> omega
          · have hke : k = L.length := by omega
            subst hke
            have hW := wholeF_le L t L.length
            have hWn := wholeF_fits L t L.length
            generalize wholeF L t L.length = W at *
            have hag := torn_again L W
            have hwl : (L.take W).length = W := by rw [List.length_take]; omega
            have hcw := catF_bd (L.take W) fun p hp => H60.out p (List.mem_of_mem_take hp)
            obtain ⟨n, hn⟩ : ∃ n, (catF (L.take W)).length = n := ⟨_, rfl⟩
            have hta := HTA.out
            rw [hn] at hWn hag hta ⊢
            have g1 : ∀ w, BytesAt w (.slice a5 t c5) ((catF L).take t) → Calls Try.prog 15 #[.slice a5 t c5] w fun e w' => ∃ a7 c7, e = .returned (.tuple #[.slice a7 W c7, .int .i64 (n : Int)]) ∧ BssAt w' (.slice a7 W c7) (L.take W) ∧ Below w.heap.size w w' := fun w ha => by
              have := fAll10_any (.slice a5 t c5) ((catF L).take t) w ha (by rw [List.length_take]; omega)
              rw [hta] at this
              refine this.mono ?_
              rintro e w' ⟨v, rfl, hp, hb⟩
              obtain ⟨a7, c7, rfl⟩ := BssAt.form hp
              rw [hwl] at hp ⊢
              exact ⟨a7, c7, rfl, hp, hb⟩
            have gz := fun w va vb ha hb => refRows10_any va vb (L.take W) (L.take W) w ha hb (by omega) (by omega)
            rw [decide_eq_true rfl] at gz
            have hc5 : (catF L).length ≤ c5 := by obtain ⟨_, _, e, h, _⟩ := HBV.out; cases e; exact h
            have hcL : L.length ≤ c := by obtain ⟨ts, ⟨_, _, e, h, _⟩, he⟩ := HA.out; rw [Value.slice.injEq] at e; have h1 := he.1; omega
            have HFR := Lib.hid (RowsAt.front HBV.out t htT)
            have HFN := Lib.hid (RowsAt.front HBV.out n (by omega))
            rw [hag] at HFN
            have HLF := Lib.hid (BssAt.front HA.out W hW)
            have G1 := Lib.hid g1
            have GZ := Lib.hid gz
            have HWL := Lib.hid hwl
            have HWB := Lib.hid (show W ≤ 8 by omega)
            have HW60 := Lib.hid (show ∀ p ∈ L.take W, p.length ≤ 60 from fun p hp => H60.out p (List.mem_of_mem_take hp))
            have m1 : (t : Int) ≤ (c5 : Int) := by omega
            have m2 : (W : Int) ≤ (c : Int) := by omega
            have m3 : (n : Int) ≤ (c5 : Int) := by omega
            clear g1 gz hta hag hwl hcw hn hWn hW hc5 hcL HTA
            generalize L.take W = M at *
            go_wp2_with (first
              | (go_at_call 15; (with_reducible refine (G1.out _ HFR.out).mono ?_); rintro e w5 ⟨a7, c7, rfl, hp5, hb5⟩; have HM := Lib.hid hp5; have HX5 := Lib.hid hb5; clear hp5 hb5)
              | (go_at_call 17; (with_reducible refine (GZ.out _ _ _ HM.out (HLF.out.kept (HB.out.trans (HX5.out.mono HB.out.size)))).mono ?_); rintro e w6 ⟨rfl, hb6⟩; replace HM := Lib.hid (HM.out.kept hb6); replace HX5 := Lib.hid (HX5.out.trans (hb6.mono HX5.out.size)); clear hb6))
            have HB6 := Lib.hid (HB.out.trans (HX5.out.mono HB.out.size))
            have HFN6 := Lib.hid (HFN.out.kept HX5.out)
            clear G1 GZ HFR HFN HLF HX5 HB HBV HEV HA hfew
            go_loopw [18, 20, 86] (fun gv _ iv wx => ∃ k : Nat, k ≤ W ∧ iv = .int .i64 k ∧ BytesAt wx gv (catF (M.take k)) ∧ Below w6.heap.size w6 wx) (fun _ _ iv _ => W - (intOf iv).toNat)
            case atStart => exact ⟨0, Nat.zero_le _, rfl, RowsAt.nil _ _ _, Below.refl _ _⟩
            case round =>
              obtain ⟨k, hk, rfl, hgv, hBx⟩ := hrel
              by_cases hlt : k < W
              · have hlm : k < M.length := by have := HWL.out; omega
                obtain ⟨g, o, cc, x, n', e, _, p0, hx⟩ := BssAt.at (HM.out.kept hBx) k hlm
                rw [HWL.out] at e
                cases e
                have hp60 := HW60.out M[k] (List.getElem_mem hlm)
                have hcb := catF_bd (M.take k) fun p hp => HW60.out p (List.mem_of_mem_take hp)
                rw [List.length_take] at hcb
                have hW8 := HWB.out
                have g1 := fWrite10_any u18 (.slice x M[k].length n') (catF (M.take k)) M[k] wr hgv hx (by omega) (by omega)
                rw [show wrF (catF (M.take k)) M[k] = (catF (M.take (k + 1)), 0) by unfold wrF; rw [if_neg (by omega), catF_next M k hlm]] at g1
                have k0 : (0 : Int) ≤ (k : Int) := by omega
                have k1 : (k : Int) < (W : Int) := by omega
                have k2 : (W : Int) ≤ 8 := by omega
                generalize M[k].length = m at *
                have G1 := Lib.hid g1
                clear g1 hx hgv hcb hp60 hW8
                go_wp2_with (go_at_call 8; (with_reducible refine G1.out.mono ?_); rintro e w7 ⟨v7, rfl, hp7, hb7⟩; have HP7 := Lib.hid hp7; have HB7 := Lib.hid (hBx.trans (hb7.mono hBx.size)); clear hp7 hb7)
                go_roundw
                case rel => exact ⟨k + 1, by omega, by go_num, HP7.out, HB7.out⟩
                case measure => simp [intOf] <;> omega
              · have hke : k = W := by omega
                subst hke
                rw [List.take_of_length_le (by have := HWL.out; omega)] at hgv
                have HG := Lib.hid hgv
                have HFNx := Lib.hid (HFN6.out.kept hBx)
                have HBx := Lib.hid (HB6.out.trans (hBx.mono HB6.out.size))
                have hxx : (catF M == catF M) = true := beq_self_eq_true _
                generalize catF M = R at *
                obtain ⟨a8, c8, rfl⟩ := RowsAt.form hgv
                clear hgv hBx
                go_wp2
                refine wp_region_calm0 (by kernel_rfl) (by kernel_rfl) fun M => ?_
                have q1 := fun n : In M.w => str_of_bytes ((HG.out.kept M.h).kept n.h)
                have q2 := fun n : In M.w => str_of_bytes ((HFNx.out.kept M.h).kept n.h)
                repeat (go_big_quiet_step ((go_at_call 7; with_reducible exact In.call (HAL.out _))))
                refine wpQuiet_nil ?_
                intro w9 hb9
                have HB9 := Lib.hid (HBx.out.trans (hb9.mono HBx.out.size))
                clear q1 q2 M hb9
                go_wp2
                go_ret
                exact ⟨rfl, HB9.out⟩
  · rw [decide_eq_false hw] at hfew
    clear hw
    go_enter Try.func5, Try.ntmps5
    go_wp2_with (first
      | (go_at_call 18; (with_reducible refine hfew.out.mono ?_); rintro e w1 ⟨rfl, rfl⟩)
      | (go_at_call 7; (with_reducible refine (HAL.out _).mono ?_); rintro e w1 ⟨rfl, hb⟩))
    go_ret
    exact ⟨rfl, hb⟩
end Go.Proofs.Ytmmaodcihpgdfaa
