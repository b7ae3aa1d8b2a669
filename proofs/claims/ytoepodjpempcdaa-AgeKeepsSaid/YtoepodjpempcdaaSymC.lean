/- slices.SortStableFunc at structs: putting in, one by one. Written by wip/tools/gen_stab.py. -/
import Derived.Test.YtoepodjpempcdaaSymB
namespace Go.Proofs.Ytoepodjpempcdaa
open Go.RowKit Go.Shelf Go.Lib Go.Sort

theorem of_app_len {α : Type} {S T M : List α} {i a b : Nat} (hp : (S ++ T).Perm M) (hb : b = a + M.length) (h : i = a + S.length ∨ M = []) (hi : b ≤ i) : T = [] ∧ S.Perm M := by
  have hl := hp.length_eq
  rw [List.length_append] at hl
  have : T = [] := by
    rcases h with h | h
    · exact List.eq_nil_of_length_eq_zero (by omega)
    · subst h; exact List.eq_nil_of_length_eq_zero (by simp at hl; simp [hl])
  subst this
  exact ⟨rfl, by simpa using hp⟩
theorem of_app_cons {α : Type} {S T M : List α} {i a b : Nat} (hp : (S ++ T).Perm M) (hb : b = a + M.length) (h : i = a + S.length ∨ M = []) (ha : a < i) (hi : i < b) : i = a + S.length ∧ ∃ y T', T = y :: T' := by
  have hl := hp.length_eq
  rw [List.length_append] at hl
  rcases h with h | h
  · refine ⟨h, ?_⟩
    cases T with
    | nil => simp at hl; omega
    | cons y T' => exact ⟨y, T', rfl⟩
  · subst h; simp at hb; omega

set_option maxHeartbeats 4000000 in
set_option maxRecDepth 1000000 in
theorem sInsertion_any {α : Type} [Inhabited α] (T S : TypeId) (hT : 23 = T) (hS : 28 = S) (K : Nat) (ty : TyK Try.prog T S K) (enc : α → List Value) (cf : α → α → Int) (hO : SWO (ltOf cf)) (g : Nat) (fi ca : Array Value) (eg : ∀ args w, (callFunc g args).run Try.prog w = .ok (.enter g args) w) (blk off cap len a b : Nat) (az bz : Int) (d0 d : Array α) (w0 w : World) (X M Y : List α) (ha' : az = a) (hb' : bz = b) (hlen : d.size = len)
    (hcmp : CmpF Try.prog g fi ca enc K cf blk off len w0) (R : RowK enc K w0 blk off d0) (hs : d0.size = len) (W : SWB enc K w0 blk off d w) (hd : d.toList = X ++ (M ++ Y)) (ha : a = X.length) (hb : b = a + M.length) (hsz : len < 4611686018427387904) :
    Calls Try.prog 44 #[.slice (some ⟨blk, off, none⟩) len cap, .int .i64 az, .int .i64 bz, .func (.func g) fi ca] w fun e w' => e = .returned (.tuple #[]) ∧ ∃ d' Z, d'.toList = X ++ (Z ++ Y) ∧ Z.Perm M ∧ Ord (ltOf cf) Z ∧ d'.size = len ∧ Aside (SWB enc K w0 blk off d' w') := by
  subst ha' hb'
  obtain ⟨tA, tZ, tS⟩ := ty
  have tU := run_underlying tS
  have mixed : Try.prog.follows .mixedOrders = true := by kernel_rfl
  have HC : Aside _ := hcmp
  have hbl : b ≤ len := by rw [← hlen, size_split hd]; simp; omega
  have HB : Aside (a = X.length ∧ b = a + M.length) := ⟨ha, hb⟩
  have hab : a ≤ b := by omega
  have HL : Aside (∃ S1 T, d.toList = X ++ (S1 ++ (T ++ Y)) ∧ Ord (ltOf cf) S1 ∧ (S1 ++ T).Perm M ∧ (a + 1 = a + S1.length ∨ M = [])) := by
    cases M with
    | nil => exact ⟨[], [], by simpa using hd, List.Pairwise.nil, List.Perm.refl _, Or.inr rfl⟩
    | cons y M' => exact ⟨[y], M', by simpa using hd, by simp [Ord], List.Perm.refl _, Or.inl rfl⟩
  have S0 : Aside (SWB enc K w0 blk off d w) := W
  have hda : d.size = len := hlen
  clear W hd ha hb hcmp hlen
  go_enter Try.func44, Try.ntmps44
  simp only [load_T hT, store_T hT, index_T hS]
  clear hT hS
  go_wp2
  go_loopg [8] (b - a) (fun g1 s8 wr => ∃ (i : Nat) (dk : Array α), s8 = .int .i64 i ∧ a < i ∧ i ≤ b + 1 ∧ b + 1 - i ≤ g1 + 1 ∧ dk.size = len ∧ Aside (SWB enc K w0 blk off dk wr) ∧
    Aside (∃ S1 T, dk.toList = X ++ (S1 ++ (T ++ Y)) ∧ Ord (ltOf cf) S1 ∧ (S1 ++ T).Perm M ∧ (i = a + S1.length ∨ M = [])))
  case atStart => exact ⟨a + 1, d, by go_num, by omega, by omega, by omega, hda, S0, HL⟩
  case round =>
    clear S0 HL
    obtain ⟨i, dk, rfl, hai, hib, hg1, hsk, S1, HL⟩ := hrel
    by_cases hlt : i < b
    · have hltz : (i : Int) < (b : Int) := by omega
      obtain ⟨L1, T, l1, l2, l3, l4⟩ := HL.out
      obtain ⟨hiL, y, T', rfl⟩ := of_app_cons l3 HB.out.2 l4 hai hlt
      have HI0 : Aside (dk.toList = X ++ (L1 ++ y :: ([] ++ (T' ++ Y)))) := by rw [l1]; show _ = _; simp
      have HI1 : Aside (i = a + L1.length) := hiL
      have HO1 : Aside (Ord (ltOf cf) L1) := l2
      have OUT : Aside (∀ (dj : Array α) (A1 A2 : List α), L1 = A1 ++ A2 → dj.toList = X ++ (A1 ++ y :: (A2 ++ (T' ++ Y))) → (∀ s ∈ A2, ltOf cf y s = true) → LeA (ltOf cf) A1 [y] → Aside (∃ S1 T, dj.toList = X ++ (S1 ++ (T ++ Y)) ∧ Ord (ltOf cf) S1 ∧ (S1 ++ T).Perm M ∧ (i + 1 = a + S1.length ∨ M = []))) := by
        intro dj A1 A2 e1 e2 e3 e4
        refine ⟨A1 ++ y :: A2, T', by rw [e2]; simp, Ord.mid (by rw [← e1]; exact l2) e4 (LeA.of_lt hO e3), ?_, Or.inl ?_⟩
        · refine List.Perm.trans ?_ l3
          rw [e1]
          simp only [List.append_assoc, List.cons_append]
          exact (List.perm_middle.trans (List.Perm.cons _ (List.Perm.refl _)) |>.trans (by simpa using (List.perm_middle (a := y) (l₁ := A1 ++ A2) (l₂ := T')).symm))
        · rw [e1] at hiL; simp at hiL ⊢; omega
      clear HL l1 l2 l3 l4 hiL
      go_wp2
      go_loopg [9] i (fun g2 s9 wr2 => ∃ (j : Nat) (dj : Array α), s9 = .int .i64 j ∧ a ≤ j ∧ j ≤ i ∧ j ≤ g2 ∧ dj.size = len ∧ Aside (SWB enc K w0 blk off dj wr2) ∧
        Aside (∃ A1 A2, L1 = A1 ++ A2 ∧ j = a + A1.length ∧ dj.toList = X ++ (A1 ++ y :: (A2 ++ (T' ++ Y))) ∧ ∀ s ∈ A2, ltOf cf y s = true))
      case atStart => exact ⟨i, dk, rfl, by omega, Nat.le_refl _, Nat.le_refl _, hsk, S1, ⟨L1, [], by simp, HI1.out, HI0.out, by simp⟩⟩
      case round =>
        clear S1 HI0
        obtain ⟨j, dj, rfl, haj, hji, hg2, hsj, S1, HI⟩ := hrel
        obtain ⟨A1, A2, hi0⟩ := HI.out
        have HI : Aside _ := hi0
        clear hi0
        by_cases hja : a < j
        · obtain ⟨jp, rfl⟩ : ∃ jp, j = jp + 1 := ⟨j - 1, by omega⟩
          have hA : A1 ≠ [] := by intro h; have := HI.out.2.1; rw [h] at this; simp at this; omega
          obtain ⟨A3, s, rfl⟩ := snoc_of hA
          clear hA
          have hjaz' : (a : Int) < (jp : Int) + 1 := by omega
          have hx1 : dj[jp + 1]! = y := get_split (A := X ++ (A3 ++ [s])) (C := A2 ++ (T' ++ Y)) (by rw [HI.out.2.2.1]; simp) (by have := HI.out.2.1; have := HB.out.1; simp at *; omega)
          have hx2 : dj[jp]! = s := get_split (A := X ++ A3) (C := y :: (A2 ++ (T' ++ Y))) (by rw [HI.out.2.2.1]; simp) (by have := HI.out.2.1; have := HB.out.1; simp at *; omega)
          have HX : Aside (dj[jp + 1]! = y ∧ dj[jp]! = s) := ⟨hx1, hx2⟩
          clear hx1 hx2
          cases hL : ltOf cf dj[jp + 1]! dj[jp]! with
          | true =>
            have ea4 : ((jp : Int) + 1).toNat = jp + 1 := by omega
            have pa4 : (0 : Int) ≤ (jp : Int) + 1 := by omega
            have ba4 : (jp : Int) + 1 < (len : Int) := by omega
            have ra4 : IntKind.i64.wrap ((jp : Int) + 1) = (jp : Int) + 1 := by rw [IntKind.wrap_i64]; omega
            have ec4 : ((jp : Int)).toNat = jp := by omega
            have pc4 : (0 : Int) ≤ (jp : Int) := by omega
            have bc4 : (jp : Int) < (len : Int) := by omega
            have rc4 : IntKind.i64.wrap ((jp : Int)) = (jp : Int) := by rw [IntKind.wrap_i64]; omega
            obtain ⟨x4, hx4⟩ : ∃ x, x = dj[jp + 1]! := ⟨_, rfl⟩
            obtain ⟨y4, hy4⟩ : ∃ x, x = dj[jp]! := ⟨_, rfl⟩
            have L4 : Aside (∀ n : In wr, Sem.run Try.prog (loadCellsFrom ⟨blk, off + (jp + 1) * K, none⟩ 0 K #[]) n.w = .ok (enc x4).toArray n.w ∧ Sem.run Try.prog (loadCellsFrom ⟨blk, off + (jp) * K, none⟩ 0 K #[]) n.w = .ok (enc y4).toArray n.w ∧ Calls Try.prog g (fi ++ (#[.agg (enc x4).toArray, .agg (enc y4).toArray] ++ ca)) n.w fun e w' => e = .returned (.int .i64 (cf x4 y4)) ∧ Below n.w.heap.size n.w w') := fun n => ⟨by rw [hx4]; exact (S1.out.at R n).load R Try.prog (jp + 1) (by omega), by rw [hy4]; exact (S1.out.at R n).load R Try.prog (jp) (by omega), HC.out _ _ (S1.out.at R n) (by omega) x4 y4⟩
            have hv4 : cf x4 y4 < 0 := by rw [hx4, hy4]; exact of_decide_eq_true hL
            have hd4 : decide (cf x4 y4 < 0) = true := decide_eq_true hv4
            clear hx4 hy4
            go_wp2_with fail
            refine wp_region_calm0 (by kernel_rfl) (by kernel_rfl) fun M => ?_
            have l4a := fun n : In M.w => (L4.out (In.within (m := M) n)).1
            have l4b := fun n : In M.w => (L4.out (In.within (m := M) n)).2.1
            have hc4 := fun n : In M.w => (L4.out (In.within (m := M) n)).2.2
            simp only [In.within] at l4a l4b hc4
            repeat (go_big_quiet_step ((go_at_fn g; exact In.call (hc4 _))))
            refine wpQuiet_nil ?_
            intro w2 hb4
            have S2 : Aside (SWB enc K w0 blk off dj w2) := S1.out.below R hb4
            clear L4 l4a l4b hc4 S1 hb4 M
            go_wp2_with fail
            have ea5 : ((jp : Int) + 1).toNat = jp + 1 := by omega
            have pa5 : (0 : Int) ≤ (jp : Int) + 1 := by omega
            have ba5 : (jp : Int) + 1 < (len : Int) := by omega
            have ra5 : IntKind.i64.wrap ((jp : Int) + 1) = (jp : Int) + 1 := by rw [IntKind.wrap_i64]; omega
            have ec5 : ((jp : Int)).toNat = jp := by omega
            have pc5 : (0 : Int) ≤ (jp : Int) := by omega
            have bc5 : (jp : Int) < (len : Int) := by omega
            have rc5 : IntKind.i64.wrap ((jp : Int)) = (jp : Int) := by rw [IntKind.wrap_i64]; omega
            have S3 : Aside (SWB enc K w0 blk off (swp dj (jp + 1) (jp)) ((w2.drew.setCells blk (off + (jp + 1) * K) (enc dj[jp]!)).setCells blk (off + (jp) * K) (enc dj[jp + 1]!))) := S2.out.swapped R (jp + 1) (jp) (by omega) (by omega)
            have l5a := S2.out.ld1 R (by omega) Try.prog (jp + 1) (by omega)
            have l5b := S2.out.ld1 R (by omega) Try.prog (jp) (by omega)
            have s5a := S2.out.st1 R (by omega) Try.prog (jp + 1) (by omega) dj[jp]!
            have s5b := S2.out.st2 R (by omega) Try.prog (jp + 1) (jp) (by omega) (by omega) dj[jp]! dj[jp + 1]!
            have n5a : (enc dj[jp + 1]!).length = K := R.hk _
            have n5b : (enc dj[jp]!).length = K := R.hk _
            generalize enc dj[jp + 1]! = cI5 at S3 l5a s5b n5a
            generalize enc dj[jp]! = cJ5 at S3 l5b s5a s5b n5b
            clear S2
            go_wp2_with fail
            go_big_region_o
            clear l5a l5b s5a s5b
            generalize (w2.drew.setCells blk (off + (jp + 1) * K) cJ5).setCells blk (off + (jp) * K) cI5 = w3 at S3 ⊢
            go_wp2
            go_roundg jp
            case measure => omega
            case rel =>
              refine ⟨jp, swp dj (jp + 1) jp, by first | rfl | go_num | (congr 1; omega), by omega, by omega, Nat.le_refl _, by rw [size_swp]; exact hsj, S3, ⟨A3, s :: A2, ?_, ?_, ?_, ?_⟩⟩
              · rw [HI.out.1]; simp
              · have := HI.out.2.1; simp at this; omega
              · have := swp_split' (d := dj) (A := X ++ A3) (B := []) (C := A2 ++ (T' ++ Y)) (x := s) (y := y) (by rw [HI.out.2.2.1]; simp) (i := jp) (j := jp + 1) (by have := HI.out.2.1; have := HB.out.1; simp at *; omega) (by have := HI.out.2.1; have := HB.out.1; simp at *; omega)
                rw [this]; simp
              · intro z hz
                rcases List.mem_cons.1 hz with rfl | hz
                · rw [HX.out.1, HX.out.2] at hL; exact hL
                · exact HI.out.2.2.2 z hz
          | false =>
            have ea6 : ((jp : Int) + 1).toNat = jp + 1 := by omega
            have pa6 : (0 : Int) ≤ (jp : Int) + 1 := by omega
            have ba6 : (jp : Int) + 1 < (len : Int) := by omega
            have ra6 : IntKind.i64.wrap ((jp : Int) + 1) = (jp : Int) + 1 := by rw [IntKind.wrap_i64]; omega
            have ec6 : ((jp : Int)).toNat = jp := by omega
            have pc6 : (0 : Int) ≤ (jp : Int) := by omega
            have bc6 : (jp : Int) < (len : Int) := by omega
            have rc6 : IntKind.i64.wrap ((jp : Int)) = (jp : Int) := by rw [IntKind.wrap_i64]; omega
            obtain ⟨x6, hx6⟩ : ∃ x, x = dj[jp + 1]! := ⟨_, rfl⟩
            obtain ⟨y6, hy6⟩ : ∃ x, x = dj[jp]! := ⟨_, rfl⟩
            have L6 : Aside (∀ n : In wr, Sem.run Try.prog (loadCellsFrom ⟨blk, off + (jp + 1) * K, none⟩ 0 K #[]) n.w = .ok (enc x6).toArray n.w ∧ Sem.run Try.prog (loadCellsFrom ⟨blk, off + (jp) * K, none⟩ 0 K #[]) n.w = .ok (enc y6).toArray n.w ∧ Calls Try.prog g (fi ++ (#[.agg (enc x6).toArray, .agg (enc y6).toArray] ++ ca)) n.w fun e w' => e = .returned (.int .i64 (cf x6 y6)) ∧ Below n.w.heap.size n.w w') := fun n => ⟨by rw [hx6]; exact (S1.out.at R n).load R Try.prog (jp + 1) (by omega), by rw [hy6]; exact (S1.out.at R n).load R Try.prog (jp) (by omega), HC.out _ _ (S1.out.at R n) (by omega) x6 y6⟩
            have hv6 : ¬ cf x6 y6 < 0 := by rw [hx6, hy6]; exact of_decide_eq_false hL
            have hd6 : decide (cf x6 y6 < 0) = false := decide_eq_false hv6
            clear hx6 hy6
            go_wp2_with fail
            refine wp_region_calm0 (by kernel_rfl) (by kernel_rfl) fun M => ?_
            have l6a := fun n : In M.w => (L6.out (In.within (m := M) n)).1
            have l6b := fun n : In M.w => (L6.out (In.within (m := M) n)).2.1
            have hc6 := fun n : In M.w => (L6.out (In.within (m := M) n)).2.2
            simp only [In.within] at l6a l6b hc6
            repeat (go_big_quiet_step ((go_at_fn g; exact In.call (hc6 _))))
            refine wpQuiet_nil ?_
            intro w2 hb6
            have S2 : Aside (SWB enc K w0 blk off dj w2) := S1.out.below R hb6
            clear L6 l6a l6b hc6 S1 hb6 M
            go_wp2
            go_roundg (b - (i + 1))
            case measure => omega
            case rel => exact ⟨i + 1, dj, by go_num, by omega, by omega, by omega, hsj, S2, OUT.out dj (A3 ++ [s]) A2 HI.out.1 HI.out.2.2.1 HI.out.2.2.2 (by rw [HX.out.1, HX.out.2] at hL; exact LeA.ends hO (Ord.app.1 (by have := HO1.out; rw [HI.out.1] at this; exact this)).1 (by simp [Ord]) hL)⟩
        · have hjaz' : ¬ (a : Int) < (j : Int) := by omega
          have S2 : Aside (SWB enc K w0 blk off dj wr.drew) := S1.out.drew
          have hA : A1 = [] := by have := HI.out.2.1; exact List.eq_nil_of_length_eq_zero (by omega)
          subst hA
          clear S1
          go_wp2_with fail
          go_big_region_o
          all_goals go_wp2
          go_roundg (b - (i + 1))
          case measure => omega
          case rel => exact ⟨i + 1, dj, by go_num, by omega, by omega, by omega, hsj, S2, OUT.out dj [] A2 HI.out.1 HI.out.2.2.1 HI.out.2.2.2 (LeA.nil_left _)⟩
    · have hltz : ¬ (i : Int) < (b : Int) := by omega
      go_wp2
      go_end0
      obtain ⟨L1, T, l1, l2, l3, l4⟩ := HL.out
      obtain ⟨rfl, hp⟩ := of_app_len l3 HB.out.2 l4 (by omega)
      exact ⟨rfl, dk, L1, by simpa using l1, hp, l2, hsk, S1⟩
end Go.Proofs.Ytoepodjpempcdaa
