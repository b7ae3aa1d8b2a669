/- Stage 9's program: what becomes of each byte. -/
import Derived.Test.YtmmaodcihpgdfaaCrcRefC
import Derived.Test.YtmmaodcihpgdfaaLabels
import Derived.Deep.WholeRow
import Derived.Deep.DeepCutAuto
import Derived.Laws.CopyOwn
import Derived.Laws.BitsAllLaws
namespace Go.Proofs.Ytmmaodcihpgdfaa
open Go.RowKit

/-! ### Mathematics -/
/-- a bit of a byte -/
def Bit8 (d : Nat) : Prop := d = 1 ∨ d = 2 ∨ d = 4 ∨ d = 8 ∨ d = 16 ∨ d = 32 ∨ d = 64 ∨ d = 128
theorem st_sti (k w : Nat) : st (sti k w) = sti k (st w) := by
  have h1 := sti_add k 1 w
  have h2 := sti_add 1 k w
  rw [Nat.add_comm k 1] at h1
  exact h1.symm.trans h2
theorem st_bit (d : Nat) : st (sti 8 (2 * d)) = sti 8 d := by rw [st_sti, st_even]
theorem bit_room {c d : Nat} (hd : Bit8 d) (hc : c % (2 * d) = 0) (h : c < 256) : c + 2 * d ≤ 256 := by
  rcases hd with rfl | rfl | rfl | rfl | rfl | rfl | rfl | rfl <;> omega
theorem bit_next {c d : Nat} (hc : c % (2 * d) = 0) : (c + 2 * d) % (2 * d) = 0 := by rw [Nat.add_mod_right]; exact hc
theorem bit_le {d : Nat} (hd : Bit8 d) : 0 < d ∧ d ≤ 128 := by
  rcases hd with rfl | rfl | rfl | rfl | rfl | rfl | rfl | rfl <;> omega
theorem bit_half {d : Nat} (hd : Bit8 d) (h : 1 < d) : ∃ d', d = 2 * d' ∧ Bit8 d' := by
  rcases hd with rfl | rfl | rfl | rfl | rfl | rfl | rfl | rfl
  · omega
  · exact ⟨1, rfl, by simp [Bit8]⟩
  · exact ⟨2, rfl, by simp [Bit8]⟩
  · exact ⟨4, rfl, by simp [Bit8]⟩
  · exact ⟨8, rfl, by simp [Bit8]⟩
  · exact ⟨16, rfl, by simp [Bit8]⟩
  · exact ⟨32, rfl, by simp [Bit8]⟩
  · exact ⟨64, rfl, by simp [Bit8]⟩
theorem bit_laid {c d : Nat} (hd : Bit8 d) (hc : c % (2 * d) = 0) : c + d = c ^^^ d := by
  obtain ⟨j, hj⟩ : ∃ j, d = 2 ^ j := by
    rcases hd with rfl | rfl | rfl | rfl | rfl | rfl | rfl | rfl
    · exact ⟨0, rfl⟩
    · exact ⟨1, rfl⟩
    · exact ⟨2, rfl⟩
    · exact ⟨3, rfl⟩
    · exact ⟨4, rfl⟩
    · exact ⟨5, rfl⟩
    · exact ⟨6, rfl⟩
    · exact ⟨7, rfl⟩
  obtain ⟨m, hm⟩ : ∃ m, c = 2 ^ (j + 1) * m := ⟨c / (2 * d), by have := Nat.div_add_mod c (2 * d); rw [hc] at this; rw [Nat.pow_succ, ← hj, Nat.mul_comm d 2]; omega⟩
  have hlt : d < 2 ^ (j + 1) := by rw [hj, Nat.pow_succ]; have := Nat.pow_pos (n := j) (show 0 < 2 by decide); omega
  rw [hm]
  apply Nat.eq_of_testBit_eq
  intro i
  rw [Nat.testBit_two_pow_mul_add _ hlt, Nat.testBit_xor, Nat.testBit_two_pow_mul]
  by_cases hi : i < j + 1
  · rw [if_pos hi, decide_eq_false (show ¬ i ≥ j + 1 by omega)]
    simp
  · rw [if_neg hi, decide_eq_true (show i ≥ j + 1 by omega), Nat.testBit_lt_two_pow (show d < 2 ^ i from Nat.lt_of_lt_of_le hlt (Nat.pow_le_pow_right (n := 2) (by decide) (by omega)))]
    simp
theorem bit_sum {c d : Nat} (hd : Bit8 d) (hc : c % (2 * d) = 0) : sti 8 c ^^^ sti 8 d = sti 8 (c + d) := by rw [bit_laid hd hc, sti_xor]
theorem bit_spots {c d i : Nat} (hd : Bit8 d) (hc : c % (2 * d) = 0) (h1 : i % d = 0) (h2 : i < c + 2 * d) (h3 : ¬ i < c) (h4 : i ≠ c + d) : i % (2 * d) = 0 := by
  rcases hd with rfl | rfl | rfl | rfl | rfl | rfl | rfl | rfl <;> omega
theorem bit_mul {d i : Nat} (h : i % (2 * d) = 0) : i % d = 0 := by rw [← Nat.mod_mul_left_mod i 2 d, h, Nat.zero_mod]

/-- what stands in the array: at these places what becomes of the byte -/
def Tab9 (M : List Value) (p : Nat → Prop) : Prop := M.length = 256 ∧ (∀ v ∈ M, v.oneCell' = true) ∧ ∀ i, i < 256 → p i → M[i]? = some (.int .u32 ((sti 8 i : Nat) : Int))
theorem Tab9.weak {M : List Value} {p q : Nat → Prop} (h : Tab9 M p) (hq : ∀ i, i < 256 → q i → p i) : Tab9 M q := ⟨h.1, h.2.1, fun i hi hqi => h.2.2 i hi (hq i hi hqi)⟩
theorem Tab9.next {M : List Value} {c d : Nat} (hd : Bit8 d) (hc : c % (2 * d) = 0) (hlt : c < 256) (h : Tab9 M fun i => i % (2 * d) = 0 ∨ (i % d = 0 ∧ i < c)) :
    Tab9 (M.set (c + d) (.int .u32 ((sti 8 c ^^^ sti 8 d : Nat) : Int))) fun i => i % (2 * d) = 0 ∨ (i % d = 0 ∧ i < c + 2 * d) := by
  have hr := bit_room hd hc hlt
  have hl := bit_le hd
  refine ⟨by rw [List.length_set]; exact h.1, fun v hv => ?_, fun i hi hp => ?_⟩
  · rcases List.mem_or_eq_of_mem_set hv with hv | rfl
    · exact h.2.1 v hv
    · rfl
  · rw [List.getElem?_set]
    by_cases e : c + d = i
    · subst e
      rw [if_pos rfl, if_pos (by rw [h.1]; omega), bit_sum hd hc]
    · rw [if_neg e]
      refine h.2.2 i hi ?_
      rcases hp with hp | ⟨h1, h2⟩
      · exact .inl hp
      · by_cases h3 : i < c
        · exact .inr ⟨h1, h3⟩
        · exact .inl (bit_spots hd hc h1 h2 h3 (fun h => e h.symm))
/-- the whole array -/
def tab9 : List Value := (List.range 256).map fun i => .int .u32 ((sti 8 i : Nat) : Int)
theorem tab9_at (i : Nat) (h : i < 256) : tab9[i]? = some (.int .u32 ((sti 8 i : Nat) : Int)) := by
  unfold tab9
  rw [List.getElem?_map, List.getElem?_range h]
  rfl
theorem tab9_len : tab9.length = 256 := by unfold tab9; rw [List.length_map, List.length_range]
theorem Tab9.all {M : List Value} (h : Tab9 M fun i => i % 1 = 0) : M = tab9 := by
  apply List.ext_getElem?
  intro i
  by_cases hi : i < 256
  · rw [h.2.2 i hi (Nat.mod_one i), tab9_at i hi]
  · rw [List.getElem?_eq_none (by rw [h.1]; omega), List.getElem?_eq_none (by rw [tab9_len]; omega)]
theorem tab9_zero : Tab9 (List.replicate 256 (.int .u32 0)) fun i => i % (2 * 128) = 0 := by
  refine ⟨List.length_replicate, fun v hv => ?_, fun i hi hp => ?_⟩
  · rw [(List.mem_replicate.1 hv).2]
    rfl
  · have : i = 0 := by omega
    subst this
    rfl

/-! ### One step -/
set_option maxRecDepth 100000 in
theorem cStep9_any (x : Nat) (w : World) (hx : x < 4294967296) : Calls Try.prog 35 #[.int .u32 (x : Int)] w fun e w' => e = .returned (.int .u32 ((st x : Nat) : Int)) ∧ w = w' := by
  have hX : bits .xor .u32 ((x / 2 : Nat) : Int) 3988292384 = ((x / 2 ^^^ 3988292384 : Nat) : Int) := u32_xor_nat (x / 2) 3988292384 (by omega) (by decide)
  have h1 : (x : Int) ≤ 4294967295 := by omega
  have h0 : (0 : Int) ≤ (x : Int) := by omega
  have e2 : ((x / 2 : Nat) : Int) = (x : Int) / 2 := by omega
  rw [e2] at hX
  by_cases ho : x % 2 = 1
  · have hs : st x = x / 2 ^^^ 3988292384 := by unfold st; rw [if_pos ho]
    have HS := Lib.hid hs
    have hb : (x : Int) % 2 = 1 := by omega
    clear hs ho hx e2
    go_enter Try.func35, Try.ntmps35
    go_wp2
    go_ret
    exact ⟨by rw [HS.out]; rfl, rfl⟩
  · have hs : st x = x / 2 := by unfold st; rw [if_neg ho]
    have HS := Lib.hid hs
    have hb : ((x : Int) % 2 == 1) = false := beq_no9 (by omega)
    clear hs ho hx e2
    go_enter Try.func35, Try.ntmps35
    go_wp2
    go_ret
    exact ⟨by rw [HS.out]; go_num, rfl⟩

/-! ### The whole array -/
set_option maxHeartbeats 2000000 in
set_option maxRecDepth 100000 in
theorem cEach9_any (w : World) : Calls Try.prog 32 #[] w fun e w' => e = .returned (.agg tab9.toArray) ∧ Below w.heap.size w w' := by
  obtain ⟨hz, hs⟩ := zero_of_info (P := Try.prog) (t := 56) (v := .agg (List.replicate 256 (.int .u32 0)).toArray) (n := 256) (by kernel_rfl)
  have hal : Try.prog.arrayLen 56 = 256 := by kernel_rfl
  obtain ⟨Z, hZ⟩ : ∃ Z, Z = List.replicate 256 (Value.int .u32 0) := ⟨_, rfl⟩
  rw [← hZ] at hz
  have h0 := tab9_zero
  rw [← hZ] at h0
  have H0 := Lib.hid h0
  clear hZ
  have HST := fun x hx w => Lib.hid (cStep9_any x w hx)
  clear h0
  go_enter Try.func32, Try.ntmps32
  go_wp2
  refine wp_scope_goto 0 (fun n a' w' => ∃ (d ch : Nat) (M : List Value), n = 2 * d ∧ Bit8 d ∧ ch < 4294967296 ∧ st ch = sti 8 d ∧ Tab9 M (fun i => i % (2 * d) = 0) ∧ w' = (w.alloc (.cells Z.toArray 56)).alloc (.cells M.toArray 56) ∧ ∃ u4 u5 u6 u7 u8 u9 u10 u11 u12 u13 u14 u15 u16 u17 u18 u19 u20 u21 u22 u23 u24 u25 u26, a' = { tmps := #[.pointer (some ⟨w.heap.size, 0, none⟩), .pointer (some ⟨w.heap.size + 1, 0, none⟩), .int .i64 ((2 * d : Nat) : Int), .int .u32 (ch : Int), u4, u5, u6, u7, u8, u9, u10, u11, u12, u13, u14, u15, u16, u17, u18, u19, u20, u21, u22, u23, u24, u25, u26], defers := [] }) rfl rfl ?_ ?_
  · rintro n a' w' ⟨d, ch, M, rfl, hd, hch, hst, hM, rfl, u4, u5, u6, u7, u8, u9, u10, u11, u12, u13, u14, u15, u16, u17, u18, u19, u20, u21, u22, u23, u24, u25, u26, rfl⟩ K hK
    have hdl := bit_le hd
    have hS := (HST ch hch w).out
    have hsl : sti 8 d < 4294967296 := sti_lt 8 d (by omega)
    have hstep := fun w => (HST ch hch w).out
    have hML := hM.1
    rw [hst] at hstep
    generalize hx : sti 8 d = x at *
    have HSTEP := fun w => Lib.hid (hstep w)
    have d0 : (0 : Int) < (d : Int) := by omega
    have d1 : (d : Int) ≤ 128 := by omega
    have x1 : (x : Int) ≤ 4294967295 := by omega
    have hdd : ((2 * d : Nat) : Int) / 2 = (d : Int) := by omega
    have HM := Lib.hid hM
    have HX := Lib.hid hx
    have HD := Lib.hid hd
    clear hS hstep hM hst hx hd hdl
    go_wp2_with (go_at_call 35; (with_reducible refine (HSTEP _).out.mono ?_); rintro e w1 ⟨rfl, rfl⟩)
    go_loopw [4] (fun i wr => ∃ (c : Nat) (M : List Value), i = .int .i64 c ∧ c % (2 * d) = 0 ∧ c ≤ 256 ∧ Tab9 M (fun i => i % (2 * d) = 0 ∨ (i % d = 0 ∧ i < c)) ∧ wr = (w.alloc (.cells Z.toArray 56)).alloc (.cells M.toArray 56)) (fun i _ => 256 - (intOf i).toNat)
    case atStart => exact ⟨0, M, rfl, Nat.zero_mod _, by omega, HM.out.weak fun i _ h => by rcases h with h | h <;> omega, rfl⟩
    case round =>
      clear HM hML
      obtain ⟨c, M, rfl, hcd, hc, hM, rfl⟩ := hrel
      by_cases hlt : c < 256
      · obtain ⟨y, hy⟩ : ∃ y, sti 8 c = y := ⟨_, rfl⟩
        have hMl := hM.1
        have hcell : M[c]'(by rw [hMl]; exact hlt) = .int .u32 ((sti 8 c : Nat) : Int) := Option.some.inj ((List.getElem?_eq_getElem _).symm.trans (hM.2.2 c hlt (.inl hcd)))
        have hyl : sti 8 c < 4294967296 := sti_lt 8 c (by omega)
        have hnext := Tab9.next HD.out hcd hlt hM
        have hroom := bit_room HD.out hcd hlt
        rw [HX.out] at hnext
        rw [hy] at hcell hyl hnext
        have hxor := u32_xor_nat y x hyl (by omega)
        obtain ⟨u, hu⟩ : ∃ u, M[c + d]? = some u := ⟨_, List.getElem?_eq_getElem (by omega)⟩
        have c0 : (c : Int) < 256 := by omega
        have c1 : (c : Int) + 2 * (d : Int) ≤ 256 := by omega
        have hcn := bit_next hcd
        have HN := Lib.hid hnext
        have HCN := Lib.hid hcn
        clear hnext hcn hy hyl hM
        go_wp2
        go_roundw
        case rel => exact ⟨c + 2 * d, _, by go_num, HCN.out, hroom, HN.out, rfl⟩
        case measure => simp [intOf] <;> omega
      · have hce : c = 256 := by omega
        clear hlt hc
        subst hce
        by_cases h1 : d = 1
        · subst h1
          have hMe := (hM.weak (q := fun i => i % 1 = 0) fun i hi _ => .inr ⟨Nat.mod_one i, hi⟩).all
          clear hM
          subst hMe
          have hg := heap_alloc_new (w.alloc (.cells Z.toArray 56)) (.cells tab9.toArray 56)
          have hg0 : ((w.alloc (.cells Z.toArray 56)).alloc (.cells tab9.toArray 56)).heap[w.heap.size]? = some (.cells Z.toArray 56 (0, 0)) := by
            show (Array.push (Array.push w.heap _) _)[w.heap.size]? = _
            rw [Array.getElem?_push, if_neg (by simp), Array.getElem?_push, if_pos rfl]
          have hts : some 256 = some tab9.toArray.size := by rw [List.size_toArray, tab9_len]
          have hZs : Z.toArray.size = tab9.toArray.size := by rw [List.size_toArray, List.size_toArray, tab9_len, H0.out.1]
          have hone : tab9.toArray.all (·.oneCell') = true := by rw [Array.all_eq_true_iff_forall_mem]; intro v hv; unfold tab9 at hv; simp at hv; obtain ⟨i, _, rfl⟩ := hv; rfl
          rw [show (w.alloc (.cells Z.toArray 56)).heap.size = w.heap.size + 1 by simp] at hg
          have HG := Lib.hid hg
          have HG0 := Lib.hid hg0
          have HTS := Lib.hid (hs.trans hts)
          have HZS := Lib.hid hZs
          have HONE := Lib.hid hone
          clear hg hg0 hts hZs hone hs
          go_upto_region 10 with (fail)
          refine wp_region_lit ?_
          refine wpList_load_row rfl _ _ rfl (w.heap.size + 1) rfl _ tab9.toArray (0, 0) _ HG.out Try.underlying56 rfl HTS.out ?_
          refine wpList_plain rfl fun K' hK' => wp_store_row _ _ _ rfl w.heap.size tab9.toArray rfl rfl _ Z.toArray HG0.out HTS.out HZS.out HONE.out (hK' _ _ ?_)
          go_wp2
          simp only [Exit.jump]
          exact bodyPost_ret (v := .agg tab9.toArray) (results_cell_row rfl _ _ w.heap.size 56 tab9.toArray (0, 0) _ rfl (setRow_heap _ _ _ _ _ _ HG0.out) Try.underlying56 rfl HTS.out) rfl ⟨rfl, below_setRow (((Below.refl w.heap.size w).alloc (Nat.le_refl _) _).alloc (by simp) _) (Nat.le_refl _) _⟩
        · have hd1 : (1 : Int) < (d : Int) := by omega
          obtain ⟨d', hdd', hd'⟩ := bit_half HD.out (by omega)
          have hM' := hM.weak (q := fun i => i % d = 0) fun i hi h => .inr ⟨h, hi⟩
          have HM := Lib.hid hM'
          have HE := Lib.hid hdd'
          have HD' := Lib.hid hd'
          clear hM hM' h1 hdd' hd'
          go_wp2
          go_step3
          show 0 = 0 ∧ K _ _
          obtain rfl := HE.out
          exact ⟨rfl, hK (2 * d') _ _ (by omega) ⟨d', x, M, rfl, HD'.out, hsl, by rw [← HX.out, st_bit], HM.out, rfl, _, _, _, _, _, _, _, _, _, _, _, _, _, _, _, _, _, _, _, _, _, _, _,  rfl⟩⟩
  · intro K hpass
    go_wp2
    go_step3
    rename_i hback
    refine hback _ _ (hpass 256 _ _ ⟨128, 1, Z, rfl, by simp [Bit8], by decide, by rfl, H0.out, rfl, _, _, _, _, _, _, _, _, _, _, _, _, _, _, _, _, _, _, _, _, _, _, _,  rfl⟩)
end Go.Proofs.Ytmmaodcihpgdfaa
