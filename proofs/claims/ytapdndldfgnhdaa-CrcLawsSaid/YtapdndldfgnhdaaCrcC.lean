/- Stage 9's program: bits turned. -/
import Derived.Test.YtapdndldfgnhdaaCrcB
import Derived.Laws.MakeOwn
import Derived.BigQuiet
namespace Go.Proofs.Ytapdndldfgnhdaa
open Go.RowKit Go.Deep Go.Joins Go.ChangeShapes Go.WideShapes

/-! ### Mathematics -/
theorem i64_and7 (n : Int) : bits .and .i64 n 7 = n % 8 := by
  have h7 : (BitVec.ofInt 64 7).toNat = 2 ^ 3 - 1 := by decide
  have key : (BitVec.ofInt 64 n &&& BitVec.ofInt 64 7).toNat = (n % ((2 ^ 64 : Nat) : Int)).toNat % 2 ^ 3 := by
    rw [BitVec.toNat_and, BitVec.toNat_ofInt, h7, Nat.and_two_pow_sub_one_eq_mod]
  show IntKind.i64.wrap ((BitVec.ofInt 64 n &&& BitVec.ofInt 64 7).toNat : Nat) = n % 8
  rw [key, IntKind.wrap_i64]
  omega
theorem two8 (n : Nat) : (256 : Nat) ^ n = 2 ^ (8 * n) := by rw [Nat.pow_mul]
/-- byte n of what is laid over the bytes -/
theorem flq_byte {at_ F : Int} {b i n r : Nat} (hat : at_ = 8 * F + r) (hn : (n : Int) = F + i) : flq at_ b / 256 ^ n = b * 2 ^ r / 2 ^ (8 * i) := by
  unfold flq
  rw [two8]
  by_cases h0 : 0 ≤ at_
  · rw [if_pos h0]
    obtain ⟨A, hA⟩ : ∃ A : Nat, at_ = A := ⟨at_.toNat, by omega⟩
    rw [hA, Int.toNat_natCast]
    have e : A + 8 * i = 8 * n + r := by omega
    rw [← Nat.mul_div_mul_right (b * 2 ^ A) (2 ^ (8 * n)) (Nat.pow_pos (n := 8 * i) (show 0 < 2 by decide)), Nat.mul_assoc, ← Nat.pow_add, e, Nat.pow_add, Nat.mul_left_comm, Nat.mul_div_mul_left _ _ (Nat.pow_pos (by decide))]
  · rw [if_neg h0]
    obtain ⟨A, hA⟩ : ∃ A : Nat, -at_ = A := ⟨(-at_).toNat, by omega⟩
    have e : 8 * i = A + 8 * n + r := by omega
    rw [hA, Int.toNat_natCast, Nat.div_div_eq_div_mul, ← Nat.pow_add, e, Nat.pow_add 2 (A + 8 * n) r, Nat.mul_div_mul_right _ _ (Nat.pow_pos (by decide))]
theorem flq_before {at_ F : Int} {b n r : Nat} (hat : at_ = 8 * F + r) (hn : (n : Int) < F) : flq at_ b / 256 ^ n % 256 = 0 := by
  unfold flq
  rw [if_pos (by omega), two8]
  obtain ⟨d, hd⟩ : ∃ d, at_.toNat = 8 * n + 8 + d := ⟨at_.toNat - (8 * n + 8), by omega⟩
  rw [hd, Nat.add_assoc, Nat.pow_add, Nat.mul_left_comm, Nat.mul_div_cancel_left _ (Nat.pow_pos (by decide)), Nat.pow_add, Nat.mul_left_comm]
  exact Nat.mul_mod_right _ _
theorem flq_behind {at_ F : Int} {b n r : Nat} (hat : at_ = 8 * F + r) (hr : r < 8) (hb : b < 4294967296) (hn : F + 5 ≤ (n : Int)) : flq at_ b / 256 ^ n = 0 := by
  obtain ⟨i, hi⟩ : ∃ i : Nat, (n : Int) = F + i := ⟨((n : Int) - F).toNat, by omega⟩
  rw [flq_byte hat hi]
  have h1 : b * 2 ^ r < 2 ^ 32 * 2 ^ 8 := by
    have h3 : 2 ^ r ≤ 2 ^ 7 := Nat.pow_le_pow_right (by decide) (by omega)
    have h4 : b * 2 ^ r ≤ b * 2 ^ 7 := Nat.mul_le_mul_left _ h3
    omega
  have h2 : (2 : Nat) ^ 40 ≤ 2 ^ (8 * i) := Nat.pow_le_pow_right (by decide) (by omega)
  exact Nat.div_eq_of_lt (by omega)

/-- the bytes of which those ahead of place p are laid over -/
def Laid9 (Q : Nat) (N : List Nat) (p : Int) (L : List Nat) : Prop := L.length = N.length ∧ ∀ j : Nat, ∀ x, N[j]? = some x → L[j]? = some (x ^^^ if (j : Int) < p then Q / 256 ^ j % 256 else 0)
theorem Laid9.start {Q : Nat} {N : List Nat} {p : Int} (h : ∀ j : Nat, (j : Int) < p → Q / 256 ^ j % 256 = 0) : Laid9 Q N p N := by
  refine ⟨rfl, fun j x hx => ?_⟩
  by_cases hj : (j : Int) < p
  · rw [if_pos hj, h j hj, Nat.xor_zero, hx]
  · rw [if_neg hj, Nat.xor_zero, hx]
theorem Laid9.skip {Q : Nat} {N L : List Nat} {p : Int} (h : Laid9 Q N p L) (hp : p < 0 ∨ (N.length : Int) ≤ p) : Laid9 Q N (p + 1) L := by
  refine ⟨h.1, fun j x hx => ?_⟩
  have hj : j < N.length := (List.getElem?_eq_some_iff.1 hx).1
  rw [h.2 j x hx]
  by_cases h1 : (j : Int) < p
  · rw [if_pos h1, if_pos (by omega)]
  · rw [if_neg h1, if_neg (by omega)]
theorem Laid9.put {Q n : Nat} {N L : List Nat} (h : Laid9 Q N n L) (hL : n < L.length) : Laid9 Q N ((n : Int) + 1) (L.set n (L[n] ^^^ Q / 256 ^ n % 256)) := by
  refine ⟨by rw [List.length_set]; exact h.1, fun j x hx => ?_⟩
  have hj : j < N.length := (List.getElem?_eq_some_iff.1 hx).1
  have hl := h.1
  rw [List.getElem?_set]
  by_cases e : n = j
  · subst e
    have h2 := h.2 n x hx
    rw [if_neg (by omega), Nat.xor_zero, List.getElem?_eq_getElem hL] at h2
    rw [if_pos rfl, if_pos hL, if_pos (by omega), Option.some.inj h2]
  · rw [if_neg e, h.2 j x hx]
    by_cases h1 : (j : Int) < n
    · rw [if_pos h1, if_pos (by omega)]
    · rw [if_neg h1, if_neg (by omega)]
theorem Laid9.byte {Q : Nat} {N L : List Nat} {p : Int} (h : Laid9 Q N p L) (hN : ∀ b ∈ N, b < 256) : ∀ b ∈ L, b < 256 := by
  intro b hb
  obtain ⟨j, hj, rfl⟩ := List.getElem_of_mem hb
  have hl := h.1
  have h2 := h.2 j N[j] (List.getElem?_eq_getElem (by omega))
  rw [List.getElem?_eq_getElem hj] at h2
  rw [Option.some.inj h2]
  refine Nat.xor_lt_two_pow (n := 8) (hN _ (List.getElem_mem _)) ?_
  split
  · exact Nat.mod_lt _ (by decide)
  · decide
theorem Laid9.all {Q : Nat} {N L : List Nat} {p : Int} (h : Laid9 Q N p L) (hp : ∀ j : Nat, p ≤ (j : Int) → Q / 256 ^ j % 256 = 0) : L = flx Q N := by
  apply List.ext_getElem?
  intro j
  by_cases hj : j < N.length
  · rw [h.2 j N[j] (List.getElem?_eq_getElem hj), flx_at N Q j hj]
    by_cases h1 : (j : Int) < p
    · rw [if_pos h1]
    · rw [if_neg h1, hp j (by omega)]
  · rw [List.getElem?_eq_none (by rw [h.1]; omega), List.getElem?_eq_none (by rw [flx_length]; omega)]

/-! ### Bytes copied into new memory -/
theorem flats_one (l : List UInt8) : ∀ v ∈ flats csB l, v.oneCell' = true := by
  intro v hv
  unfold flats at hv
  obtain ⟨b, _, hv⟩ := List.mem_flatMap.1 hv
  exact csB_one b v hv
theorem copied {w w' : World} {a : Option Addr} {c g : Nat} {l : List UInt8} (h : BytesAt w (.slice a l.length c) l) (hb : Below w.heap.size w w') :
    0 < (flats csB l).length → some ⟨g, 0, none⟩ = some (⟨g, 0, none⟩ : Addr) ∧ ∃ ad, a = some ad ∧ ∀ j v, (flats csB l)[j]? = some v → w'.cell? (ad.add j) = some v := by
  intro h0
  rw [flats_length csB_len, Nat.mul_one] at h0
  obtain ⟨g', o, c', e, _⟩ := BytesAt.at h 0 h0
  cases e
  refine ⟨rfl, _, rfl, fun j v hv => ?_⟩
  obtain ⟨q, i, x, e1, e2, e3⟩ := flats_inv csB_len l j v hv
  have hq := (List.getElem?_eq_some_iff.1 e2).1
  obtain ⟨g', o, c', e, _, _, p0⟩ := BytesAt.at (h.kept hb) q hq
  cases e
  have hi : i = 0 := by
    have := (List.getElem?_eq_some_iff.1 e3).1
    rw [csB_len] at this
    omega
  subst hi
  simp [csB] at e3
  subst e3
  rw [add_plain]
  rw [List.getElem?_eq_getElem hq] at e2
  cases e2
  rw [← p0]
  congr 2
  omega
theorem own_copy {w : World} {g : Nat} {X : List Value} {l : List UInt8} (hX : X.length = l.length) (h : w.heap[g]? = some (.cells (splice X 0 (flats csB l)).toArray 5 (0, 0))) (hl : l.length ≤ maxLen) :
    OwnB w g (.slice (some ⟨g, 0, none⟩) l.length l.length) l := by
  have hf : (flats csB l).length = l.length := by rw [flats_length csB_len, Nat.mul_one]
  have e : splice X 0 (flats csB l) = flats csB l := by
    unfold splice
    rw [List.take_zero, List.nil_append, List.drop_of_length_le (by omega), List.append_nil]
  rw [e] at h
  exact ⟨by rw [Nat.mul_one]; exact hf, .inr ⟨g, l.length, (flats csB l).toArray, rfl, Nat.le_refl _, h, Nat.le_refl _, hl, by simp [hf], by rw [Nat.mul_one]; exact List.take_of_length_le (by simp [hf])⟩⟩

theorem cSum9_any (va : Value) (l : List UInt8) (w : World) (ha : BytesAt w va l) (hl : l.length ≤ 1000000) :
    Calls Try.prog 8 #[va] w fun e w' => e = .returned (.int .u32 ((sm (nb9 l) : Nat) : Int)) ∧ Below w.heap.size w w' := by
  have h : ∀ w, BytesAt w va l → Calls Try.prog 10 #[.int .u32 0, va] w fun e w' => e = .returned (.int .u32 ((sm (nb9 l) : Nat) : Int)) ∧ Below w.heap.size w w' := fun w ha => cMore9_any 0 va l w ha hl (by decide)
  have H := Lib.hid (h w ha)
  clear ha h
  go_enter Try.func8, Try.ntmps8
  go_wp2_with (go_at_call 10; (with_reducible refine H.out.mono ?_); rintro e w1 ⟨rfl, hb⟩)
  go_ret
  exact ⟨rfl, hb⟩

set_option maxHeartbeats 2000000 in
set_option maxRecDepth 100000 in
theorem cFlip9_any (va : Value) (l : List UInt8) (at_ : Int) (b : Nat) (w : World) (ha : BytesAt w va l) (hl : l.length ≤ 1000000) (hb : b < 4294967296) (hat : -9223372036854775808 ≤ at_ ∧ at_ ≤ 9223372036854775807) :
    Calls Try.prog 13 #[va, .int .i64 at_, .int .u32 (b : Int)] w fun e w' => ∃ v, e = .returned v ∧ BytesAt w' v (flips at_ b l) ∧ Below w.heap.size w w' := by
  obtain ⟨i0, hi, hz0, hz1, hz2⟩ := info_parts info_byte
  have hmk := run_make (P := Try.prog) w 22 5 i0 (.int .u8 0) Try.underlying22 hi hz0 .i64 .i64 l.length l.length (by omega) (Int.le_refl _) (by rw [hz2]; omega) (by omega)
  rw [Int.toNat_natCast, hz1, Nat.mul_one] at hmk
  obtain ⟨X, hX⟩ : ∃ X, X = madeCells (Value.int .u8 0).cells l.length := ⟨_, rfl⟩
  rw [← hX] at hmk
  have hXs : X.toList.length = l.length := by rw [hX, Array.length_toList, size_madeCells]
  have HXS := Lib.hid hXs
  have HA := Lib.hid ha
  have HB0 := Lib.hid ((Below.refl w.heap.size w).alloc (Nat.le_refl _) (.cells X 5))
  have hg := heap_alloc_new w (.cells X 5)
  obtain ⟨a, c, rfl⟩ := RowsAt.form ha
  obtain ⟨F, r, hFr, hr, hF, hre⟩ : ∃ (F : Int) (r : Nat), at_ = 8 * F + r ∧ r < 8 ∧ at_ / 8 = F ∧ at_ % 8 = (r : Int) := ⟨at_ / 8, (at_ % 8).toNat, by omega, by omega, rfl, by omega⟩
  have hand := i64_and7 at_
  rw [hre] at hand
  have h7 : 2 ^ r ≤ 2 ^ 7 := Nat.pow_le_pow_right (by decide) (by omega)
  have hT : b * 2 ^ r < 2 ^ 39 := by
    have h4 : b * 2 ^ r ≤ b * 2 ^ 7 := Nat.mul_le_mul_left _ h7
    omega
  have HG := Lib.hid hg
  have HF := Lib.hid hFr
  have HR := Lib.hid hr
  have HBB := Lib.hid hb
  obtain ⟨T, hTe⟩ : ∃ T, b * 2 ^ r = T := ⟨_, rfl⟩
  rw [hTe] at hT
  have hwT : IntKind.u64.wrap ((b : Int) * 2 ^ r) = (T : Int) := by
    rw [← hTe, IntKind.wrap_u64]
    have : (((b * 2 ^ r : Nat) : Int)) = (b : Int) * 2 ^ r := by rw [Int.natCast_mul, Int.natCast_pow]; rfl
    omega
  have hQ1 := fun (i n : Nat) (h : (n : Int) = F + i) => flq_byte (b := b) (i := i) HF.out h
  have hQ2 := fun n h => flq_before (b := b) (n := n) HF.out h
  have hQ3 := fun n h => flq_behind (n := n) HF.out HR.out HBB.out h
  rw [hTe] at hQ1
  have hfl : flips at_ b l = bn9 (flx (flq at_ b) (nb9 l)) := rfl
  rw [hfl]
  have hnl := nb9_len l
  have hnb := nb9_byte l
  have hself := bn9_nb9 l
  generalize nb9 l = N at *
  generalize flq at_ b = Q at *
  have h0 : Laid9 Q N (F + (0 : Nat)) N := Laid9.start fun j hj => hQ2 j (by omega)
  have HQ1 := Lib.hid hQ1
  have HQ3 := Lib.hid hQ3
  have HNB := Lib.hid hnb
  have HNL := Lib.hid hnl
  have H0 := Lib.hid h0
  have HSELF := Lib.hid hself
  have f1 : -1152921504606846976 ≤ F := by omega
  have f2 : F ≤ 1152921504606846975 := by omega
  clear ha hX hXs hg hFr h7 hTe hQ1 hQ2 hQ3 hfl hnl hnb hself h0
  go_enter Try.func13, Try.ntmps13
  go_wp2_with (refine wpList_copy_splice rfl _ _ 22 22 rfl 5 Try.underlying22 (by kernel_rfl) _ _ _ _ _ _ rfl rfl w.heap.size 0 X.toList 5 HG.out (flats csB l) (by rw [flats_length csB_len, Nat.mul_one]; simp) (copied HA.out HB0.out) (by rw [HXS.out, flats_length csB_len]; omega) (flats_one l) w.heap.size w HB0.out (Nat.le_refl _) ?_; intro w2 HG2 hB2)
  have hown : OwnB w2 w.heap.size (.slice (some ⟨w.heap.size, 0, none⟩) l.length l.length) l := own_copy HXS.out HG2.out (by unfold maxLen; omega)
  have HO := Lib.hid hown
  have HB2 := Lib.hid hB2
  clear HG2 hB2 hown
  go_wp2
  go_loopw [10, 11, 25] (fun _ _ i wr => ∃ k : Nat, k ≤ 5 ∧ i = .int .i64 k ∧ ∃ L, OwnB wr w.heap.size (.slice (some ⟨w.heap.size, 0, none⟩) l.length l.length) (bn9 L) ∧ Laid9 Q N (F + k) L ∧ Below w.heap.size w wr) (fun _ _ i _ => 5 - (intOf i).toNat)
  case atStart => exact ⟨0, by omega, rfl, N, by rw [HSELF.out]; exact HO.out, H0.out, HB2.out⟩
  case round =>
    clear HO HB2 H0 HA HG HXS HB0
    obtain ⟨k, hk, rfl, L, hown, hlaid, hB⟩ := hrel
    have hLl := hlaid.1
    have hbl : (bn9 L).length = l.length := by unfold bn9; rw [List.length_map]; have := HNL.out; omega
    by_cases hlt : k < 5
    · have k0 : (0 : Int) ≤ (k : Int) := by omega
      have k1 : (k : Int) < 5 := by omega
      have hnext : F + ((k + 1 : Nat) : Int) = F + k + 1 := by omega
      by_cases hout : F + k < 0 ∨ (l.length : Int) ≤ F + k
      · have hs := hlaid.skip (p := F + k) (by have := HNL.out; omega)
        rw [← hnext] at hs
        have HS := Lib.hid hs
        have HO := Lib.hid hown
        clear hs hown hlaid hnext
        rcases hout with h1 | h1
        all_goals
          go_wp2
          go_roundw
          case rel => exact ⟨k + 1, by omega, by go_num, L, HO.out, HS.out, hB⟩
          case measure => simp [intOf] <;> omega
      · obtain ⟨J, hJ⟩ : ∃ J : Nat, F + k = J := ⟨(F + k).toNat, by omega⟩
        have hJl : J < l.length := by omega
        have hJL : J < L.length := by have := HNL.out; omega
        have hq := HQ1.out k J (by omega)
        have hput := hlaid
        rw [hJ] at hput
        replace hput := hput.put hJL
        rw [← hJ, ← hnext] at hput
        have hbyte := hlaid.byte HNB.out
        have hx256 := hbyte _ (List.getElem_mem hJL)
        have HB0 := Lib.hid hB
        obtain ⟨g, cap, e, hBg, hcap, hfr⟩ := hown.some (by omega)
        rw [hbl] at e
        cases e
        obtain ⟨g', o', c', e, _, _, p0⟩ := hown.bytes.at J (by omega)
        rw [hbl] at e
        cases e
        have hval : ((bn9 L)[J]'(by omega)).toNat = L[J] := by
          simp only [bn9, List.getElem_map]
          rw [UInt8.toNat_ofNat']
          omega
        rw [hval, Nat.zero_add] at p0
        rw [hq] at hput
        have hzT : T / 2 ^ (8 * k) ≤ T := Nat.div_le_self _ _
        have hsh : (T : Int) / 2 ^ (8 * k) = ((T / 2 ^ (8 * k) : Nat) : Int) := by rw [Int.natCast_ediv, Int.natCast_pow]; rfl
        generalize T / 2 ^ (8 * k) = z at *
        have hxor : bits .xor .u8 (L[J] : Int) ((z : Int) % 256) = ((L[J] ^^^ z % 256 : Nat) : Int) := by
          have := u8_xor_nat L[J] (z % 256) hx256 (by omega)
          rwa [show ((z % 256 : Nat) : Int) = (z : Int) % 256 by omega] at this
        have hxl : L[J] ^^^ z % 256 < 256 := Nat.xor_lt_two_pow (n := 8) hx256 (by omega)
        generalize hx : L[J] = x at *
        generalize hm : x ^^^ z % 256 = m at *
        have J0 : (0 : Int) ≤ (J : Int) := by omega
        have J1 : (J : Int) < (l.length : Int) := by omega
        have z1 : (z : Int) ≤ 18446744073709551615 := by omega
        have x1 : (x : Int) ≤ 255 := by omega
        have k8 : (8 : Int) * (k : Int) ≤ 40 := by omega
        have HPUT := Lib.hid hput
        have HOWN := Lib.hid hown
        have HXL := Lib.hid hxl
        have HBL := Lib.hid hbl
        have hf0 : ¬ (F + (k : Int) < 0) := by omega
        clear hput hown hlaid hnext hfr hbyte hx256 hval hq hzT hx hm hxl hbl hB
        go_wp2
        refine wp_region_calmT 11 (by kernel_rfl) (by simp) (by kernel_rfl) fun M => ?_
        simp only [List.take_succ_cons, List.take_zero, List.drop_succ_cons, List.drop_zero]
        have e0 := fun n : In M.w => n.cell (M.cell p0)
        repeat (go_big_quiet_step (fail))
        refine wpQuiet_nil ?_
        intro w3 hb3
        have hB3 := HB0.out.trans (hb3.mono HB0.out.size)
        have hown : OwnB w3 w.heap.size (.slice (some ⟨w.heap.size, 0, none⟩) l.length l.length) (bn9 L) := HOWN.out.kept hb3
        obtain ⟨g', cap', e, _, _, hfr⟩ := hown.some (by rw [HBL.out]; omega)
        rw [HBL.out] at e
        cases e
        have z0 := hfr J
        have q0 := (hb3.cell (World.block_lt_of_cell? _ _ p0)).trans p0
        have hput := OwnB.put hown J (by rw [HBL.out]; omega) (UInt8.ofNat m)
        have hset : (bn9 L).set J (UInt8.ofNat m) = bn9 (L.set J m) := by unfold bn9; rw [List.map_set]
        have hm : (UInt8.ofNat m).toNat = m := by have := HXL.out; rw [UInt8.toNat_ofNat']; omega
        rw [hset, hm] at hput
        have hB4 := hB3.setCell (p := ⟨w.heap.size, J, none⟩) hBg (.int .u8 (m : Int))
        have HP2 := Lib.hid hput
        clear e0 M p0 hown hfr hput hb3 HOWN hset hm hB3
        go_wp2
        go_roundw
        case rel => exact ⟨k + 1, by omega, by go_num, L.set J m, HP2.out, HPUT.out, hB4⟩
        case measure => simp [intOf] <;> omega
    · have hke : k = 5 := by omega
      subst hke
      have hall := hlaid.all fun j hj => by rw [HQ3.out j hj]
      subst hall
      have HO := Lib.hid hown.bytes
      clear hown hlaid hlt hk
      go_wp2
      go_ret
      exact ⟨_, rfl, HO.out, hB⟩
end Go.Proofs.Ytapdndldfgnhdaa
