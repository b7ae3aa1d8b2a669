/- slices.SortStableFunc at structs: what turns and what puts in. Written by wip/tools/gen_stab.py. -/
import Derived.Test.YtoepodjpempcdaaSymA
namespace Go.Proofs.Ytoepodjpempcdaa
open Go.RowKit Go.Shelf Go.Lib Go.Sort

set_option maxHeartbeats 4000000 in
set_option maxRecDepth 1000000 in
theorem sSwapRange_z {α : Type} [Inhabited α] (T S : TypeId) (hT : 23 = T) (hS : 28 = S) (K : Nat) (ty : TyK Try.prog T S K) (enc : α → List Value) (f : Value) (blk off cap len a b n : Nat) (az bz nz : Int) (d0 d : Array α) (w0 w : World) (A U M V Z : List α) (ha' : az = a) (hb' : bz = b) (hn' : nz = n) (hlen : d.size = len)
    (R : RowK enc K w0 blk off d0) (hs : d0.size = len) (W : SWB enc K w0 blk off d w) (hd : d.toList = A ++ (U ++ (M ++ (V ++ Z)))) (ha : a = A.length) (hu : U.length = n) (hv : V.length = n) (hb : b = a + n + M.length) (hsz : len < 4611686018427387904) :
    Calls Try.prog 47 #[.slice (some ⟨blk, off, none⟩) len cap, .int .i64 az, .int .i64 bz, .int .i64 nz, f] w fun e w' => e = .returned (.tuple #[]) ∧ ∃ d', d'.toList = A ++ (V ++ (M ++ (U ++ Z))) ∧ Aside (SWB enc K w0 blk off d' w') := by
  subst ha' hb' hn' hlen
  exact sSwapRange_any T S hT hS K ty enc f blk off cap a b n d0 d w0 w A U M V Z R hs W hd ha hu hv hb hsz

set_option maxHeartbeats 4000000 in
set_option maxRecDepth 1000000 in
theorem sRotate_any {α : Type} [Inhabited α] (T S : TypeId) (hT : 23 = T) (hS : 28 = S) (K : Nat) (ty : TyK Try.prog T S K) (enc : α → List Value) (f : Value) (blk off cap len a m b : Nat) (az mz bz : Int) (d0 d : Array α) (w0 w : World) (X U V Y : List α) (ha' : az = a) (hm' : mz = m) (hb' : bz = b) (hlen : d.size = len)
    (R : RowK enc K w0 blk off d0) (hs : d0.size = len) (W : SWB enc K w0 blk off d w) (hd : d.toList = X ++ (U ++ (V ++ Y))) (ha : a = X.length) (hm : m = a + U.length) (hb : b = m + V.length) (hu : 0 < U.length) (hv : 0 < V.length) (hsz : len < 4611686018427387904) :
    Calls Try.prog 46 #[.slice (some ⟨blk, off, none⟩) len cap, .int .i64 az, .int .i64 mz, .int .i64 bz, f] w fun e w' => e = .returned (.tuple #[]) ∧ ∃ d', d'.toList = X ++ (V ++ (U ++ Y)) ∧ Aside (SWB enc K w0 blk off d' w') := by
  subst ha' hm' hb'
  have HT : Aside (23 = T) := hT
  have HS : Aside (28 = S) := hS
  have TY : Aside (TyK Try.prog T S K) := ty
  have hbl : b ≤ len := by rw [← hlen, size_split hd]; simp; omega
  have HL : Aside (∃ P U' V' Q, d.toList = P ++ (U' ++ (V' ++ Q)) ∧ P.length + (m - a) = m ∧ U'.length = m - a ∧ V'.length = b - m ∧ P ++ (V' ++ (U' ++ Q)) = X ++ (V ++ (U ++ Y))) := ⟨X, U, V, Y, hd, by omega, by omega, by omega, rfl⟩
  have h1 : a < m := by omega
  have h2 : m < b := by omega
  have S0 : Aside (SWB enc K w0 blk off d w) := W
  have q1 : IntKind.i64.wrap ((m : Int) - a) = m - a := by rw [IntKind.wrap_i64]; omega
  have q2 : IntKind.i64.wrap ((b : Int) - m) = b - m := by rw [IntKind.wrap_i64]; omega
  clear W hd ha hm hb hu hv ty
  go_enter Try.func46, Try.ntmps46
  clear hT hS
  go_wp2
  go_loopg [10, 11] (b - a) (fun kx s10 s11 wr => ∃ (i j : Nat) (dk : Array α), s10 = .int .i64 i ∧ s11 = .int .i64 j ∧ 0 < i ∧ 0 < j ∧ i ≤ m ∧ m + j ≤ b ∧ i + j ≤ kx ∧ dk.size = len ∧ Aside (SWB enc K w0 blk off dk wr) ∧
    Aside (∃ P U' V' Q, dk.toList = P ++ (U' ++ (V' ++ Q)) ∧ P.length + i = m ∧ U'.length = i ∧ V'.length = j ∧ P ++ (V' ++ (U' ++ Q)) = X ++ (V ++ (U ++ Y))))
  case atStart => exact ⟨m - a, b - m, d, by simp; omega, by simp; omega, by omega, by omega, by omega, by omega, by omega, hlen, S0, HL⟩
  case round =>
    clear S0 HL q1 q2
    obtain ⟨i, j, dk, rfl, rfl, hi, hj, him, hjb, hkx, hds, S1, HL⟩ := hrel
    obtain ⟨P, U', V', Q, l1, l2, l3, l4, l5⟩ := HL.out
    clear HL
    have q1 : IntKind.i64.wrap ((m : Int) - i) = m - i := by rw [IntKind.wrap_i64]; omega
    by_cases hne : i = j
    · subst hne
      have HC := sSwapRange_z T S HT.out HS.out K TY.out enc f blk off cap len (m - i) m i ((m : Int) - i) m i d0 dk w0 wr P U' [] V' Q (by omega) rfl rfl hds R hs S1.out (by simpa using l1) (by omega) l3 l4 (by simp; omega) hsz
      have L5 : Aside _ := l5
      clear l1 l2 l3 l4 l5 S1
      go_wp2_with (go_at_call 47; refine HC.mono ?_; rintro e w' ⟨rfl, d', e1, S2⟩)
      go_end0
      exact ⟨rfl, d', by rw [e1]; simpa using L5.out, S2⟩
    · have hb1 : ((i : Int) != (j : Int)) = true := by simp; omega
      by_cases hgt : j < i
      · have hg : (j : Int) < (i : Int) := by omega
        obtain ⟨k1, k2, k3, k4, k5⟩ := rot_big (P := P) (V := V') (Q := Q) (j := j) l3 hgt
        have HC := sSwapRange_z T S HT.out HS.out K TY.out enc f blk off cap len (m - i) m j ((m : Int) - i) m j d0 dk w0 wr P (U'.take j) (U'.drop j) V' Q (by omega) rfl rfl hds R hs S1.out (by rw [l1, k1]) (by omega) k2 l4 (by omega) hsz
        have q2 : IntKind.i64.wrap ((i : Int) - j) = i - j := by rw [IntKind.wrap_i64]; omega
        have LL : Aside (∀ dx : Array α, dx.toList = P ++ (V' ++ (U'.drop j ++ (U'.take j ++ Q))) → ∃ P' Ux Vx Q', dx.toList = P' ++ (Ux ++ (Vx ++ Q')) ∧ P'.length + (i - j) = m ∧ Ux.length = i - j ∧ Vx.length = j ∧ P' ++ (Vx ++ (Ux ++ Q')) = X ++ (V ++ (U ++ Y))) :=
          fun dx hx => ⟨P ++ V', U'.drop j, U'.take j, Q, by rw [hx, k4], by simp; omega, k3, k2, by rw [k5, l5]⟩
        have ZZ : Aside (dk.toList.length = (P ++ (V' ++ (U'.drop j ++ (U'.take j ++ Q)))).length) := by rw [l1]; show _ = _; simp; omega
        clear l1 l2 l3 l4 l5 S1 k1 k2 k3 k4 k5
        go_wp2_with (go_at_call 47; refine HC.mono ?_; rintro e w' ⟨rfl, d', e1, S2⟩; have E1 : Aside _ := e1; clear e1)
        go_roundg (i - j + j)
        case measure => omega
        case rel => exact ⟨i - j, j, d', by go_num, rfl, by omega, hj, by omega, hjb, Nat.le_refl _, by rw [size_split E1.out, ← ZZ.out]; simpa using hds, S2, LL.out d' E1.out⟩
      · have hlt : i < j := by omega
        have hg : ¬ (j : Int) < (i : Int) := by omega
        obtain ⟨k1, k2, k3, k4⟩ := rot_small (P := P) (U := U') (Q := Q) l3 l4 hlt
        have HC := sSwapRange_z T S HT.out HS.out K TY.out enc f blk off cap len (m - i) (m + j - i) i ((m : Int) - i) ((m : Int) + j - i) i d0 dk w0 wr P U' (V'.take (j - i)) (V'.drop (j - i)) Q (by omega) (by omega) rfl hds R hs S1.out (by rw [l1, k1]) (by omega) l3 k3 (by omega) hsz
        have q2 : IntKind.i64.wrap ((j : Int) - i) = j - i := by rw [IntKind.wrap_i64]; omega
        have q3 : IntKind.i64.wrap ((m : Int) + j) = m + j := by rw [IntKind.wrap_i64]; omega
        have q4 : IntKind.i64.wrap ((m : Int) + j - i) = m + j - i := by rw [IntKind.wrap_i64]; omega
        have LL : Aside (∀ dx : Array α, dx.toList = P ++ (V'.drop (j - i) ++ (V'.take (j - i) ++ (U' ++ Q))) → ∃ P' Ux Vx Q', dx.toList = P' ++ (Ux ++ (Vx ++ Q')) ∧ P'.length + i = m ∧ Ux.length = i ∧ Vx.length = j - i ∧ P' ++ (Vx ++ (Ux ++ Q')) = X ++ (V ++ (U ++ Y))) :=
          fun dx hx => ⟨P, V'.drop (j - i), V'.take (j - i), U' ++ Q, hx, l2, k3, k2, by rw [k4, l5]⟩
        have ZZ : Aside (dk.toList.length = (P ++ (V'.drop (j - i) ++ (V'.take (j - i) ++ (U' ++ Q)))).length) := by rw [l1]; show _ = _; simp; omega
        clear l1 l2 l3 l4 l5 S1 k1 k2 k3 k4
        go_wp2_with (go_at_call 47; refine HC.mono ?_; rintro e w' ⟨rfl, d', e1, S2⟩; have E1 : Aside _ := e1; clear e1)
        go_roundg (i + (j - i))
        case measure => omega
        case rel => exact ⟨i, j - i, d', rfl, by go_num, hi, by omega, him, by omega, Nat.le_refl _, by rw [size_split E1.out, ← ZZ.out]; simpa using hds, S2, LL.out d' E1.out⟩
end Go.Proofs.Ytoepodjpempcdaa
