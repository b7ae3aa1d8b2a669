/- slices.SortStableFunc at structs: merging in place. Written by wip/tools/gen_stab.py. -/
import Derived.Test.YtoepodjpempcdaaSymC
import Derived.Test.YtoepodjpempcdaaStabMathB
import Derived.Deep.DeepCutAuto
import Derived.Laws.Shifts
namespace Go.Proofs.Ytoepodjpempcdaa
open Go.RowKit Go.Shelf Go.Lib Go.Sort

theorem wrap_u64_id {n : Int} (h : 0 ≤ n) (h2 : n < 18446744073709551616) : IntKind.u64.wrap n = n := by
  simp [IntKind.wrap, IntKind.bits, IntKind.signed]; omega
set_option maxHeartbeats 4000000 in
set_option maxRecDepth 1000000 in
theorem sSym_one {α : Type} [Inhabited α] (T S : TypeId) (hT : 23 = T) (hS : 28 = S) (K : Nat) (ty : TyK Try.prog T S K) (enc : α → List Value) (cf : α → α → Int) (hO : SWO (ltOf cf)) (g : Nat) (fi ca : Array Value) (eg : ∀ args w, (callFunc g args).run Try.prog w = .ok (.enter g args) w) (blk off cap len a m b : Nat) (az mz bz : Int) (d0 d : Array α) (w0 w : World) (X U V Y : List α) (ha' : az = a) (hm' : mz = m) (hb' : bz = b) (hlen : d.size = len) (W : SWB enc K w0 blk off d w) (hd : d.toList = X ++ (U ++ (V ++ Y))) (ha : a = X.length) (hm : m = a + U.length) (hb : b = m + V.length)
    (hcmp : CmpF Try.prog g fi ca enc K cf blk off len w0) (R : RowK enc K w0 blk off d0) (hs : d0.size = len) (hU1 : U.length = 1) (hV1 : 0 < V.length) (hV : Ord (ltOf cf) V) (hsz : len < 4611686018427387904) :
    Calls Try.prog 45 #[.slice (some ⟨blk, off, none⟩) len cap, .int .i64 az, .int .i64 mz, .int .i64 bz, .func (.func g) fi ca] w fun e w' => e = .returned (.tuple #[]) ∧ ∃ d' Z, d'.toList = X ++ (Z ++ Y) ∧ Z.Perm (U ++ V) ∧ Ord (ltOf cf) Z ∧ d'.size = len ∧ Aside (SWB enc K w0 blk off d' w') := by
  subst ha' hm' hb'
  obtain ⟨tA, tZ, tS⟩ := ty
  have tU := run_underlying tS
  have mixed : Try.prog.follows .mixedOrders = true := by kernel_rfl
  have HC : Aside _ := hcmp
  obtain ⟨x, rfl⟩ := List.length_eq_one_iff.1 hU1
  have hbl : b ≤ len := by rw [← hlen, size_split hd]; simp; omega
  have hma0 : m = a + 1 := by simpa using hm
  have hmb : m < b := by omega
  have hxa : d[a]! = x := get_split (A := X) (C := V ++ Y) (by simpa using hd) ha
  have hd2 : d.toList = (X ++ [x]) ++ (V ++ Y) := by rw [hd]; simp
  have MM : Aside (Mono (fun c => ltOf cf d[c]! d[a]!) m b) := mono1 hO hd2 hV _ (by simp; omega) hb
  have H0 : Aside (d.toList = X ++ ([x] ++ (V ++ Y)) ∧ a = X.length ∧ b = m + V.length ∧ Ord (ltOf cf) V ∧ d[a]! = x) := ⟨hd, ha, hb, hV, hxa⟩
  have S0 : Aside (SWB enc K w0 blk off d w) := W
  have hda : d.size = len := hlen
  have q0 : IntKind.i64.wrap ((m : Int) - (a : Int)) = (m : Int) - (a : Int) := by rw [IntKind.wrap_i64]; omega
  have q1 : ((m : Int) - (a : Int) == 1) = true := by simp; omega
  have ham : a < m := by omega
  have hma : Aside (m = a + 1) := hma0
  have B0 : Aside (BS (fun c => ltOf cf d[c]! d[a]!) m b m b) := BS.start _ (by omega)
  clear W hd ha hb hm hcmp hlen hV hxa hd2 hU1 hV1 hma0
  go_enter Try.func45, Try.ntmps45
  simp only [load_T hT, store_T hT, index_T hS]
  clear hT hS
  go_wp2
  go_loopg [10, 11] (b - m) (fun kx s10 s11 wr => ∃ (i j : Nat), s10 = .int .i64 i ∧ s11 = .int .i64 j ∧ m ≤ i ∧ i ≤ j ∧ j ≤ b ∧ j - i ≤ kx ∧ Aside (SWB enc K w0 blk off d wr) ∧ Aside (BS (fun c => ltOf cf d[c]! d[a]!) m b i j))
  case atStart => exact ⟨m, b, rfl, rfl, by omega, by omega, by omega, by omega, S0, B0⟩
  case round =>
    clear S0 B0 q0 q1
    obtain ⟨i, j, rfl, rfl, hmi, hij, hjb, hkx, S1, B1⟩ := hrel
    by_cases hlt : i < j
    · obtain ⟨h, hh⟩ : ∃ h, h = (i + j) / 2 := ⟨_, rfl⟩
      have hh1 : i ≤ h ∧ h < j := by omega
      have qa : IntKind.i64.wrap ((i : Int) + (j : Int)) = (i : Int) + (j : Int) := by rw [IntKind.wrap_i64]; omega
      have qb : IntKind.u64.wrap ((i : Int) + (j : Int)) = (i : Int) + (j : Int) := wrap_u64_id (by omega) (by omega)
      have qc : ((i : Int) + (j : Int)) / 2 = (h : Int) := by omega
      have qd : IntKind.i64.wrap (h : Int) = (h : Int) := by rw [IntKind.wrap_i64]; omega
      have hijz : (i : Int) < (j : Int) := by omega
      clear hh
      cases hL : ltOf cf d[h]! d[a]! with
      | true =>
        have ea4 : ((h : Int)).toNat = h := by omega
        have pa4 : (0 : Int) ≤ (h : Int) := by omega
        have ba4 : (h : Int) < (len : Int) := by omega
        have ra4 : IntKind.i64.wrap ((h : Int)) = (h : Int) := by rw [IntKind.wrap_i64]; omega
        have ec4 : ((a : Int)).toNat = a := by omega
        have pc4 : (0 : Int) ≤ (a : Int) := by omega
        have bc4 : (a : Int) < (len : Int) := by omega
        have rc4 : IntKind.i64.wrap ((a : Int)) = (a : Int) := by rw [IntKind.wrap_i64]; omega
        obtain ⟨x4, hx4⟩ : ∃ x, x = d[h]! := ⟨_, rfl⟩
        obtain ⟨y4, hy4⟩ : ∃ x, x = d[a]! := ⟨_, rfl⟩
        have L4 : Aside (∀ n : In wr, Sem.run Try.prog (loadCellsFrom ⟨blk, off + (h) * K, none⟩ 0 K #[]) n.w = .ok (enc x4).toArray n.w ∧ Sem.run Try.prog (loadCellsFrom ⟨blk, off + (a) * K, none⟩ 0 K #[]) n.w = .ok (enc y4).toArray n.w ∧ Calls Try.prog g (fi ++ (#[.agg (enc x4).toArray, .agg (enc y4).toArray] ++ ca)) n.w fun e w' => e = .returned (.int .i64 (cf x4 y4)) ∧ Below n.w.heap.size n.w w') := fun n => ⟨by rw [hx4]; exact (S1.out.at R n).load R Try.prog (h) (by omega), by rw [hy4]; exact (S1.out.at R n).load R Try.prog (a) (by omega), HC.out _ _ (S1.out.at R n) (by omega) x4 y4⟩
        have hv4 : cf x4 y4 < 0 := by rw [hx4, hy4]; exact of_decide_eq_true hL
        have hd4 : decide (cf x4 y4 < 0) = true := decide_eq_true hv4
        clear hx4 hy4
        go_wp2_with fail
        refine wp_region_calm0 (by kernel_rfl) (by kernel_rfl) fun M => ?_
        have l4a := fun n : In M.w => (L4.out (In.within (m := M) n)).1
        have l4b := fun n : In M.w => (L4.out (In.within (m := M) n)).2.1
        have hc4 := fun n : In M.w => (L4.out (In.within (m := M) n)).2.2
        simp only [In.within] at l4a l4b hc4
        repeat (go_big_quiet_step ((go_at_fn g; exact In.call (hc4 _))))
        refine wpQuiet_nil ?_
        intro w2 hb4
        have S2 : Aside (SWB enc K w0 blk off d w2) := S1.out.below R hb4
        clear L4 l4a l4b hc4 S1 hb4 M
        go_wp2
        go_roundg (j - (h + 1))
        case measure => omega
        case rel => exact ⟨h + 1, j, by go_num, rfl, by omega, by omega, hjb, Nat.le_refl _, S2, B1.out.up MM.out hh1.1 hh1.2 hL⟩
      | false =>
        have ea5 : ((h : Int)).toNat = h := by omega
        have pa5 : (0 : Int) ≤ (h : Int) := by omega
        have ba5 : (h : Int) < (len : Int) := by omega
        have ra5 : IntKind.i64.wrap ((h : Int)) = (h : Int) := by rw [IntKind.wrap_i64]; omega
        have ec5 : ((a : Int)).toNat = a := by omega
        have pc5 : (0 : Int) ≤ (a : Int) := by omega
        have bc5 : (a : Int) < (len : Int) := by omega
        have rc5 : IntKind.i64.wrap ((a : Int)) = (a : Int) := by rw [IntKind.wrap_i64]; omega
        obtain ⟨x5, hx5⟩ : ∃ x, x = d[h]! := ⟨_, rfl⟩
        obtain ⟨y5, hy5⟩ : ∃ x, x = d[a]! := ⟨_, rfl⟩
        have L5 : Aside (∀ n : In wr, Sem.run Try.prog (loadCellsFrom ⟨blk, off + (h) * K, none⟩ 0 K #[]) n.w = .ok (enc x5).toArray n.w ∧ Sem.run Try.prog (loadCellsFrom ⟨blk, off + (a) * K, none⟩ 0 K #[]) n.w = .ok (enc y5).toArray n.w ∧ Calls Try.prog g (fi ++ (#[.agg (enc x5).toArray, .agg (enc y5).toArray] ++ ca)) n.w fun e w' => e = .returned (.int .i64 (cf x5 y5)) ∧ Below n.w.heap.size n.w w') := fun n => ⟨by rw [hx5]; exact (S1.out.at R n).load R Try.prog (h) (by omega), by rw [hy5]; exact (S1.out.at R n).load R Try.prog (a) (by omega), HC.out _ _ (S1.out.at R n) (by omega) x5 y5⟩
        have hv5 : ¬ cf x5 y5 < 0 := by rw [hx5, hy5]; exact of_decide_eq_false hL
        have hd5 : decide (cf x5 y5 < 0) = false := decide_eq_false hv5
        clear hx5 hy5
        go_wp2_with fail
        refine wp_region_calm0 (by kernel_rfl) (by kernel_rfl) fun M => ?_
        have l5a := fun n : In M.w => (L5.out (In.within (m := M) n)).1
        have l5b := fun n : In M.w => (L5.out (In.within (m := M) n)).2.1
        have hc5 := fun n : In M.w => (L5.out (In.within (m := M) n)).2.2
        simp only [In.within] at l5a l5b hc5
        repeat (go_big_quiet_step ((go_at_fn g; exact In.call (hc5 _))))
        refine wpQuiet_nil ?_
        intro w2 hb5
        have S2 : Aside (SWB enc K w0 blk off d w2) := S1.out.below R hb5
        clear L5 l5a l5b hc5 S1 hb5 M
        go_wp2
        go_roundg (h - i)
        case measure => omega
        case rel => exact ⟨i, h, rfl, rfl, by omega, hh1.1, by omega, Nat.le_refl _, S2, B1.out.dn MM.out hh1.1 hh1.2 hL⟩
    · have hijz : ¬ (i : Int) < (j : Int) := by omega
      have : i = j := by omega
      subst this
      obtain ⟨t, rfl⟩ : ∃ t, i = m + t := ⟨i - m, by omega⟩
      have HV : Aside (LeA (ltOf cf) (V.take t) [x] ∧ LeA (ltOf cf) [x] (V.drop t) ∧ t ≤ V.length) := by
        obtain ⟨e0, e1, e2, e3, e4⟩ := H0.out
        obtain ⟨b1, b2, b3, b4, b5⟩ := B1.out
        have e5 : d.toList = (X ++ [x]) ++ (V ++ Y) := by rw [e0]; simp
        have e6 := hma.out
        refine ⟨LeA.of_gt hO ?_, ?_, by omega⟩
        · exact take_all (m := m) e5 (by simp; omega) (fun c h1 h2 => by have := b4 c (by omega) h2; simp only at this; rw [e4] at this; exact this)
        · intro z hz v hv
          rw [List.mem_singleton.1 hz]
          exact drop_all (Q := fun v => ltOf cf v x = false) (m := m) e5 (by simp; omega) (fun c h1 h2 => by have := b5 c (by omega) (by omega); simp only at this; rw [e4] at this; exact this) v hv
      have HL : Aside (d.toList = X ++ (V.take 0 ++ x :: (V.drop 0 ++ Y))) := by rw [H0.out.1]; show _ = _; simp
      have hda2 : d.size = len := hda
      have qs : IntKind.i64.wrap ((m : Int) + (t : Int) - 1) = (m : Int) + (t : Int) - 1 := by rw [IntKind.wrap_i64]; omega
      have hme := hma.out
      have hmt : m + t ≤ b := by omega
      have HME : Aside (m = a + 1) := hme
      clear hme B1 MM hij hkx hda
      go_wp2
      go_loopg [13] t (fun kx s13 wr2 => ∃ (s : Nat) (dk : Array α), s13 = .int .i64 ((a + s : Nat) : Int) ∧ s ≤ t ∧ t - s ≤ kx ∧ dk.size = len ∧ Aside (SWB enc K w0 blk off dk wr2) ∧ Aside (dk.toList = X ++ (V.take s ++ x :: (V.drop s ++ Y))))
      case atStart => exact ⟨0, d, by simp, by omega, by omega, hda2, S1, HL⟩
      case round =>
        clear S1 HL
        obtain ⟨s, dk, rfl, hst, hkx, hds, S1, HL⟩ := hrel
        obtain ⟨k, hk⟩ : ∃ k, k = a + s := ⟨_, rfl⟩
        rw [← hk]
        by_cases hlt : s < t
        · have hkz : (k : Int) < (m : Int) + (t : Int) - 1 := by have := HME.out; omega
          have hkl : k + 1 < len := by have := HME.out; omega
          have HK : Aside (k = a + s) := hk
          clear hk
          go_wp2_with fail
          have ea7 : ((k : Int)).toNat = k := by omega
          have pa7 : (0 : Int) ≤ (k : Int) := by omega
          have ba7 : (k : Int) < (len : Int) := by omega
          have ra7 : IntKind.i64.wrap ((k : Int)) = (k : Int) := by rw [IntKind.wrap_i64]; omega
          have ec7 : ((k : Int) + 1).toNat = k + 1 := by omega
          have pc7 : (0 : Int) ≤ (k : Int) + 1 := by omega
          have bc7 : (k : Int) + 1 < (len : Int) := by omega
          have rc7 : IntKind.i64.wrap ((k : Int) + 1) = (k : Int) + 1 := by rw [IntKind.wrap_i64]; omega
          have S2 : Aside (SWB enc K w0 blk off (swp dk (k) (k + 1)) ((wr.drew.setCells blk (off + (k) * K) (enc dk[k + 1]!)).setCells blk (off + (k + 1) * K) (enc dk[k]!))) := S1.out.swapped R (k) (k + 1) (by omega) (by omega)
          have l7a := S1.out.ld1 R (by omega) Try.prog (k) (by omega)
          have l7b := S1.out.ld1 R (by omega) Try.prog (k + 1) (by omega)
          have s7a := S1.out.st1 R (by omega) Try.prog (k) (by omega) dk[k + 1]!
          have s7b := S1.out.st2 R (by omega) Try.prog (k) (k + 1) (by omega) (by omega) dk[k + 1]! dk[k]!
          have n7a : (enc dk[k]!).length = K := R.hk _
          have n7b : (enc dk[k + 1]!).length = K := R.hk _
          generalize enc dk[k]! = cI7 at S2 l7a s7b n7a
          generalize enc dk[k + 1]! = cJ7 at S2 l7b s7a s7b n7b
          clear S1
          go_wp2_with fail
          go_big_region_o
          clear l7a l7b s7a s7b
          generalize (wr.drew.setCells blk (off + (k) * K) cJ7).setCells blk (off + (k + 1) * K) cI7 = w2 at S2 ⊢
          go_wp2
          go_roundg (t - (s + 1))
          case measure => omega
          case rel =>
            have HK' := HK.out
            exact ⟨s + 1, swp dk k (k + 1), by rw [HK']; go_num, hlt, Nat.le_refl _, by rw [size_swp]; exact hds, S2, bub_up HL.out (by have := HV.out.2.2; omega) (by rw [HK', H0.out.2.1])⟩
        · have hkz : ¬ (k : Int) < (m : Int) + (t : Int) - 1 := by have := HME.out; omega
          have : s = t := by omega
          subst this
          clear hk
          go_wp2
          obtain ⟨v1, v2, v3⟩ := HV.out
          refine bodyPost_ret (v := .tuple #[]) (by simp [results, Try.results45, go_sem]) rfl ?_
          refine ⟨rfl, dk, V.take s ++ x :: V.drop s, by rw [HL.out]; simp only [List.append_assoc, List.cons_append], ?_, ?_, hds, S1⟩
          · refine List.perm_middle.trans ?_
            rw [List.take_append_drop]
          · exact Ord.mid (by rw [List.take_append_drop]; exact H0.out.2.2.2.1) v1 v2
set_option maxHeartbeats 4000000 in
set_option maxRecDepth 1000000 in
theorem sSym_last {α : Type} [Inhabited α] (T S : TypeId) (hT : 23 = T) (hS : 28 = S) (K : Nat) (ty : TyK Try.prog T S K) (enc : α → List Value) (cf : α → α → Int) (hO : SWO (ltOf cf)) (g : Nat) (fi ca : Array Value) (eg : ∀ args w, (callFunc g args).run Try.prog w = .ok (.enter g args) w) (blk off cap len a m b : Nat) (az mz bz : Int) (d0 d : Array α) (w0 w : World) (X U V Y : List α) (ha' : az = a) (hm' : mz = m) (hb' : bz = b) (hlen : d.size = len) (W : SWB enc K w0 blk off d w) (hd : d.toList = X ++ (U ++ (V ++ Y))) (ha : a = X.length) (hm : m = a + U.length) (hb : b = m + V.length)
    (hcmp : CmpF Try.prog g fi ca enc K cf blk off len w0) (R : RowK enc K w0 blk off d0) (hs : d0.size = len) (hU1 : 1 < U.length) (hV1 : V.length = 1) (hU : Ord (ltOf cf) U) (hsz : len < 4611686018427387904) :
    Calls Try.prog 45 #[.slice (some ⟨blk, off, none⟩) len cap, .int .i64 az, .int .i64 mz, .int .i64 bz, .func (.func g) fi ca] w fun e w' => e = .returned (.tuple #[]) ∧ ∃ d' Z, d'.toList = X ++ (Z ++ Y) ∧ Z.Perm (U ++ V) ∧ Ord (ltOf cf) Z ∧ d'.size = len ∧ Aside (SWB enc K w0 blk off d' w') := by
  subst ha' hm' hb'
  obtain ⟨tA, tZ, tS⟩ := ty
  have tU := run_underlying tS
  have mixed : Try.prog.follows .mixedOrders = true := by kernel_rfl
  have HC : Aside _ := hcmp
  obtain ⟨y, rfl⟩ := List.length_eq_one_iff.1 hV1
  have hbl : b ≤ len := by rw [← hlen, size_split hd]; simp; omega
  have hbm : b = m + 1 := by simpa using hb
  have ham : a + 1 < m := by omega
  have hxa : d[m]! = y := get_split (A := X ++ U) (C := Y) (by rw [hd]; simp) (by simp; omega)
  have MM : Aside (Mono (fun c => !(ltOf cf d[m]! d[c]!)) a m) := mono2 hO hd hU _ ha hm
  have H0 : Aside (d.toList = X ++ (U ++ ([y] ++ Y)) ∧ a = X.length ∧ m = a + U.length ∧ Ord (ltOf cf) U ∧ d[m]! = y) := ⟨hd, ha, hm, hU, hxa⟩
  have S0 : Aside (SWB enc K w0 blk off d w) := W
  have hda : d.size = len := hlen
  have q0 : IntKind.i64.wrap ((m : Int) - (a : Int)) = (m : Int) - (a : Int) := by rw [IntKind.wrap_i64]; omega
  have q1 : ((m : Int) - (a : Int) == 1) = false := by simp; omega
  have q2 : IntKind.i64.wrap ((b : Int) - (m : Int)) = (b : Int) - (m : Int) := by rw [IntKind.wrap_i64]; omega
  have q3 : ((b : Int) - (m : Int) == 1) = true := by simp; omega
  have B0 : Aside (BS (fun c => !(ltOf cf d[m]! d[c]!)) a m a m) := BS.start _ (by omega)
  have hmb : m < b := by omega
  clear W hd ha hb hm hcmp hlen hU hxa hU1 hV1 hbm
  go_enter Try.func45, Try.ntmps45
  simp only [load_T hT, store_T hT, index_T hS]
  clear hT hS
  go_wp2
  go_loopg [14, 15] (m - a) (fun kx s10 s11 wr => ∃ (i j : Nat), s10 = .int .i64 i ∧ s11 = .int .i64 j ∧ a ≤ i ∧ i ≤ j ∧ j ≤ m ∧ j - i ≤ kx ∧ Aside (SWB enc K w0 blk off d wr) ∧ Aside (BS (fun c => !(ltOf cf d[m]! d[c]!)) a m i j))
  case atStart => exact ⟨a, m, rfl, rfl, by omega, by omega, by omega, by omega, S0, B0⟩
  case round =>
    clear S0 B0 q0 q1 q2 q3
    obtain ⟨i, j, rfl, rfl, hmi, hij, hjb, hkx, S1, B1⟩ := hrel
    by_cases hlt : i < j
    · obtain ⟨h, hh⟩ : ∃ h, h = (i + j) / 2 := ⟨_, rfl⟩
      have hh1 : i ≤ h ∧ h < j := by omega
      have qa : IntKind.i64.wrap ((i : Int) + (j : Int)) = (i : Int) + (j : Int) := by rw [IntKind.wrap_i64]; omega
      have qb : IntKind.u64.wrap ((i : Int) + (j : Int)) = (i : Int) + (j : Int) := wrap_u64_id (by omega) (by omega)
      have qc : ((i : Int) + (j : Int)) / 2 = (h : Int) := by omega
      have qd : IntKind.i64.wrap (h : Int) = (h : Int) := by rw [IntKind.wrap_i64]; omega
      have hijz : (i : Int) < (j : Int) := by omega
      clear hh
      cases hL : ltOf cf d[m]! d[h]! with
      | true =>
        have ea4 : ((m : Int)).toNat = m := by omega
        have pa4 : (0 : Int) ≤ (m : Int) := by omega
        have ba4 : (m : Int) < (len : Int) := by omega
        have ra4 : IntKind.i64.wrap ((m : Int)) = (m : Int) := by rw [IntKind.wrap_i64]; omega
        have ec4 : ((h : Int)).toNat = h := by omega
        have pc4 : (0 : Int) ≤ (h : Int) := by omega
        have bc4 : (h : Int) < (len : Int) := by omega
        have rc4 : IntKind.i64.wrap ((h : Int)) = (h : Int) := by rw [IntKind.wrap_i64]; omega
        obtain ⟨x4, hx4⟩ : ∃ x, x = d[m]! := ⟨_, rfl⟩
        obtain ⟨y4, hy4⟩ : ∃ x, x = d[h]! := ⟨_, rfl⟩
        have L4 : Aside (∀ n : In wr, Sem.run Try.prog (loadCellsFrom ⟨blk, off + (m) * K, none⟩ 0 K #[]) n.w = .ok (enc x4).toArray n.w ∧ Sem.run Try.prog (loadCellsFrom ⟨blk, off + (h) * K, none⟩ 0 K #[]) n.w = .ok (enc y4).toArray n.w ∧ Calls Try.prog g (fi ++ (#[.agg (enc x4).toArray, .agg (enc y4).toArray] ++ ca)) n.w fun e w' => e = .returned (.int .i64 (cf x4 y4)) ∧ Below n.w.heap.size n.w w') := fun n => ⟨by rw [hx4]; exact (S1.out.at R n).load R Try.prog (m) (by omega), by rw [hy4]; exact (S1.out.at R n).load R Try.prog (h) (by omega), HC.out _ _ (S1.out.at R n) (by omega) x4 y4⟩
        have hv4 : cf x4 y4 < 0 := by rw [hx4, hy4]; exact of_decide_eq_true hL
        have hd4 : decide (cf x4 y4 < 0) = true := decide_eq_true hv4
        clear hx4 hy4
        go_wp2_with fail
        refine wp_region_calm0 (by kernel_rfl) (by kernel_rfl) fun M => ?_
        have l4a := fun n : In M.w => (L4.out (In.within (m := M) n)).1
        have l4b := fun n : In M.w => (L4.out (In.within (m := M) n)).2.1
        have hc4 := fun n : In M.w => (L4.out (In.within (m := M) n)).2.2
        simp only [In.within] at l4a l4b hc4
        repeat (go_big_quiet_step ((go_at_fn g; exact In.call (hc4 _))))
        refine wpQuiet_nil ?_
        intro w2 hb4
        have S2 : Aside (SWB enc K w0 blk off d w2) := S1.out.below R hb4
        clear L4 l4a l4b hc4 S1 hb4 M
        go_wp2
        go_roundg (h - i)
        case measure => omega
        case rel => exact ⟨i, h, rfl, rfl, by omega, hh1.1, by omega, Nat.le_refl _, S2, B1.out.dn MM.out hh1.1 hh1.2 (by simp only [hL]; rfl)⟩
      | false =>
        have ea5 : ((m : Int)).toNat = m := by omega
        have pa5 : (0 : Int) ≤ (m : Int) := by omega
        have ba5 : (m : Int) < (len : Int) := by omega
        have ra5 : IntKind.i64.wrap ((m : Int)) = (m : Int) := by rw [IntKind.wrap_i64]; omega
        have ec5 : ((h : Int)).toNat = h := by omega
        have pc5 : (0 : Int) ≤ (h : Int) := by omega
        have bc5 : (h : Int) < (len : Int) := by omega
        have rc5 : IntKind.i64.wrap ((h : Int)) = (h : Int) := by rw [IntKind.wrap_i64]; omega
        obtain ⟨x5, hx5⟩ : ∃ x, x = d[m]! := ⟨_, rfl⟩
        obtain ⟨y5, hy5⟩ : ∃ x, x = d[h]! := ⟨_, rfl⟩
        have L5 : Aside (∀ n : In wr, Sem.run Try.prog (loadCellsFrom ⟨blk, off + (m) * K, none⟩ 0 K #[]) n.w = .ok (enc x5).toArray n.w ∧ Sem.run Try.prog (loadCellsFrom ⟨blk, off + (h) * K, none⟩ 0 K #[]) n.w = .ok (enc y5).toArray n.w ∧ Calls Try.prog g (fi ++ (#[.agg (enc x5).toArray, .agg (enc y5).toArray] ++ ca)) n.w fun e w' => e = .returned (.int .i64 (cf x5 y5)) ∧ Below n.w.heap.size n.w w') := fun n => ⟨by rw [hx5]; exact (S1.out.at R n).load R Try.prog (m) (by omega), by rw [hy5]; exact (S1.out.at R n).load R Try.prog (h) (by omega), HC.out _ _ (S1.out.at R n) (by omega) x5 y5⟩
        have hv5 : ¬ cf x5 y5 < 0 := by rw [hx5, hy5]; exact of_decide_eq_false hL
        have hd5 : decide (cf x5 y5 < 0) = false := decide_eq_false hv5
        clear hx5 hy5
        go_wp2_with fail
        refine wp_region_calm0 (by kernel_rfl) (by kernel_rfl) fun M => ?_
        have l5a := fun n : In M.w => (L5.out (In.within (m := M) n)).1
        have l5b := fun n : In M.w => (L5.out (In.within (m := M) n)).2.1
        have hc5 := fun n : In M.w => (L5.out (In.within (m := M) n)).2.2
        simp only [In.within] at l5a l5b hc5
        repeat (go_big_quiet_step ((go_at_fn g; exact In.call (hc5 _))))
        refine wpQuiet_nil ?_
        intro w2 hb5
        have S2 : Aside (SWB enc K w0 blk off d w2) := S1.out.below R hb5
        clear L5 l5a l5b hc5 S1 hb5 M
        go_wp2
        go_roundg (j - (h + 1))
        case measure => omega
        case rel => exact ⟨h + 1, j, by go_num, rfl, by omega, by omega, hjb, Nat.le_refl _, S2, B1.out.up MM.out hh1.1 hh1.2 (by simp only [hL]; rfl)⟩
    · have hijz : ¬ (i : Int) < (j : Int) := by omega
      have : i = j := by omega
      subst this
      obtain ⟨t, rfl⟩ : ∃ t, i = a + t := ⟨i - a, by omega⟩
      have HV : Aside (LeA (ltOf cf) (U.take t) [y] ∧ LeA (ltOf cf) [y] (U.drop t) ∧ t ≤ U.length) := by
        obtain ⟨e0, e1, e2, e3, e4⟩ := H0.out
        obtain ⟨b1, b2, b3, b4, b5⟩ := B1.out
        refine ⟨?_, LeA.of_lt hO ?_, by omega⟩
        · intro v hv z hz
          rw [List.mem_singleton.1 hz]
          exact take_all (Q := fun v => ltOf cf y v = false) (m := a) e0 e1 (fun c h1 h2 => by have := b4 c (by omega) h2; simp only [Bool.not_eq_true'] at this; rw [e4] at this; exact this) v hv
        · exact drop_all (Q := fun v => ltOf cf y v = true) (m := a) e0 e1 (fun c h1 h2 => by have := b5 c (by omega) (by omega); simp only [Bool.not_eq_false'] at this; rw [e4] at this; exact this)
      obtain ⟨n, hn⟩ : ∃ n, n = U.length := ⟨_, rfl⟩
      have HL : Aside (d.toList = X ++ (U.take n ++ y :: (U.drop n ++ Y))) := by rw [H0.out.1]; show _ = _; rw [hn]; simp
      have hman : m = a + n := by rw [hn]; exact H0.out.2.2.1
      have HN : Aside (n = U.length ∧ m = a + n) := ⟨hn, hman⟩
      have hda2 : d.size = len := hda
      have htn : t ≤ n := by omega
      have hal : a + n < len := by omega
      clear hn B1 MM hij hkx hda
      go_wp2
      go_loopg [17] n (fun kx s17 wr2 => ∃ (s : Nat) (dk : Array α), s17 = .int .i64 ((a + s : Nat) : Int) ∧ t ≤ s ∧ s ≤ n ∧ s ≤ kx ∧ dk.size = len ∧ Aside (SWB enc K w0 blk off dk wr2) ∧ Aside (dk.toList = X ++ (U.take s ++ y :: (U.drop s ++ Y))))
      case atStart => exact ⟨n, d, by simp, htn, Nat.le_refl _, Nat.le_refl _, hda2, S1, HL⟩
      case round =>
        clear S1 HL hman
        obtain ⟨s, dk, rfl, hst, hsn, hkx, hds, S1, HL⟩ := hrel
        by_cases hlt : t < s
        · obtain ⟨s, rfl⟩ : ∃ s', s = s' + 1 := ⟨s - 1, by omega⟩
          obtain ⟨k, hk⟩ : ∃ k, k = a + s := ⟨_, rfl⟩
          have hk2 : ((a + (s + 1) : Nat) : Int) = (k : Int) + 1 := by omega
          rw [hk2]
          have hkz : (a : Int) + (t : Int) < (k : Int) + 1 := by omega
          have hkl : k + 1 < len := by omega
          have HK : Aside (k = a + s) := hk
          clear hk hk2
          go_wp2_with fail
          have ea7 : ((k : Int) + 1).toNat = k + 1 := by omega
          have pa7 : (0 : Int) ≤ (k : Int) + 1 := by omega
          have ba7 : (k : Int) + 1 < (len : Int) := by omega
          have ra7 : IntKind.i64.wrap ((k : Int) + 1) = (k : Int) + 1 := by rw [IntKind.wrap_i64]; omega
          have ec7 : ((k : Int)).toNat = k := by omega
          have pc7 : (0 : Int) ≤ (k : Int) := by omega
          have bc7 : (k : Int) < (len : Int) := by omega
          have rc7 : IntKind.i64.wrap ((k : Int)) = (k : Int) := by rw [IntKind.wrap_i64]; omega
          have S2 : Aside (SWB enc K w0 blk off (swp dk (k + 1) (k)) ((wr.drew.setCells blk (off + (k + 1) * K) (enc dk[k]!)).setCells blk (off + (k) * K) (enc dk[k + 1]!))) := S1.out.swapped R (k + 1) (k) (by omega) (by omega)
          have l7a := S1.out.ld1 R (by omega) Try.prog (k + 1) (by omega)
          have l7b := S1.out.ld1 R (by omega) Try.prog (k) (by omega)
          have s7a := S1.out.st1 R (by omega) Try.prog (k + 1) (by omega) dk[k]!
          have s7b := S1.out.st2 R (by omega) Try.prog (k + 1) (k) (by omega) (by omega) dk[k]! dk[k + 1]!
          have n7a : (enc dk[k + 1]!).length = K := R.hk _
          have n7b : (enc dk[k]!).length = K := R.hk _
          generalize enc dk[k + 1]! = cI7 at S2 l7a s7b n7a
          generalize enc dk[k]! = cJ7 at S2 l7b s7a s7b n7b
          clear S1
          go_wp2_with fail
          go_big_region_o
          clear l7a l7b s7a s7b
          generalize (wr.drew.setCells blk (off + (k + 1) * K) cJ7).setCells blk (off + (k) * K) cI7 = w2 at S2 ⊢
          go_wp2
          go_roundg s
          case measure => omega
          case rel =>
            have HK' := HK.out
            exact ⟨s, swp dk (k + 1) k, by rw [HK'], by omega, by omega, Nat.le_refl _, by rw [size_swp]; exact hds, S2, bub_dn HL.out (by have := HN.out.1; omega) (by rw [HK', H0.out.2.1])⟩
        · obtain ⟨k, hk⟩ : ∃ k, k = a + s := ⟨_, rfl⟩
          rw [← hk]
          have hkz : ¬ (a : Int) + (t : Int) < (k : Int) := by omega
          have : s = t := by omega
          subst this
          clear hk
          go_wp2
          obtain ⟨v1, v2, v3⟩ := HV.out
          refine bodyPost_ret (v := .tuple #[]) (by simp [results, Try.results45, go_sem]) rfl ?_
          refine ⟨rfl, dk, U.take s ++ y :: U.drop s, by rw [HL.out]; simp only [List.append_assoc, List.cons_append], ?_, ?_, hds, S1⟩
          · refine List.perm_middle.trans ?_
            rw [List.take_append_drop]
            exact (List.perm_append_comm (l₁ := [y]) (l₂ := U))
          · exact Ord.mid (by rw [List.take_append_drop]; exact H0.out.2.2.2.1) v1 v2
end Go.Proofs.Ytoepodjpempcdaa
