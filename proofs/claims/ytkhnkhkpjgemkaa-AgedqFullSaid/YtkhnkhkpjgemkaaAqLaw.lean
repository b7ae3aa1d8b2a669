/- The law AgedqFull. -/
import Derived.Test.YtkhnkhkpjgemkaaAqAlive
import Derived.Lib.MinMax
import Derived.Deep.DeepCutAuto
namespace Go.Proofs.Ytkhnkhkpjgemkaa
open Go.RowKit

def csH (n : Int) : List Value := [.int .u16 n]
theorem intsCell {w : World} {g o n c : Nat} {l : List Int} (h : IntsAt w (.slice (some ⟨g, o, none⟩) n c) l) (k : Nat) (hk : k < l.length) : w.cell? ⟨g, o + k, none⟩ = some (.int .i64 l[k]) := by
  obtain ⟨g', o', c', e, _, _, h1⟩ := IntsAt.spot h k hk
  cases e
  exact h1
theorem hAt {w : World} {v : Value} {l : List Int} (h : RowsAt w 1 csH v l) (k : Nat) (hk : k < l.length) : ∃ g o c, v = .slice (some ⟨g, o, none⟩) l.length c ∧ w.cell? ⟨g, o + k, none⟩ = some (.int .u16 l[k]) := by
  obtain ⟨g, o, c, e, _, _, hx⟩ := h.spot k hk
  have := hx 0 _ rfl
  rw [Nat.mul_one, Nat.add_zero] at this
  exact ⟨g, o, c, e, this⟩
theorem firstA_nil (q : Aq) (A : List Int) (hA : listA q = A) (h : A = []) : firstA q = (0, false) := by unfold firstA; rw [hA, h]
theorem firstA_cons (q : Aq) (A : List Int) (hA : listA q = A) (h : 0 < A.length) : firstA q = (A[0], true) := by
  unfold firstA
  rw [hA]
  cases A with
  | nil => exact absurd h (by simp)
  | cons a t => rfl
theorem GoodA.fullA {q : Aq} {rate now : Int} {n : Nat} (h : GoodA q rate now n) (A : List Int) (hA : listA q = A) (k i : Nat) (hki : k < i) (hi : i < A.length) : ∃ x y : It, findA q.l (A[k]'(by omega)) = (x, true) ∧ findA q.l A[i] = (y, true) ∧ (ofA y now rate = 1048575 → x.seq ≤ y.seq) := by
  subst hA
  exact h.full k i hki hi
theorem GoodA.less {q : Aq} {rate now : Int} {n m : Nat} (h : GoodA q rate now n) (hn : n ≤ m) : GoodA q rate now m := ⟨h.rate, h.now, h.ids, Nat.le_trans h.len hn, h.i64⟩

set_option maxHeartbeats 16000000 in
set_option maxRecDepth 100000 in
theorem agedqFull_any (C : AqProg) (rate : Int) (va vt : Value) (l : List It) (T : List Int) (W : World) (ha : ItAt W va l) (ht : RowsAt W 1 csH vt T) (hT : ∀ n ∈ T, 0 ≤ n ∧ n ≤ 65535) (hI : ∀ x ∈ l, I64 x.id) :
    Calls Try.prog 3 #[.int .i64 rate, va, vt] W fun e w' => e = .returned (.bool true) ∧ Below W.heap.size W w' := by
  have HAL := Lib.hid fun w => aqAlive_any C w
  have HA := Lib.hid ha
  have HT := Lib.hid ht
  have HTB := Lib.hid hT
  have HIB := Lib.hid hI
  obtain ⟨al, cl, rfl⟩ := RowsAt.form ha
  obtain ⟨at', ct, rfl⟩ := RowsAt.form ht
  clear ha ht hT hI
  by_cases h30 : 30 < l.length
  · have h1 : (30 : Int) < (l.length : Int) := by omega
    go_enter Try.func3, Try.ntmps3
    go_wp2_with (go_at_call 4; (with_reducible refine (HAL.out _).mono ?_); rintro e w1 ⟨rfl, hb⟩)
    go_ret
    exact ⟨rfl, hb⟩
  by_cases h12 : 12 < T.length
  · have h1 : ¬ (30 : Int) < (l.length : Int) := by omega
    have h2 : (12 : Int) < (T.length : Int) := by omega
    go_enter Try.func3, Try.ntmps3
    go_wp2_with (go_at_call 4; (with_reducible refine (HAL.out _).mono ?_); rintro e w1 ⟨rfl, hb⟩)
    go_ret
    exact ⟨rfl, hb⟩
  have h1 : ¬ (30 : Int) < (l.length : Int) := by omega
  have h2 : ¬ (12 : Int) < (T.length : Int) := by omega
  have HN := Lib.hid (Side15.start C rate 1000 W)
  go_enter Try.func3, Try.ntmps3
  go_wp2_with (go_at_call 5; (with_reducible refine HN.out.mono ?_); rintro e w0 ⟨p, rfl, hs⟩; have HS0 := Lib.hid hs; clear hs)
  go_loopw [38] (fun iv wr => ∃ (k : Nat) (q : Aq), k ≤ l.length ∧ iv = .int .i64 k ∧ Side15 C W wr p q (.slice none 0 0) [] [] ∧ GoodA q rate 1000 k) (fun iv _ => l.length - (intOf iv).toNat)
  case atStart => exact ⟨0, _, Nat.zero_le _, rfl, HS0.out, ⟨rfl, (by show tk 1000 = 1000; decide +kernel), by simp, by simp, by simp⟩⟩
  case round =>
    obtain ⟨k, q, hk, rfl, hs, hg⟩ := hrel
    by_cases hlt : k < l.length
    · obtain ⟨g, o, cc, e, _, hgl, p0, p1, p2, p3⟩ := ItAt.at (RowsAt.kept HA.out hs.below) k hlt
      cases e
      have k0 : (0 : Int) ≤ (k : Int) := by omega
      have k1 : (k : Int) < (l.length : Int) := by omega
      have hxi := HIB.out l[k] (List.getElem_mem _)
      generalize l[k] = x at *
      obtain ⟨s0, hs0⟩ : ∃ s0, max x.since 0 = s0 := ⟨_, rfl⟩
      obtain ⟨s, hs1⟩ : ∃ s, min s0 1000 = s := ⟨_, rfl⟩
      have HG := Lib.hid (hg.put ⟨x.id, x.prio, s, x.seq⟩ hxi)
      have c2 := (Blk.new wr [.int .i64 x.id, .int .i64 x.prio, .int .i64 x.since, .int .i64 x.seq] 28).cell 2 rfl
      have hB := Blk.new wr [.int .i64 x.id, .int .i64 x.prio, .int .i64 s, .int .i64 x.seq] 28
      have d0 := hB.cell 0 rfl
      have d1 := hB.cell 1 rfl
      have d2 := hB.cell 2 rfl
      have d3 := hB.cell 3 rfl
      have HSA := Lib.hid (hs.kept ((Below.refl _ _).alloc (Nat.le_refl _) (.cells #[.int .i64 x.id, .int .i64 x.prio, .int .i64 s, .int .i64 x.seq] 28)))
      have HP := Lib.hid (HSA.out.step (q' := (putA q ⟨x.id, x.prio, s, x.seq⟩).1) fun F hF => C.put ⟨x.id, x.prio, s, x.seq⟩ hF (by have := hg.len; omega) hxi)
      clear hB hs hg hxi
      go_wp2_with (go_at_call 6; (with_reducible refine HP.out.mono ?_); rintro e w2 ⟨rfl, hs2⟩; have HS2 := Lib.hid hs2; clear hs2)
      go_roundw
      case rel => exact ⟨k + 1, _, by omega, by go_num, HS2.out, HG.out⟩
      case measure => simp [intOf] <;> omega
    · have hke : k = l.length := by omega
      subst hke
      have HG0 := Lib.hid (hg.less (show l.length ≤ 30 by omega))
      have HSS := Lib.hid hs
      clear hs hg
      go_wp2
      go_loopw [10, 53] (fun nv iv wr => ∃ (j : Nat) (now : Int) (q : Aq), j ≤ T.length ∧ iv = .int .i64 j ∧ nv = .int .i64 now ∧ 1000 ≤ now ∧ now ≤ 1000 + 65535 * j ∧ GoodA q rate now 30 ∧ ∃ v all, Side15 C W wr p q v all []) (fun _ iv _ => T.length - (intOf iv).toNat)
      case atStart => exact ⟨0, 1000, _, Nat.zero_le _, rfl, rfl, by omega, by omega, HG0.out, _, _, HSS.out⟩
      case round =>
        obtain ⟨j, now, q, hj, rfl, rfl, hn1, hn2, hg, v, all, hs⟩ := hrel
        by_cases hjt : j < T.length
        · obtain ⟨g, o, cc, e, p0⟩ := hAt (RowsAt.kept HT.out hs.below) j hjt
          cases e
          obtain ⟨t1, t2⟩ := HTB.out T[j] (List.getElem_mem _)
          have j0 : (0 : Int) ≤ (j : Int) := by omega
          have j1 : (j : Int) < (T.length : Int) := by omega
          generalize T[j] = n at *
          obtain ⟨m, hm⟩ : ∃ m, now + n = m := ⟨_, rfl⟩
          have m1 : 0 ≤ m := by omega
          have m2 : m ≤ 2147483647 := by omega
          have HMM := Lib.hid (show 1000 ≤ m ∧ m ≤ 1000 + 65535 * ((j : Int) + 1) by omega)
          have hg2 := hg.to m (by omega) m1 m2
          have HTO := Lib.hid (hs.step (q' := toA q m) fun F hF => C.toN m hF (by have := hg.len; omega))
          obtain ⟨q2, hq2⟩ : ∃ q2, toA q m = q2 := ⟨_, rfl⟩
          rw [hq2] at hg2 HTO
          have hll := listA_len q2
          have hqn := hg2.now
          have hgl := hg2.len
          have hlist := fun w1 v all (h : Side15 C W w1 p q2 v all []) => h.list (by omega)
          have hfirst := fun w1 v all (h : Side15 C W w1 p q2 v all []) => h.step (q' := q2) fun F hF => C.first hF (by omega)
          have hlen := fun w1 v all (h : Side15 C W w1 p q2 v all []) => h.step (q' := q2) fun F hF => C.len hF
          have hnow := fun w1 v all (h : Side15 C W w1 p q2 v all []) => h.step (q' := q2) fun F hF => C.now hF
          rw [← hll] at hlen
          rw [hqn] at hnow
          obtain ⟨A, hA⟩ : ∃ A, listA q2 = A := ⟨_, rfl⟩
          have hfull := hg2.fullA A hA
          have HI6 := Lib.hid (hg2.i64A A hA)
          have hfi := firstA_nil q2 A hA
          have hfc := firstA_cons q2 A hA
          rw [hA] at hlen hll hlist
          have HGL := Lib.hid hgl
          have HG2 := Lib.hid hg2
          have HFULL := Lib.hid hfull
          have HLI := Lib.hid hlist
          have HLE := Lib.hid hlen
          have HNO := Lib.hid hnow
          have HLL := Lib.hid hll
          clear hg hs hg2 hq2 hfull hlist hlen hnow hA hqn hgl hll hn1 hn2
          by_cases hA0 : A.length = 0
          · have hA1 : A = [] := List.eq_nil_of_length_eq_zero hA0
            rw [hfi hA1] at hfirst
            have HFI := Lib.hid hfirst
            clear hfi hfc hfirst
            subst hA1
            go_upto_region 18 with (first
              | (go_at_call 7; (with_reducible refine HTO.out.mono ?_); rintro e w2 ⟨rfl, hs⟩; have HS2 := Lib.hid hs; clear hs)
              | (go_at_call 8; (with_reducible refine (HLI.out _ _ _ HS2.out).mono ?_); rintro e w3 ⟨v3, rfl, hs⟩; obtain ⟨av, cv, rfl⟩ := IntsAt.form hs.ints; have HS3 := Lib.hid hs; clear hs)
              | (go_at_call 9; (with_reducible refine (HFI.out _ _ _ HS3.out).mono ?_); rintro e w4 ⟨rfl, hs⟩; have HS4 := Lib.hid hs; clear hs))
            go_wp2_with (first
              | (go_at_call 10; (with_reducible refine (HLE.out _ _ _ HS4.out).mono ?_); rintro e w5 ⟨rfl, hs⟩; have HS5 := Lib.hid hs; clear hs)
              | (go_at_call 11; (with_reducible refine (HNO.out _ _ _ HS5.out).mono ?_); rintro e w6 ⟨rfl, hs⟩; have HS9 := Lib.hid hs; clear hs))
            go_loopw [101] (fun iv wx => iv = .int .i64 0 ∧ Side15 C W wx p q2 (.slice av 0 cv) [] []) (fun _ _ => 0)
            case atStart => exact ⟨rfl, HS9.out⟩
            case round =>
              obtain ⟨rfl, hs⟩ := hrel
              have HSI := Lib.hid hs
              clear hs
              go_wp2
              go_roundw
              case rel => exact ⟨j + 1, m, q2, by omega, by go_num, by go_num, by have := HMM.out; omega, by have := HMM.out; omega, HG2.out, _, _, HSI.out⟩
              case measure => simp [intOf] <;> omega
          · have hA1 : (0 : Int) < (A.length : Int) := by omega
            obtain ⟨f1, hf1⟩ : ∃ f1, A[0]'(by omega) = f1 := ⟨_, rfl⟩
            rw [hfc (by omega), hf1] at hfirst
            have HFI := Lib.hid hfirst
            have HA00 := Lib.hid hA0
            clear hfi hfc hfirst
            go_upto_region 18 with (first
              | (go_at_call 7; (with_reducible refine HTO.out.mono ?_); rintro e w2 ⟨rfl, hs⟩; have HS2 := Lib.hid hs; clear hs)
              | (go_at_call 8; (with_reducible refine (HLI.out _ _ _ HS2.out).mono ?_); rintro e w3 ⟨v3, rfl, hs⟩; obtain ⟨av, cv, rfl⟩ := IntsAt.form hs.ints; have HS3 := Lib.hid hs; clear hs)
              | (go_at_call 9; (with_reducible refine (HFI.out _ _ _ HS3.out).mono ?_); rintro e w4 ⟨rfl, hs⟩; have HS4 := Lib.hid hs; clear hs))
            obtain ⟨g5, o5, c5, ev, _, _, a0⟩ := IntsAt.spot HS4.out.ints 0 (by omega)
            rw [hf1, Nat.add_zero] at a0
            injection ev with ev1 ev2 ev3
            clear ev2 ev3
            subst ev1
            clear hf1
            go_wp2_with (first
              | (go_at_call 10; (with_reducible refine (HLE.out _ _ _ HS4.out).mono ?_); rintro e w5 ⟨rfl, hs⟩; have HS5 := Lib.hid hs; clear hs)
              | (go_at_call 11; (with_reducible refine (HNO.out _ _ _ HS5.out).mono ?_); rintro e w6 ⟨rfl, hs⟩; have HS9 := Lib.hid hs; clear hs))
            have A30 := Lib.hid (show A.length ≤ 30 by have := HLL.out; have := HGL.out; omega)
            go_loopw [101] (fun iv wx => ∃ i : Nat, i ≤ A.length ∧ iv = .int .i64 i ∧ Side15 C W wx p q2 (.slice (some ⟨g5, o5, none⟩) A.length cv) A []) (fun iv _ => A.length - (intOf iv).toNat)
            case atStart => exact ⟨0, Nat.zero_le _, rfl, HS9.out⟩
            case round =>
              obtain ⟨i, hi, rfl, hs⟩ := hrel
              have i30 : (i : Int) ≤ 30 := by have := A30.out; omega
              have HSI := Lib.hid hs
              clear hs
              by_cases hil : i < A.length
              · have HIL := Lib.hid hil
                have i0 : (0 : Int) ≤ (i : Int) := by omega
                have i1 : (i : Int) < (A.length : Int) := by omega
                go_wp2
                go_loopw [105] (fun kv wx => ∃ k : Nat, k ≤ i ∧ kv = .int .i64 k ∧ Side15 C W wx p q2 (.slice (some ⟨g5, o5, none⟩) A.length cv) A []) (fun kv _ => i - (intOf kv).toNat)
                case atStart => exact ⟨0, Nat.zero_le _, rfl, HSI.out⟩
                case round =>
                  obtain ⟨k, hk, rfl, hs⟩ := hrel
                  have k30 : (k : Int) ≤ 30 := by omega
                  have HI30 := Lib.hid i30
                  have HK30 := Lib.hid k30
                  have HSK := Lib.hid hs
                  clear hs
                  by_cases hki : k < i
                  · have HKI := Lib.hid hki
                    have k0 : (0 : Int) ≤ (k : Int) := by omega
                    have k1 : (k : Int) < (i : Int) := by omega
                    have k2 : (k : Int) < (A.length : Int) := by omega
                    obtain ⟨x, y, e1, e2, e3⟩ := HFULL.out k i hki hil
                    have hf1 : ∀ w1, Side15 C W w1 p q2 (.slice (some ⟨g5, o5, none⟩) A.length cv) A [] → Calls Try.prog 12 #[p, .int .i64 (A[k]'(by omega))] w1 fun e w' => e = .returned (.tuple #[.agg #[.int .i64 x.id, .int .i64 x.prio, .int .i64 x.since, .int .i64 x.seq], .bool true]) ∧ Side15 C W w' p q2 (.slice (some ⟨g5, o5, none⟩) A.length cv) A [] := fun w1 h => h.step fun F hF => by
                      have := C.find (A[k]'(by omega)) hF (by have := HGL.out; omega) (HI6.out k (by omega))
                      rwa [e1] at this
                    have hf2 : ∀ w1 bs, Side15 C W w1 p q2 (.slice (some ⟨g5, o5, none⟩) A.length cv) A bs → Calls Try.prog 12 #[p, .int .i64 (A[i]'hil)] w1 fun e w' => e = .returned (.tuple #[.agg #[.int .i64 y.id, .int .i64 y.prio, .int .i64 y.since, .int .i64 y.seq], .bool true]) ∧ Side15 C W w' p q2 (.slice (some ⟨g5, o5, none⟩) A.length cv) A bs := fun w1 bs h => h.step fun F hF => by
                      have := C.find (A[i]'hil) hF (by have := HGL.out; omega) (HI6.out i hil)
                      rwa [e2] at this
                    have HCK := Lib.hid (fun w1 (h : IntsAt w1 (.slice (some ⟨g5, o5, none⟩) A.length cv) A) => intsCell h k (by omega))
                    have HCI := Lib.hid (fun w1 (h : IntsAt w1 (.slice (some ⟨g5, o5, none⟩) A.length cv) A) => intsCell h i hil)
                    obtain ⟨ak, hak⟩ : ∃ ak, A[k]'(by omega) = ak := ⟨_, rfl⟩
                    obtain ⟨ai, hai⟩ : ∃ ai, A[i]'hil = ai := ⟨_, rfl⟩
                    rw [hak] at hf1 HCK
                    rw [hai] at hf2 HCI
                    have HAGE := Lib.hid (fun w => C.age y m rate w)
                    have HF1 := Lib.hid hf1
                    have HF2 := Lib.hid hf2
                    have HE3 := Lib.hid e3
                    have p0 := HCK.out _ HSK.out.ints
                    clear hf1 hf2 e1 e2 e3 hak hai
                    go_upto_region 27 with (go_at_call 12; (with_reducible refine (HF1.out _ HSK.out).mono ?_); rintro e w2 ⟨rfl, hs⟩; have HS2 := Lib.hid (hs.new [.int .i64 x.id, .int .i64 x.prio, .int .i64 x.since, .int .i64 x.seq] 28); clear hs)
                    have p1 := HCI.out _ HS2.out.ints
                    clear p0
                    go_upto_region 28 with (go_at_call 12; (with_reducible refine (HF2.out _ _ HS2.out).mono ?_); rintro e w3 ⟨rfl, hs⟩; have HS3 := Lib.hid (hs.new [.int .i64 y.id, .int .i64 y.prio, .int .i64 y.since, .int .i64 y.seq] 28); clear hs)
                    clear p1
                    have y0 := HS3.out.blk.cell 0 rfl
                    have y1 := HS3.out.blk.cell 1 rfl
                    have y2 := HS3.out.blk.cell 2 rfl
                    have y3 := HS3.out.blk.cell 3 rfl
                    obtain ⟨z, hz⟩ : ∃ z, ofA y m rate = z := ⟨_, rfl⟩
                    rw [hz] at HAGE HE3
                    clear hz
                    by_cases hz1 : z = 1048575
                    · have hq : ¬ y.seq < x.seq := by have := HE3.out hz1; omega
                      subst hz1
                      clear HE3
                      go_wp2_with (go_at_call 13; (with_reducible refine (HAGE.out _).mono ?_); rintro e w4 ⟨rfl, hb⟩; have HS4 := Lib.hid (HS3.out.kept hb); have y4 := HS4.out.blk.cell 3 rfl; have x4 := HS4.out.less.blk.cell 3 rfl; clear hb)
                      go_roundw
                      case rel => exact ⟨k + 1, by have := HKI.out; omega, by have := HK30.out; go_num, HS4.out.less.less⟩
                      case measure => have := HKI.out; have := HK30.out; simp [intOf] <;> omega
                    · have hz2 : (z == 1048575) = false := beq_noI hz1
                      clear HE3
                      go_wp2_with (go_at_call 13; (with_reducible refine (HAGE.out _).mono ?_); rintro e w4 ⟨rfl, hb⟩; have HS4 := Lib.hid (HS3.out.kept hb); clear hb)
                      go_roundw
                      case rel => exact ⟨k + 1, by have := HKI.out; omega, by have := HK30.out; go_num, HS4.out.less.less⟩
                      case measure => have := HKI.out; have := HK30.out; simp [intOf] <;> omega
                  · have hke : k = i := by omega
                    subst hke
                    go_wp2
                    go_roundw
                    case rel => exact ⟨k + 1, by have := HIL.out; omega, by have := HK30.out; go_num, HSK.out⟩
                    case measure => have := HIL.out; have := HK30.out; simp [intOf] <;> omega
              · have hie : i = A.length := by omega
                subst hie
                go_wp2
                go_roundw
                case rel => exact ⟨j + 1, m, q2, by omega, by go_num, by go_num, by have := HMM.out; omega, by have := HMM.out; omega, HG2.out, _, _, HSI.out⟩
                case measure => simp [intOf] <;> omega
        · have hje : j = T.length := by omega
          subst hje
          have HSE := Lib.hid hs.below
          clear hs hg
          go_wp2_with (first
            | (go_at_call 7; (with_reducible refine (C.to_nil _ _).mono ?_); rintro e w2 ⟨rfl, hb⟩; have HB2 := Lib.hid (HSE.out.trans (hb.mono HSE.out.size)); clear hb)
            | (go_at_call 9; (with_reducible refine (C.first_nil _).mono ?_); rintro e w3 ⟨rfl, hb⟩; have HB3 := Lib.hid (HB2.out.trans (hb.mono HB2.out.size)); clear hb)
            | (go_at_call 6; (with_reducible refine (C.put_nil ⟨0, 0, 0, 0⟩ _).mono ?_); rintro e w4 ⟨rfl, hb⟩; have HB4 := Lib.hid (HB3.out.trans (hb.mono HB3.out.size)); clear hb)
            | (go_at_call 14; (with_reducible refine (C.drop_nil _ _).mono ?_); rintro e w5 ⟨rfl, hb⟩; have HB5 := Lib.hid (HB4.out.trans (hb.mono HB4.out.size)); clear hb)
            | (go_at_call 10; (with_reducible refine (C.len_nil _).mono ?_); rintro e w6 ⟨rfl, hb⟩; have HB6 := Lib.hid (HB5.out.trans (hb.mono HB5.out.size)); clear hb)
            | (go_at_call 11; (with_reducible refine (C.now_nil _).mono ?_); rintro e w7 ⟨rfl, hb⟩; have HB7 := Lib.hid (HB6.out.trans (hb.mono HB6.out.size)); clear hb)
            | (go_at_call 4; (with_reducible refine (HAL.out _).mono ?_); rintro e w8 ⟨rfl, hb⟩; have HB8 := Lib.hid (HB7.out.trans (hb.mono HB7.out.size)); clear hb))
          go_ret
          exact ⟨rfl, HB8.out⟩
end Go.Proofs.Ytkhnkhkpjgemkaa
