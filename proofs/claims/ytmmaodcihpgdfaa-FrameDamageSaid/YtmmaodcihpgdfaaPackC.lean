/- Stage 8's program: the number that bytes begin with; signs last. -/
import Derived.Test.YtmmaodcihpgdfaaPackB
import Derived.BigQuiet
import Derived.Laws.BitsAllLaws
namespace Go.Proofs.Ytmmaodcihpgdfaa
open Go.RowKit

/-- bits that don't meet are added -/
theorem or_low (y u : Nat) (hy : y < 72057594037927936) (hu : u < 256) : bits .or .u64 ((y : Int) * 256) (u : Int) = (y : Int) * 256 + (u : Int) := by
  have h := Nat.two_pow_add_eq_or_of_lt (i := 8) (b := u) (by omega) y
  have e := u64_or_nat (y * 256) u (by omega) (by omega)
  rw [show y * 256 ||| u = y * 256 + u by rw [Nat.mul_comm y 256]; exact h.symm] at e
  simpa using e
theorem or_high (z c j : Nat) (hz : z < 2 ^ j) (h : z + 2 ^ j * c < 18446744073709551616) : bits .or .u64 (z : Int) ((2 ^ j * c : Nat) : Int) = ((z + 2 ^ j * c : Nat) : Int) := by
  have h1 := Nat.two_pow_add_eq_or_of_lt (i := j) (b := z) hz c
  rw [u64_or_nat z (2 ^ j * c) (by omega) (by omega), Nat.or_comm, ← h1, Nat.add_comm]
theorem kPut_any (va : Value) (l : List UInt8) (x : Nat) (k : Int) (w : World) (ha : BytesAt w va l) (hl : l.length ≤ 1000000) (hx : x < 18446744073709551616) :
    Calls Try.prog 19 #[va, .int .u64 (x : Int), .int .i64 k] w fun e w' => ∃ v, e = .returned v ∧ BytesAt w' v (l ++ bn (bigs (kk k) x)) ∧ Below w.heap.size w w' := by
  refine (kPutO_any va l x k w ha hl hx).mono ?_
  rintro e w' ⟨v, h1, h2, h3⟩
  exact ⟨v, h1, h2.bytes, h3⟩
/-- what is behind the first k, as the program's slice -/
def restV : Value → Nat → Value
  | .slice a n c, k => if c = k then .slice a (n - k) (c - k) else .slice (a.map fun x => x.add k) (n - k) (c - k)
  | v, _ => v
theorem restV_is (a : Option Addr) (n c k : Nat) : restV (.slice a n c) k = if c = k then .slice a (n - k) (c - k) else .slice (a.map fun x => x.add k) (n - k) (c - k) := rfl
theorem restV_bytes {w : World} {va : Value} {l : List UInt8} (ha : BytesAt w va l) (k : Nat) (hk : k ≤ l.length) : BytesAt w (restV va k) (l.drop k) := by
  obtain ⟨a, c, rfl⟩ := RowsAt.form ha
  have hlc : l.length ≤ c := by obtain ⟨_, _, e, hc, _⟩ := ha; cases e; exact hc
  rw [restV_is]
  split
  · exact RowsAt.rest ha k hk a (fun g o _ h => by omega)
  · exact RowsAt.rest ha k hk _ (fun g o e _ => by subst e; simp [Addr.add])
set_option maxHeartbeats 2000000 in
set_option maxRecDepth 100000 in
theorem kTakeS_any (va : Value) (l : List UInt8) (k : Int) (w : World) (ha : BytesAt w va l) (hl : l.length ≤ 1000000) :
    Calls Try.prog 24 #[va, .int .i64 k] w fun e w' => ∃ v, e = .returned (.tuple #[.int .u64 ((takeB l k).1 : Int), v, .int .i64 ((takeB l k).2.2 : Int)]) ∧ BytesAt w v (takeB l k).2.1 ∧ ((takeB l k).2.2 = 0 → v = restV va k.toNat) ∧ Below w.heap.size w w' := by
  have HA := Lib.hid ha
  obtain ⟨a, c, rfl⟩ := RowsAt.form ha
  clear ha
  unfold takeB
  by_cases h1 : k < 0
  · rw [if_pos (.inl h1)]
    go_enter Try.func24, Try.ntmps24
    go_wp2
    refine bodyPost_ret (v := .tuple #[.int .u64 0, .slice none 0 0, .int .i64 1]) (by simp [results, Try.results24, go_sem]) rfl ⟨_, rfl, RowsAt.nil _ _ _, by first | exact Below.refl _ _ | exact ⟨(fun h => by cases h), Below.refl _ _⟩⟩
  · by_cases h2 : 8 < k
    · rw [if_pos (.inr h2)]
      go_enter Try.func24, Try.ntmps24
      go_wp2
      refine bodyPost_ret (v := .tuple #[.int .u64 0, .slice none 0 0, .int .i64 1]) (by simp [results, Try.results24, go_sem]) rfl ⟨_, rfl, RowsAt.nil _ _ _, by first | exact Below.refl _ _ | exact ⟨(fun h => by cases h), Below.refl _ _⟩⟩
    · rw [if_neg (by omega)]
      by_cases h3 : (l.length : Int) < k
      · rw [if_pos h3]
        go_enter Try.func24, Try.ntmps24
        go_wp2
        refine bodyPost_ret (v := .tuple #[.int .u64 0, .slice none 0 0, .int .i64 4]) (by simp [results, Try.results24, go_sem]) rfl ⟨_, rfl, RowsAt.nil _ _ _, by first | exact Below.refl _ _ | exact ⟨(fun h => by cases h), Below.refl _ _⟩⟩
      · rw [if_neg h3]
        obtain ⟨K, hK⟩ : ∃ K : Nat, k = K := ⟨k.toNat, by omega⟩
        subst hK
        rw [Int.toNat_natCast]
        have hKl : K ≤ l.length := by omega
        have k1 : (K : Int) ≤ (l.length : Int) := by omega
        have hlc : l.length ≤ c := by obtain ⟨_, _, e, hc, _⟩ := HA.out; cases e; exact hc
        have k2 : (K : Int) ≤ (c : Int) := by omega
        have hnx := fun i hi => Lib.hid (unbig_next l i hi)
        have hbd := fun i => Lib.hid (unbig_bd l i)
        go_enter Try.func24, Try.ntmps24
        go_wp2
        go_loopw [7, 24] (fun x i wr => ∃ j : Nat, j ≤ K ∧ x = .int .u64 ((unbig (nb (l.take j)) : Nat) : Int) ∧ i = .int .i64 j ∧ w = wr) (fun _ i _ => K - (intOf i).toNat)
        case atStart => exact ⟨0, Nat.zero_le _, rfl, rfl, rfl⟩
        case round =>
          obtain ⟨j, hj, rfl, rfl, rfl⟩ := hrel
          by_cases hlt : j < K
          · obtain ⟨g, o, c', ev, hc, hg, p0⟩ := HA.out.at j (by omega)
            cases ev
            have hn := (hnx j (by omega)).out
            have hb := (hbd j).out
            have hb7 : 256 ^ j ≤ 256 ^ 7 := Nat.pow_le_pow_right (by decide) (by omega)
            have hy : unbig (nb (l.take j)) < 72057594037927936 := Nat.lt_of_lt_of_le hb (by simpa using hb7)
            have hu := l[j].toNat_lt
            generalize unbig (nb (l.take j)) = y at *
            generalize l[j].toNat = u at *
            have HN := Lib.hid hn
            have j0 : (0 : Int) ≤ (j : Int) := by omega
            have j1 : (j : Int) < (l.length : Int) := by omega
            have j2 : (j : Int) < (K : Int) := by omega
            have y1 : (y : Int) < 72057594037927936 := by omega
            have u1 : (u : Int) < 256 := by omega
            have HOR := or_low y u hy hu
            clear hn hb hb7 hy hu
            go_wp2
            go_roundw
            case rel => exact ⟨j + 1, by omega, by rw [HN.out]; go_num, by go_num, by trivial⟩
            case measure => simp [intOf] <;> omega
          · have hje : j = K := by omega
            rw [hje]
            clear hje hlt hj hnx hbd
            have hrest := fun b => RowsAt.rest HA.out K hKl b
            by_cases hcK : c = K
            · subst hcK
              have hlc2 : l.length = c := by omega
              have hP := hrest a (fun g o _ h => by omega)
              have e0 : l.length - c = 0 := by omega
              rw [e0, Nat.sub_self] at hP
              have HP := Lib.hid hP
              have HE := Lib.hid hlc2
              have HE0 := Lib.hid e0
              clear hrest hP hlc2 e0
              go_wp2
              refine wp_region_calm0 (by kernel_rfl) (by kernel_rfl) fun M => ?_
              repeat (go_big_quiet_step (fail))
              refine wpQuiet_nil ?_
              intro w1 hb1
              go_wp2
              exact bodyPost_ret (v := .tuple #[.int .u64 ((unbig (nb (l.take c)) : Nat) : Int), .slice a 0 0, .int .i64 0]) (by simp [results, Try.results24, go_sem]) rfl ⟨_, rfl, HP.out, (fun _ => by rw [restV_is, if_pos rfl, HE0.out, Nat.sub_self]), hb1⟩
            · have hP := hrest (a.map (fun x => x.add K)) (fun g o e _ => by subst e; simp [Addr.add])
              have HP := Lib.hid hP
              clear hrest hP
              go_wp2
              refine wp_region_calm0 (by kernel_rfl) (by kernel_rfl) fun M => ?_
              repeat (go_big_quiet_step (fail))
              refine wpQuiet_nil ?_
              intro w1 hb1
              go_wp2
              exact bodyPost_ret (v := .tuple #[.int .u64 ((unbig (nb (l.take K)) : Nat) : Int), .slice (Option.map (fun x => x.add K) a) (l.length - K) (c - K), .int .i64 0]) (by simp [results, Try.results24, go_sem]) rfl ⟨_, rfl, HP.out, (fun _ => by rw [restV_is, if_neg hcK]), hb1⟩
theorem kTake_any (va : Value) (l : List UInt8) (k : Int) (w : World) (ha : BytesAt w va l) (hl : l.length ≤ 1000000) :
    Calls Try.prog 24 #[va, .int .i64 k] w fun e w' => ∃ v, e = .returned (.tuple #[.int .u64 ((takeB l k).1 : Int), v, .int .i64 ((takeB l k).2.2 : Int)]) ∧ BytesAt w' v (takeB l k).2.1 ∧ Below w.heap.size w w' := by
  refine (kTakeS_any va l k w ha hl).mono ?_
  rintro e w' ⟨v, h1, h2, _, h3⟩
  exact ⟨v, h1, h2.kept h3, h3⟩
end Go.Proofs.Ytmmaodcihpgdfaa
