/- Stage 18: queues of numbers by definition; the document's Put, Drop, At. -/
import Derived.Test.YtdoanlemoegikaaGraphRefA
import Derived.Test.YtdoanlemoegikaaApp1
import Derived.Test.YtdoanlemoegikaaGraphMathC
namespace Go.Proofs.Ytdoanlemoegikaa
open Go.RowKit

/-- what a put makes of a list; 6: it is in it; 9: it is full -/
def putF (l : List Int) (room x : Int) : List Int × Int := if x ∈ l then (l, 6) else if room ≤ (l.length : Int) then (l, 9) else (l ++ [x], 0)
def dropF (l : List Int) (x : Int) : List Int := l.filter fun y => decide (y ≠ x)
def wasF (l : List Int) (x : Int) : Bool := decide ((dropF l x).length < l.length)
theorem dropF_len (l : List Int) (x : Int) : (dropF l x).length ≤ l.length := List.length_filter_le _ _
theorem putF_len (l : List Int) (room x : Int) : (putF l room x).1.length ≤ l.length + 1 := by
  unfold putF
  split
  · simp
  · split <;> simp
theorem dropF_mem (l : List Int) (x y : Int) : y ∈ dropF l x ↔ y ∈ l ∧ y ≠ x := by simp [dropF]
theorem wasF_iff (l : List Int) (x : Int) : wasF l x = inL l x := by
  unfold wasF inL
  by_cases h : x ∈ l
  · rw [decide_eq_true h]
    exact decide_eq_true (List.length_filter_lt_length_iff_exists.2 ⟨x, h, by simp⟩)
  · rw [decide_eq_false h]
    refine decide_eq_false fun hlt => ?_
    obtain ⟨y, hy, hn⟩ := List.length_filter_lt_length_iff_exists.1 hlt
    have : y = x := by simpa using hn
    exact h (this ▸ hy)
/-- a list in place of another one: of that one's memory, or of new memory -/
def FromV (va v : Value) (n n' B : Nat) : Prop := 0 < n' → ∀ k, v.ownBlock = some k → (va.ownBlock = some k ∧ 0 < n) ∨ B ≤ k
theorem FromV.self (va : Value) (n B : Nat) : FromV va va n n B := fun h0 _ hk => .inl ⟨hk, h0⟩
theorem OwnI.from_ {w : World} {B n n' : Nat} {v va : Value} {l : List Int} (h : OwnI w B v l) : FromV va v n n' B := fun _ k hk => .inr (World.ownsRow.lt h k hk).1

set_option maxHeartbeats 8000000 in
set_option maxRecDepth 100000 in
theorem refDropF_any (va : Value) (l : List Int) (x : Int) (W : World) (ha : IntsAt W va l) (hl : l.length ≤ 2000) :
    Calls Try.prog 21 #[va, .int .i64 x] W fun e w' => ∃ v, e = .returned (.tuple #[v, .bool (wasF l x)]) ∧ OwnI w' W.heap.size v (dropF l x) ∧ Below W.heap.size W w' := by
  have HA := Lib.hid ha
  obtain ⟨a, c, rfl⟩ := IntsAt.form ha
  have HL := Lib.hid hl
  have hw : wasF l x = decide ((dropF l x).length < l.length) := rfl
  obtain ⟨t, ht⟩ : ∃ t, wasF l x = t := ⟨_, rfl⟩
  rw [ht] at hw ⊢
  have HW := Lib.hid hw
  clear ha ht hw
  go_enter Try.func21, Try.ntmps21
  go_wp2
  go_loopw [6, 7] (fun tv iv wr => ∃ i : Nat, i ≤ l.length ∧ iv = .int .i64 i ∧ OwnI wr W.heap.size tv (dropF (l.take i) x) ∧ Below W.heap.size W wr) (fun _ iv _ => l.length - (intOf iv).toNat)
  case atStart => exact ⟨0, by omega, rfl, OwnR.nil _ _ _ _ _, Below.refl _ _⟩
  case round =>
    obtain ⟨i, hi, rfl, ho, hB⟩ := hrel
    have HO3 := Lib.hid ho
    have HB3 := Lib.hid hB
    by_cases hlt : i < l.length
    · obtain ⟨g, o, cc, e, hlc, hg, p0⟩ := (IntsAt.below HA.out hB).spot i hlt
      cases e
      have HLT := Lib.hid hlt
      have K0 : (0 : Int) ≤ (i : Int) := by omega
      have K1 : (i : Int) < (l.length : Int) := by omega
      have K2 : (i : Int) ≤ 2000 := by have := HL.out; omega
      have hnx : dropF (l.take (i + 1)) x = dropF (l.take i) x ++ (if l[i]'hlt = x then [] else [l[i]'hlt]) := by
        unfold dropF
        rw [List.take_succ_eq_append_getElem hlt, List.filter_append]
        congr 1
        by_cases h : l[i]'hlt = x <;> simp [h]
      have hfl : (dropF (l.take i) x).length ≤ 2000 := Nat.le_trans (dropF_len _ _) (by rw [List.length_take]; have := HL.out; omega)
      generalize l[i]'hlt = y at *
      have HFL := Lib.hid hfl
      clear ho hB hfl
      by_cases hyx : y = x
      · rw [if_pos hyx, List.append_nil] at hnx
        subst hyx
        have HNX := Lib.hid hnx
        clear hnx
        go_wp2
        go_roundw
        case rel => exact ⟨i + 1, by have := HLT.out; omega, by go_num, by rw [HNX.out]; exact HO3.out, HB3.out⟩
        case measure => have := HLT.out; simp [intOf] <;> omega
      · rw [if_neg hyx] at hnx
        have g1 : (y == x) = false := beq_noI hyx
        have HNX := Lib.hid hnx
        clear hnx hyx
        generalize dropF (l.take i) x = T at *
        obtain ⟨aT, cT, e⟩ := RowsAt.form (OwnR.rows csI_len HO3.out)
        subst e
        go_wp2_with (at_builtin; refine app1 HO3.out HB3.out.size (by have := HFL.out; omega) rfl _ _ rfl rfl rfl ?_; intro v6 w6 o6 b6; have HO6 := Lib.hid o6; have HB6 := Lib.hid (HB3.out.trans b6); clear o6 b6 p0)
        go_roundw
        case rel => exact ⟨i + 1, by have := HLT.out; omega, by go_num, by rw [HNX.out]; exact HO6.out, HB6.out⟩
        case measure => have := HLT.out; simp [intOf] <;> omega
    · have hke : i = l.length := by omega
      subst hke
      rw [List.take_length] at HO3
      have hdd : decide (((dropF l x).length : Int) < (l.length : Int)) = t := by
        rw [HW.out]
        by_cases h : (dropF l x).length < l.length
        · rw [decide_eq_true h]; exact decide_eq_true (by omega)
        · rw [decide_eq_false h]; exact decide_eq_false (by omega)
      have hd2 : decide ((dropF l x).length < l.length) = t := HW.out.symm
      obtain ⟨aT, cT, e⟩ := RowsAt.form (OwnR.rows csI_len HO3.out)
      subst e
      obtain ⟨D, hD⟩ : ∃ D, dropF l x = D := ⟨_, rfl⟩
      rw [hD] at HO3 hdd hd2 ⊢
      have HD := Lib.hid hD
      clear hD
      clear ho hB hlt
      go_wp2
      exact bodyPost_ret (v := .tuple #[.slice aT D.length cT, .bool t]) (by simp [results, Try.results21, go_sem]) rfl ⟨_, rfl, by rw [HD.out]; exact HO3.out, HB3.out⟩

end Go.Proofs.Ytdoanlemoegikaa
