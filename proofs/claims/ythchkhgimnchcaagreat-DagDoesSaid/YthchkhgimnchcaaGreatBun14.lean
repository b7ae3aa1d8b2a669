/- Texts of this proof, joined: PlanRefG; PlanRefH; PlanRefI; SkillMath; SkillRefA; TkRef; TkA; PlanA; PlanB; PlanC; TkB; TkC; ArrEq. -/
import Derived.Test.YthchkhgimnchcaaGreatBun13
import Derived.Test.YthchkhgimnchcaaGreatRows
import Derived.BigQuiet
import Derived.Stop.BytesEq
/- The walks of the document's answers for layer 7: what a way goes through. -/
namespace Go.Proofs.YthchkhgimnchcaaGreat
open Go.RowKit

theorem putR_len (n : Int) (l : List Int) : ∀ d, (putR n l d).length ≤ l.length + (if d = true then 0 else 1) := by
  induction l with
  | nil => intro d; cases d <;> simp [putR]
  | cons x l ih =>
    intro d
    unfold putR
    rw [List.length_append, List.length_append]
    have h1 := ih (d || decide (n ≤ x))
    have h2 : (if x ≠ n then [x] else []).length ≤ 1 := by split <;> simp
    have h3 : (if d = false ∧ n ≤ x then [n] else []).length + (if (d || decide (n ≤ x)) = true then 0 else 1) ≤ (if d = true then 0 else 1) := by
      cases d <;> by_cases h : n ≤ x <;> simp [h]
    simp only [List.length_cons]
    omega
theorem crs7_len (hit : Ais → Bool) (l : List Ais) : (crs7 hit l).length ≤ l.length := by
  have key : ∀ k, k ≤ l.length → (crs7 hit (l.take k)).length ≤ k := by
    intro k
    induction k with
    | zero => intro _; simp [crs7]
    | succ k ih =>
      intro hk
      have h0 := ih (by omega)
      rw [crs7_next hit l k (by omega)]
      split
      · have := putR_len (pa l k).id (crs7 hit (l.take k)) false
        simp at this
        omega
      · omega
  have := key l.length (Nat.le_refl _)
  rwa [List.take_length] at this
theorem crs7_len' (hit : Ais → Bool) (l : List Ais) (k : Nat) : (crs7 hit (l.take k)).length ≤ l.length := by
  have := crs7_len hit (l.take k)
  rw [List.length_take] at this
  omega
theorem hit_next (a : Ais) (w : List (Int × Int)) (j : Nat) (h : j < w.length) : hitB (w.take (j + 1)) a = (hitB (w.take j) a || hasB a (pat w j).1 (pat w j).2) := by
  unfold hitB
  rw [List.take_add_one, pat_get w j h]
  simp
theorem hit_front {a : Ais} {w : List (Int × Int)} {j : Nat} (h : hitB (w.take j) a = true) : hitB w a = true := by
  unfold hitB at *
  rw [List.any_eq_true] at *
  obtain ⟨z, h1, h2⟩ := h
  exact ⟨z, List.mem_of_mem_take h1, h2⟩

end Go.Proofs.YthchkhgimnchcaaGreat
/- The walks of the document's answers for layer 7: aisles moved. -/
namespace Go.Proofs.YthchkhgimnchcaaGreat
open Go.RowKit

/-- an aisle moved -/
def mvA (n x y : Int) (a : Ais) : Ais :=
  ⟨a.id, min (rmv n x y (a.lx, a.ly)).1 (rmv n x y (a.hx, a.hy)).1, min (rmv n x y (a.lx, a.ly)).2 (rmv n x y (a.hx, a.hy)).2,
    max (rmv n x y (a.lx, a.ly)).1 (rmv n x y (a.hx, a.hy)).1, max (rmv n x y (a.lx, a.ly)).2 (rmv n x y (a.hx, a.hy)).2⟩
theorem take_map_ais (f : Ais → Ais) (l : List Ais) (k : Nat) (h : k < l.length) : (l.take (k + 1)).map f = (l.take k).map f ++ [f (pa l k)] := by
  rw [List.take_succ_eq_append_getElem h, List.map_append, pa_get l k h]
  rfl
theorem OwnR.ltP {α : Type} {w : World} {B : Nat} {e : TypeId} {K : Nat} {cs : α → List Value} {v : Value} {l : List α} (h : OwnR w B e K cs v l) {k : Nat} (hk : w.heap.size ≤ k) : v.ownBlock ≠ some k := by
  rcases h.2 with ⟨rfl, _⟩ | ⟨g, cap, cur, rfl, _, hh, _⟩
  · simp [Value.ownBlock]
  · have := lt_of_block hh
    simp [Value.ownBlock]
    omega
end Go.Proofs.YthchkhgimnchcaaGreat
/- The walks of the document's answers for layer 7: is it a plan. -/
namespace Go.Proofs.YthchkhgimnchcaaGreat
open Go.RowKit

end Go.Proofs.YthchkhgimnchcaaGreat
/- Stage 12: sets of skills as numbers; their lists, signs and texts: plain mathematics. -/
namespace Go.Proofs.YthchkhgimnchcaaGreat

/-- the skills below k -/
def lsS (w k : Nat) : List Nat := (List.range k).filter fun n => w.testBit n
theorem lsS_succ (w k : Nat) : lsS w (k + 1) = lsS w k ++ (if w.testBit k then [k] else []) := by
  unfold lsS
  rw [List.range_succ, List.filter_append]
  congr 1
  by_cases h : w.testBit k = true
  · simp [h]
  · simp [h]
theorem lsS_len (w k : Nat) : (lsS w k).length ≤ k := by
  have := List.length_filter_le (fun n => w.testBit n) (List.range k)
  rwa [List.length_range] at this
theorem mem_lsS (w k n : Nat) : n ∈ lsS w k ↔ n < k ∧ w.testBit n = true := by simp [lsS]
theorem lsS_pre (w k : Nat) : ∀ j, lsS w k <+: lsS w (k + j)
  | 0 => List.prefix_refl _
  | j + 1 => by
    rw [← Nat.add_assoc, lsS_succ]
    exact (lsS_pre w k j).trans (List.prefix_append _ _)

/-- the number of those of which P tells -/
def ofS (P : Nat → Bool) : Nat → Nat
  | 0 => 0
  | k + 1 => ofS P k + if P k then 2 ^ k else 0
theorem ofS_lt (P : Nat → Bool) : ∀ k, ofS P k < 2 ^ k
  | 0 => by simp [ofS]
  | k + 1 => by
    have := ofS_lt P k
    have e : 2 ^ (k + 1) = 2 ^ k + 2 ^ k := by rw [Nat.pow_succ]; omega
    unfold ofS
    split <;> omega
theorem ofS_congr {P Q : Nat → Bool} : ∀ k, (∀ n, n < k → P n = Q n) → ofS P k = ofS Q k
  | 0, _ => rfl
  | k + 1, h => by
    unfold ofS
    rw [ofS_congr k fun n hn => h n (by omega), h k (by omega)]
theorem ofS_bits (w : Nat) : ∀ k, ofS (fun n => w.testBit n) k = w % 2 ^ k
  | 0 => by simp [ofS, Nat.mod_one]
  | k + 1 => by
    unfold ofS
    rw [ofS_bits w k, Nat.pow_succ, Nat.mod_mul, Nat.testBit_eq_decide_div_mod_eq]
    rcases Nat.mod_two_eq_zero_or_one (w / 2 ^ k) with h | h <;> simp [h]
theorem ofS_list (w : Nat) (hw : w < 2 ^ 64) : ofS (fun n => decide (n ∈ lsS w 64)) 64 = w := by
  rw [ofS_congr (Q := fun n => w.testBit n) 64 (fun n hn => by
    by_cases h : w.testBit n = true
    · rw [h, decide_eq_true ((mem_lsS w 64 n).2 ⟨hn, h⟩)]
    · rw [decide_eq_false (fun hm => h ((mem_lsS w 64 n).1 hm).2)]
      simpa using h), ofS_bits]
  exact Nat.mod_eq_of_lt hw
theorem lsS_inj {a b : Nat} (ha : a < 2 ^ 64) (hb : b < 2 ^ 64) (h : lsS a 64 = lsS b 64) : a = b := by
  rw [← ofS_list a ha, ← ofS_list b hb, h]

/-- has a all that b has, below k? -/
def hasK (a b : Nat) : Nat → Bool
  | 0 => true
  | k + 1 => hasK a b k && (!b.testBit k || a.testBit k)
theorem hasK_iff (a b : Nat) : ∀ k, hasK a b k = true ↔ ∀ n, n < k → b.testBit n = true → a.testBit n = true
  | 0 => by simp [hasK]
  | k + 1 => by
    unfold hasK
    rw [Bool.and_eq_true, hasK_iff a b k]
    constructor
    · rintro ⟨h1, h2⟩ n hn hb
      rcases Nat.lt_or_ge n k with h | h
      · exact h1 n h hb
      · have : n = k := by omega
        subst this
        simpa [hb] using h2
    · intro h
      refine ⟨fun n hn => h n (by omega), ?_⟩
      cases hb : b.testBit k with
      | false => rfl
      | true => simp [h k (by omega) hb]
theorem hasK_self (a : Nat) : hasK a a 64 = true := (hasK_iff a a 64).2 fun _ _ h => h
theorem hasK_and (a b : Nat) : hasK a (a &&& b) 64 = true := (hasK_iff a (a &&& b) 64).2 fun n _ h => by
  rw [Nat.testBit_and, Bool.and_eq_true] at h
  exact h.1
theorem hasK_or (a b : Nat) : hasK (a ||| b) b 64 = true := (hasK_iff (a ||| b) b 64).2 fun n _ h => by
  rw [Nat.testBit_or, h, Bool.or_true]
theorem hasK_trans {a b c : Nat} (h1 : hasK a b 64 = true) (h2 : hasK b c 64 = true) : hasK a c 64 = true :=
  (hasK_iff a c 64).2 fun n hn h => (hasK_iff a b 64).1 h1 n hn ((hasK_iff b c 64).1 h2 n hn h)
theorem hasK_anti {a b : Nat} (ha : a < 2 ^ 64) (hb : b < 2 ^ 64) (h1 : hasK a b 64 = true) : hasK b a 64 = decide (a = b) := by
  by_cases h : a = b
  · subst h
    rw [hasK_self, decide_eq_true rfl]
  · rw [decide_eq_false h]
    cases h2 : hasK b a 64 with
    | false => rfl
    | true =>
      refine absurd (lsS_inj ha hb ?_) h
      unfold lsS
      refine List.filter_congr fun n hn => ?_
      have hn := List.mem_range.1 hn
      have e1 := (hasK_iff a b 64).1 h1 n hn
      have e2 := (hasK_iff b a 64).1 h2 n hn
      cases h3 : a.testBit n with
      | true => exact (e2 h3).symm
      | false =>
        cases h4 : b.testBit n with
        | true => rw [e1 h4] at h3; cases h3
        | false => rfl
theorem count_le {a b : Nat} (h : hasK a b 64 = true) : (lsS b 64).length ≤ (lsS a 64).length := by
  have key : ∀ k, k ≤ 64 → (lsS b k).length ≤ (lsS a k).length := by
    intro k
    induction k with
    | zero => intro _; simp [lsS]
    | succ k ih =>
      intro hk
      have h1 := ih (by omega)
      have h2 := (hasK_iff a b 64).1 h k (by omega)
      rw [lsS_succ, lsS_succ, List.length_append, List.length_append]
      cases h3 : b.testBit k with
      | true => simp [h2 h3]; omega
      | false => cases a.testBit k <;> simp <;> omega
  exact key 64 (Nat.le_refl _)
theorem count_sum (a b : Nat) : ∀ k, (lsS (a &&& b) k).length + (lsS (a ||| b) k).length = (lsS a k).length + (lsS b k).length
  | 0 => by simp [lsS]
  | k + 1 => by
    have h := count_sum a b k
    rw [lsS_succ, lsS_succ, lsS_succ, lsS_succ, List.length_append, List.length_append, List.length_append, List.length_append, Nat.testBit_and, Nat.testBit_or]
    cases a.testBit k <;> cases b.testBit k <;> simp <;> omega

/-! ### Signs and texts -/
def sgL : List UInt8 := [97, 98, 99, 100, 101, 102, 103, 104, 105, 106, 107, 108, 109, 110, 111, 112, 113, 114, 115, 116, 117, 118, 119, 120, 121, 122, 65, 66, 67, 68, 69, 70, 71, 72, 73, 74, 75, 76, 77, 78, 79, 80, 81, 82, 83, 84, 85, 86, 87, 88, 89, 90, 48, 49, 50, 51, 52, 53, 54, 55, 56, 57, 43, 47]
def sg (n : Nat) : UInt8 := sgL.getD n 0
theorem sg_inj : ∀ m, m < 64 → ∀ n, n < 64 → sg m = sg n → m = n := by decide +kernel
theorem sg_no : ∀ m, m < 64 → sg m ≠ 45 := by decide +kernel
def txtK (w k : Nat) : List UInt8 := (lsS w k).map sg
theorem txtK_succ (w k : Nat) : txtK w (k + 1) = txtK w k ++ (if w.testBit k then [sg k] else []) := by
  unfold txtK
  rw [lsS_succ, List.map_append]
  congr 1
  by_cases h : w.testBit k = true
  · simp [h]
  · simp [h]
theorem txtK_len (w k : Nat) : (txtK w k).length ≤ k := by
  unfold txtK
  rw [List.length_map]
  exact lsS_len w k
def txtS (w : Nat) : List UInt8 := if txtK w 64 = [] then [45] else txtK w 64
/-- what has been read of a text behind k signs -/
def parK (s : List UInt8) : Nat → List Nat
  | 0 => []
  | k + 1 => if s[(parK s k).length]? = some (sg k) then parK s k ++ [k] else parK s k
theorem parK_len (s : List UInt8) : ∀ k, (parK s k).length ≤ k
  | 0 => by simp [parK]
  | k + 1 => by
    have := parK_len s k
    unfold parK
    split
    · rw [List.length_append]; simp; omega
    · omega
theorem parK_mem (s : List UInt8) : ∀ k, ∀ n ∈ parK s k, n < k
  | 0, n, h => by simp [parK] at h
  | k + 1, n, h => by
    unfold parK at h
    split at h
    · rw [List.mem_append] at h
      rcases h with h | h
      · have := parK_mem s k n h; omega
      · simp at h; omega
    · have := parK_mem s k n h; omega
theorem parK_fits (s : List UInt8) : ∀ k, (parK s k).length ≤ s.length
  | 0 => by simp [parK]
  | k + 1 => by
    have h := parK_fits s k
    unfold parK
    split
    · rename_i h1
      have := (List.getElem?_eq_some_iff.1 h1).1
      rw [List.length_append]
      simp
      omega
    · exact h
def parS (s : List UInt8) : Nat × Bool := if s = [45] then (0, true) else if (parK s 64).length < s.length ∨ s = [] then (0, false) else (ofS (fun n => decide (n ∈ parK s 64)) 64, true)
theorem parK_txt (w : Nat) : ∀ k, k ≤ 64 → parK (txtK w 64) k = lsS w k
  | 0, _ => by simp [parK, lsS]
  | k + 1, hk => by
    have ih := parK_txt w k (by omega)
    obtain ⟨r, hr⟩ := lsS_pre w (k + 1) (64 - (k + 1))
    rw [show k + 1 + (64 - (k + 1)) = 64 by omega] at hr
    unfold parK
    rw [ih, lsS_succ]
    by_cases hb : w.testBit k = true
    · rw [if_pos hb]
      rw [lsS_succ, if_pos hb] at hr
      rw [if_pos]
      unfold txtK
      rw [← hr]
      simp
    · rw [if_neg hb, List.append_nil]
      rw [if_neg]
      intro h
      unfold txtK at h
      rw [List.getElem?_map] at h
      obtain ⟨m, hm, e⟩ := Option.map_eq_some_iff.1 h
      have h1 := (mem_lsS w 64 m).1 (List.mem_of_getElem? hm)
      have := sg_inj m h1.1 k (by omega) e
      subst this
      exact hb h1.2
theorem par_txt (w : Nat) (hw : w < 2 ^ 64) : parS (txtS w) = (w, true) := by
  unfold parS txtS
  by_cases h0 : txtK w 64 = []
  · rw [if_pos h0, if_pos rfl]
    have hl : lsS w 64 = [] := by simpa [txtK] using h0
    have := ofS_list w hw
    rw [hl] at this
    have e : ofS (fun n => decide (n ∈ ([] : List Nat))) 64 = 0 := by decide +kernel
    rw [e] at this
    rw [← this]
  · rw [if_neg h0, parK_txt w 64 (Nat.le_refl _)]
    have h1 : txtK w 64 ≠ [45] := fun h => by
      have : (45 : UInt8) ∈ txtK w 64 := by rw [h]; exact List.mem_singleton_self _
      unfold txtK at this
      obtain ⟨m, hm, e⟩ := List.mem_map.1 this
      exact sg_no m ((mem_lsS w 64 m).1 hm).1 e
    rw [if_neg h1, if_neg]
    · rw [ofS_list w hw]
    · rintro (h | h)
      · unfold txtK at h
        rw [List.length_map] at h
        omega
      · exact h0 h
theorem txt_inj {a b : Nat} (ha : a < 2 ^ 64) (hb : b < 2 ^ 64) (h : txtS a = txtS b) : a = b := by
  have h1 := par_txt a ha
  rw [h, par_txt b hb] at h1
  exact (Prod.mk.inj h1).1.symm
theorem txtS_len (w : Nat) : (txtS w).length ≤ 64 := by
  unfold txtS
  split
  · simp
  · exact txtK_len w 64
theorem parS_lt (s : List UInt8) : (parS s).1 < 2 ^ 64 := by
  unfold parS
  split
  · decide
  · split
    · decide
    · exact ofS_lt _ 64
end Go.Proofs.YthchkhgimnchcaaGreat
/- Stage 12: the document's Is, List, Of, Has. -/
namespace Go.Proofs.YthchkhgimnchcaaGreat
open Go.RowKit

theorem half_step (w k : Nat) : ((w / 2 ^ k : Nat) : Int) / 2 = ((w / 2 ^ (k + 1) : Nat) : Int) := by
  rw [Nat.pow_succ, ← Nat.div_div_eq_div_mul]
  omega

/-- skills as numbers of a list -/
def ints (l : List Nat) : List Int := l.map fun (n : Nat) => (n : Int)
theorem ints_append (a b : List Nat) : ints (a ++ b) = ints a ++ ints b := List.map_append
theorem ints_len (l : List Nat) : (ints l).length = l.length := List.length_map ..

theorem oneI (w : World) (n : Int) : RowsAt (w.alloc (.cells #[.int .i64 n] 3)) 1 csI (.slice (some ⟨w.heap.size, 0, none⟩) 1 1) [n] := by
  refine ⟨_, 1, rfl, Nat.le_refl _, fun _ => ⟨w.heap.size, 0, rfl, by simp, fun j x hj i u hu => ?_⟩⟩
  have h0 : j = 0 ∧ x = n := by
    cases j with
    | zero => simp at hj; exact ⟨rfl, hj.symm⟩
    | succ j => simp at hj
  obtain ⟨rfl, rfl⟩ := h0
  have h1 : i = 0 ∧ u = .int .i64 x := by
    cases i with
    | zero => simp [csI] at hu; exact ⟨rfl, hu.symm⟩
    | succ i => simp [csI] at hu
  obtain ⟨rfl, rfl⟩ := h1
  go_simp
theorem csI_one (n : Int) : ∀ u ∈ csI n, u.oneCell' = true := by
  intro u hu
  simp [csI] at hu
  subst hu
  rfl

end Go.Proofs.YthchkhgimnchcaaGreat
/- Stage 22: the document's answers. -/
namespace Go.Proofs.YthchkhgimnchcaaGreat
open Go.RowKit

theorem refID22_any (n : Int) (w : World) : Calls Tryz.prog 62 #[.int .i64 n] w fun e w' => e = .returned (.bool (inB n 1 999)) ∧ w = w' := by
  have h : inB n 1 999 = (decide (1 ≤ n) && decide (n ≤ 999)) := by unfold inB; simp
  by_cases h1 : 1 ≤ n
  · by_cases h2 : n ≤ 999
    all_goals
      have H := Lib.hid (show inB n 1 999 = decide (n ≤ 999) by rw [h, decide_eq_true h1, Bool.true_and])
      clear h
      go_enter Tryz.func62, Tryz.ntmps62
      go_wp2
      go_ret
      exact ⟨ret_b (by rw [H.out]; simp [*]), rfl⟩
  · have H := Lib.hid (show inB n 1 999 = false by rw [h, decide_eq_false h1, Bool.false_and])
    clear h
    go_enter Tryz.func62, Tryz.ntmps62
    go_wp2
    go_ret
    exact ⟨ret_b H.out.symm, rfl⟩
/-- a spec's box, a rules' box -/
theorem boxS (w : World) (id prio sk ge fx fy tx ty : Int) (v : Value) : Blk (w.alloc (.cells #[.int .i64 id, .int .i64 prio, .int .u64 sk, .int .u64 ge, .int .i64 fx, .int .i64 fy, .int .i64 tx, .int .i64 ty, v] 49)) w.heap.size [.int .i64 id, .int .i64 prio, .int .u64 sk, .int .u64 ge, .int .i64 fx, .int .i64 fy, .int .i64 tx, .int .i64 ty, v] := Blk.new w _ _
set_option maxHeartbeats 8000000 in
set_option maxRecDepth 100000 in
theorem refCheck22_any (x : Sp) (w : World) (ha : IntsAt w x.v x.aft) (_hl : x.aft.length ≤ 9223372036854775807) :
    Calls Tryz.prog 46 #[spv x] w fun e w' => e = .returned (.int .i64 (chk x)) ∧ Below w.heap.size w w' := by
  have hways := num_ways x
  have h2 := @chk_two x
  have h1 := @chk_one x
  have h0 := @chk_zero x
  obtain ⟨r, hr⟩ : ∃ r, chk x = r := ⟨_, rfl⟩
  rw [hr] at h2 h1 h0 ⊢
  generalize numS x = ns at *
  obtain ⟨id, prio, sk, ge, fx, fy, tx, ty, a, c, l⟩ := x
  dsimp only [Sp.v, spv] at *
  clear hr
  have HAL := Lib.hid ((Below.refl w.heap.size w).alloc (Nat.le_refl _) (.cells #[.int .i64 id, .int .i64 prio, .int .u64 sk, .int .u64 ge, .int .i64 fx, .int .i64 fy, .int .i64 tx, .int .i64 ty, .slice a l.length c] 49))
  have HX := Lib.hid (boxS w id prio sk ge fx fy tx ty (.slice a l.length c))
  have HI := Lib.hid (ha.below HAL.out)
  have c0 := HX.out.cell 0 rfl
  have c1 := HX.out.cell 1 rfl
  have c4 := HX.out.cell 4 rfl
  have c5 := HX.out.cell 5 rfl
  have GS1 := Lib.hid fun w => refSmall_any fx fy 1000 w (by omega) (by omega)
  have GS2 := Lib.hid fun w => refSmall_any tx ty 1000 w (by omega) (by omega)
  have GI := Lib.hid fun w => refID22_any id w
  generalize smallB fx fy 1000 = s1 at *
  generalize smallB tx ty 1000 = s2 at *
  generalize inB id 1 999 = i1 at *
  clear ha
  rcases hways with ⟨rfl, hw⟩ | ⟨rfl, rfl, p1, p2, rfl, rfl⟩
  · have e := h2 rfl
    subst e
    clear h2 h1 h0
    rcases hw with rfl | ⟨rfl, p1⟩ | ⟨rfl, p1, p2⟩ | ⟨rfl, p1, p2, rfl⟩ | ⟨rfl, p1, p2, rfl, rfl⟩
    all_goals
      go_enter Tryz.func46, Tryz.ntmps46
      go_wp2_with (first
        | (go_at_call 62; (with_reducible refine (GI.out _).mono ?_); rintro e w1 ⟨rfl, rfl⟩)
        | (go_at_call 63; (with_reducible refine (GS1.out _).mono ?_); rintro e w1 ⟨rfl, hb1⟩; replace HX := Lib.hid (HX.out.kept hb1); replace HAL := Lib.hid (HAL.out.trans (hb1.mono HAL.out.size)); clear hb1 c0 c1 c4 c5; have c6 := HX.out.cell 6 rfl; have c7 := HX.out.cell 7 rfl)
        | (go_at_call 63; (with_reducible refine (GS2.out _).mono ?_); rintro e w2 ⟨rfl, hb2⟩; replace HAL := Lib.hid (HAL.out.trans (hb2.mono HAL.out.size)); clear hb2))
      go_ret
      exact ⟨rfl, HAL.out⟩
  · have hw2 := aft_ways id l (h1 rfl) (h0 rfl)
    clear h2 h1 h0
    have GR := Lib.hid fun w h (h8 : ¬ 8 < (l.length : Int)) => refRight_any (.slice a l.length c) l w h (by omega)
    have GN := Lib.hid fun w h (h8 : ¬ 8 < (l.length : Int)) => refIn_any (.slice a l.length c) l id w h (by omega)
    obtain ⟨rt, hrt⟩ : ∃ rt, rightB l = rt := ⟨_, rfl⟩
    obtain ⟨nn, hnn⟩ : ∃ nn, inL l id = nn := ⟨_, rfl⟩
    rw [hrt] at GR hw2
    rw [hnn] at GN hw2
    clear hrt hnn
    rcases hw2 with ⟨rfl, hw2⟩ | ⟨h8, rfl, rfl, hr1, hr0⟩
    · rcases hw2 with h8 | ⟨h8, rfl⟩ | ⟨h8, rfl, rfl⟩
      all_goals
        have H8 := Lib.hid h8
        go_enter Tryz.func46, Tryz.ntmps46
        go_wp2_with (first
          | (go_at_call 62; (with_reducible refine (GI.out _).mono ?_); rintro e w1 ⟨rfl, rfl⟩)
          | (go_at_call 63; (with_reducible refine (GS1.out _).mono ?_); rintro e w1 ⟨rfl, hb1⟩; replace HX := Lib.hid (HX.out.kept hb1); replace HI := Lib.hid (HI.out.below hb1); replace HAL := Lib.hid (HAL.out.trans (hb1.mono HAL.out.size)); clear hb1 c0 c1 c4 c5; have c6 := HX.out.cell 6 rfl; have c7 := HX.out.cell 7 rfl)
          | (go_at_call 63; (with_reducible refine (GS2.out _).mono ?_); rintro e w2 ⟨rfl, hb2⟩; replace HX := Lib.hid (HX.out.kept hb2); replace HI := Lib.hid (HI.out.below hb2); replace HAL := Lib.hid (HAL.out.trans (hb2.mono HAL.out.size)); clear hb2 c6 c7; have c8 := HX.out.cell 8 rfl)
          | (go_at_call 64; (with_reducible refine (GR.out _ HI.out H8.out).mono ?_); rintro e w3 ⟨rfl, hb3⟩; replace HX := Lib.hid (HX.out.kept hb3); replace HI := Lib.hid (HI.out.below hb3); replace HAL := Lib.hid (HAL.out.trans (hb3.mono HAL.out.size)); clear hb3 c8; have c8 := HX.out.cell 8 rfl; have c0 := HX.out.cell 0 rfl)
          | (go_at_call 32; (with_reducible refine (GN.out _ HI.out H8.out).mono ?_); rintro e w4 ⟨rfl, rfl⟩))
        go_ret
        exact ⟨rfl, HAL.out⟩
    · have H8 := Lib.hid h8
      have HR1 := Lib.hid hr1
      have HR0 := Lib.hid hr0
      clear hr1 hr0
      go_enter Tryz.func46, Tryz.ntmps46
      go_wp2_with (first
        | (go_at_call 62; (with_reducible refine (GI.out _).mono ?_); rintro e w1 ⟨rfl, rfl⟩)
        | (go_at_call 63; (with_reducible refine (GS1.out _).mono ?_); rintro e w1 ⟨rfl, hb1⟩; replace HX := Lib.hid (HX.out.kept hb1); replace HI := Lib.hid (HI.out.below hb1); replace HAL := Lib.hid (HAL.out.trans (hb1.mono HAL.out.size)); clear hb1 c0 c1 c4 c5; have c6 := HX.out.cell 6 rfl; have c7 := HX.out.cell 7 rfl)
        | (go_at_call 63; (with_reducible refine (GS2.out _).mono ?_); rintro e w2 ⟨rfl, hb2⟩; replace HX := Lib.hid (HX.out.kept hb2); replace HI := Lib.hid (HI.out.below hb2); replace HAL := Lib.hid (HAL.out.trans (hb2.mono HAL.out.size)); clear hb2 c6 c7; have c8 := HX.out.cell 8 rfl)
        | (go_at_call 64; (with_reducible refine (GR.out _ HI.out H8.out).mono ?_); rintro e w3 ⟨rfl, hb3⟩; replace HX := Lib.hid (HX.out.kept hb3); replace HI := Lib.hid (HI.out.below hb3); replace HAL := Lib.hid (HAL.out.trans (hb3.mono HAL.out.size)); clear hb3 c8; have c8 := HX.out.cell 8 rfl; have c0 := HX.out.cell 0 rfl)
        | (go_at_call 32; (with_reducible refine (GN.out _ HI.out H8.out).mono ?_); rintro e w4 ⟨rfl, rfl⟩))
      go_loopw [3] (fun iv wr => ∃ k : Nat, k ≤ l.length ∧ iv = .int .i64 k ∧ idsB (l.take k) = true ∧ w3 = wr) (fun iv _ => l.length - (Go.RowKit.intOf iv).toNat)
      case atStart => exact ⟨0, by omega, rfl, rfl, rfl⟩
      case round =>
        obtain ⟨k, hk, rfl, hids, rfl⟩ := hrel
        have k2 : (k : Int) ≤ 1000 := by have := H8.out; omega
        have k0 : (0 : Int) ≤ (k : Int) := by omega
        by_cases hlt : k < l.length
        · obtain ⟨g, o, cc, e, hlc, _, p0⟩ := IntsAt.spot HI.out k hlt
          cases e
          have k1 : (k : Int) < (l.length : Int) := by omega
          have hyes := idsB_take hlt hids
          have hno := fun h => HR1.out (idsB_no hlt h)
          have HID := Lib.hid fun w => refID22_any l[k] w
          obtain ⟨b, hb⟩ : ∃ b, inB l[k] 1 999 = b := ⟨_, rfl⟩
          rw [hb] at HID hyes hno
          generalize l[k] = n at *
          cases b with
          | false =>
            have e := hno rfl
            subst e
            clear hyes hno hids hlt hb
            go_wp2_with (go_at_call 62; (with_reducible refine (HID.out _).mono ?_); rintro e w1 ⟨rfl, rfl⟩)
            go_ret
            exact ⟨rfl, HAL.out⟩
          | true =>
            have HY := Lib.hid (hyes rfl)
            clear hyes hno hids hb
            go_wp2_with (go_at_call 62; (with_reducible refine (HID.out _).mono ?_); rintro e w1 ⟨rfl, rfl⟩)
            go_roundw
            case rel => exact ⟨k + 1, by omega, by go_num, HY.out, by trivial⟩
            case measure => simp [Go.RowKit.intOf] <;> omega
        · have hke : k = l.length := by omega
          subst hke
          rw [List.take_length] at hids
          have e := HR0.out hids
          subst e
          clear hids hlt
          go_wp2
          go_ret
          exact ⟨rfl, HAL.out⟩

end Go.Proofs.YthchkhgimnchcaaGreat
/- Stage 22: the program's Check: bounds that are asked by a goto. -/
namespace Go.Proofs.YthchkhgimnchcaaGreat
open Go.RowKit

/-- a list of things in new memory -/
theorem rowsLit {α : Type} {cs : α → List Value} {K : Nat} (hK : ∀ x, (cs x).length = K) (w : World) (l : List α) (e : TypeId) (n : Nat) (hn : n = l.length) : RowsAt (w.alloc (.cells (flats cs l).toArray e)) K cs (.slice (some ⟨w.heap.size, 0, none⟩) n n) l := by
  subst hn
  refine ⟨_, l.length, rfl, Nat.le_refl _, fun _ => ⟨w.heap.size, 0, rfl, by simp, fun j x hj i u hu => ?_⟩⟩
  have h := flats_at hK l j x hj i u hu
  rw [World.cell?_alloc_at _ _ _ _ rfl]
  simpa using h
abbrev bdv (b : Bd) : Value := .agg #[.int .i64 b.n, .int .i64 b.lo, .int .i64 b.hi]
theorem csBd_one (x : Bd) : ∀ u ∈ csBd x, u.oneCell' = true := by
  intro u hu
  simp [csBd] at hu
  rcases hu with rfl | rfl | rfl <;> rfl
theorem info_bd : (Tryz.prog.info? 121).map (fun i => (i.zero, i.size, i.bytes)) = some (some (.agg #[.int .i64 0, .int .i64 0, .int .i64 0]), 3, 24) := by kernel_rfl

set_option maxHeartbeats 1000000 in
theorem tOfID_any (n : Int) (w : World) : Calls Tryz.prog 86 #[.int .i64 n] w fun e w' => e = .returned (.agg #[.int .i64 n, .int .i64 1, .int .i64 999]) ∧ Below w.heap.size w w' := by
  have hX := Blk.new w [.int .i64 0, .int .i64 0, .int .i64 0] 121
  have c0 := hX.cell 0 rfl
  have c1 := hX.cell 1 rfl
  have c2 := hX.cell 2 rfl
  have z0 := hX.free 0 rfl
  have z1 := hX.free 1 rfl
  have z2 := hX.free 2 rfl
  have HB := Lib.hid ((Below.refl w.heap.size w).alloc (Nat.le_refl _) (.cells #[.int .i64 n, .int .i64 1, .int .i64 999] 121))
  clear hX
  go_enter Tryz.func86, Tryz.ntmps86
  go_wp2
  refine bodyPost_ret (v := .agg #[.int .i64 n, .int .i64 1, .int .i64 999]) ?_ rfl ⟨rfl, HB.out⟩
  simp [results, Tryz.results86, go_sem]
set_option maxHeartbeats 1000000 in
theorem tOfPart_any (n : Int) (w : World) : Calls Tryz.prog 87 #[.int .i64 n] w fun e w' => e = .returned (.agg #[.int .i64 n, .int .i64 (-1000), .int .i64 1000]) ∧ Below w.heap.size w w' := by
  have hX := Blk.new w [.int .i64 0, .int .i64 0, .int .i64 0] 121
  have c0 := hX.cell 0 rfl
  have c1 := hX.cell 1 rfl
  have c2 := hX.cell 2 rfl
  have z0 := hX.free 0 rfl
  have z1 := hX.free 1 rfl
  have z2 := hX.free 2 rfl
  have HB := Lib.hid ((Below.refl w.heap.size w).alloc (Nat.le_refl _) (.cells #[.int .i64 n, .int .i64 (-1000), .int .i64 1000] 121))
  clear hX
  go_enter Tryz.func87, Tryz.ntmps87
  go_wp2
  refine bodyPost_ret (v := .agg #[.int .i64 n, .int .i64 (-1000), .int .i64 1000]) ?_ rfl ⟨rfl, HB.out⟩
  simp [results, Tryz.results87, go_sem]

theorem kept_take {l : List Bd} {k : Nat} (hk : k < l.length) (h : (l.take k).all Bd.ok = true) (h2 : l[k].ok = true) : (l.take (k + 1)).all Bd.ok = true := by
  rw [List.take_succ_eq_append_getElem hk, List.all_append, h]
  simp [h2]
theorem kept_no {l : List Bd} {k : Nat} (hk : k < l.length) (h2 : l[k].ok = false) : l.all Bd.ok = false := by
  rw [List.all_eq_false]
  exact ⟨_, List.getElem_mem hk, by rw [h2]; exact Bool.false_ne_true⟩
theorem frame_of22 {A : Act} {F : (Nat → Value) → Act} (h : A = F (fun i => A.tmps.getD i undef)) : ∃ f, A = F f := ⟨_, h⟩

set_option maxHeartbeats 4000000 in
set_option maxRecDepth 100000 in
theorem tKept_any (va : Value) (l : List Bd) (w : World) (ha : RowsAt w 3 csBd va l) (hl : l.length ≤ 1000) :
    Calls Tryz.prog 85 #[va] w fun e w' => e = .returned (.bool (l.all Bd.ok)) ∧ Below w.heap.size w w' := by
  obtain ⟨r, hr⟩ : ∃ r, l.all Bd.ok = r := ⟨_, rfl⟩
  rw [hr]
  have HR := Lib.hid hr
  have HA := Lib.hid ha
  have HL := Lib.hid hl
  obtain ⟨a, c, rfl⟩ := RowsAt.form ha
  clear ha hr hl
  go_enter Tryz.func85, Tryz.ntmps85
  go_wp2
  refine wp_scope_goto 0 (fun n a' w' => ∃ (k : Nat) (z : Int), z = k ∧ n = l.length - k ∧ k ≤ l.length ∧ (l.take k).all Bd.ok = true ∧ Below w.heap.size w w' ∧ ∃ f : Nat → Value, a' = { tmps := #[.slice a l.length c, f 1, .bool false, .int .i64 z, f 4, f 5, f 6, f 7, f 8, f 9, f 10, f 11, f 12, f 13, f 14, f 15, f 16, f 17, f 18, f 19, f 20, f 21, f 22, f 23, f 24, f 25, f 26], defers := [] }) rfl rfl ?_ ?_
  · rintro n a' w' ⟨k, _, rfl, rfl, hk, hyes, hB, f, rfl⟩ K hK
    have HK := Lib.hid hK
    have HB := Lib.hid hB
    have k0 : (0 : Int) ≤ (k : Int) := by omega
    have k2 : (k : Int) ≤ 1000 := by have := HL.out; omega
    clear hK hB
    by_cases hlt : k < l.length
    · obtain ⟨g, o, cc, e, hlc, hg, hx⟩ := RowsAt.spot (HA.out.kept HB.out) k hlt
      cases e
      have k1 : (k : Int) < (l.length : Int) := by omega
      have ky := kept_take hlt hyes
      have kn := fun h => HR.out.symm.trans (kept_no hlt h)
      obtain ⟨b, hb⟩ : ∃ b, l[k] = b := ⟨_, rfl⟩
      rw [hb] at ky kn hx
      obtain ⟨n, lo, hi⟩ := b
      have p0 := hx 0 _ rfl
      have p1 := hx 1 _ rfl
      have p2 := hx 2 _ rfl
      dsimp only at p0 p1 p2
      rw [Nat.add_zero] at p0
      have hX := Blk.new w' [.int .i64 n, .int .i64 lo, .int .i64 hi] 121
      have d0 := hX.cell 0 rfl
      have d1 := hX.cell 1 rfl
      have d2 := hX.cell 2 rfl
      have HB1 := Lib.hid (HB.out.alloc HB.out.size (.cells #[.int .i64 n, .int .i64 lo, .int .i64 hi] 121))
      have hcase : (n < lo) ∨ (¬ n < lo ∧ hi < n) ∨ (¬ n < lo ∧ ¬ hi < n) := by omega
      unfold Bd.ok at ky kn
      dsimp only at ky kn
      clear hx hX hyes hb
      rcases hcase with h1 | ⟨h1, h2⟩ | ⟨h1, h2⟩
      · have e := kn (inB_no (by omega))
        subst e
        clear ky kn
        go_wp2
        simp only [Exit.jump]
        go_ret
        exact ⟨rfl, HB1.out⟩
      · have e := kn (inB_no (by omega))
        subst e
        clear ky kn
        go_wp2
        simp only [Exit.jump]
        go_ret
        exact ⟨rfl, HB1.out⟩
      · have KY := Lib.hid (ky (inB_yes (by omega) (by omega)))
        clear ky kn
        go_wp2
        go_step3
        exact ⟨rfl, HK.out (l.length - (k + 1)) _ _ (by omega) ⟨k + 1, _, by go_num, rfl, by omega, KY.out, HB1.out, frame_of22 rfl⟩⟩
    · have e : k = l.length := by omega
      subst e
      rw [List.take_length] at hyes
      have e := HR.out.symm.trans hyes
      subst e
      clear hyes hlt
      go_wp2
      simp only [Exit.jump]
      go_ret
      exact ⟨rfl, HB.out⟩
  · intro K hpass
    go_wp2
    go_step3
    rename_i hback
    exact hback _ _ (hpass _ _ _ ⟨0, _, rfl, rfl, by omega, rfl, Below.refl _ _, frame_of22 rfl⟩)
end Go.Proofs.YthchkhgimnchcaaGreat
/- The walks of package plan: its small functions. -/
namespace Go.Proofs.YthchkhgimnchcaaGreat
open Go.RowKit

theorem meet_is (a b : Ais) : meetB a b = decide (max a.lx b.lx ≤ min a.hx b.hx ∧ max a.ly b.ly ≤ min a.hy b.hy) := by
  unfold meetB hasB
  rw [← Bool.decide_and]
  apply decide_eq_decide.2
  omega

/-- both corners within the floor, in their order -/
def floorB (a : Ais) : Bool := decide (a.lx ≤ a.hx ∧ a.ly ≤ a.hy) && smallB a.lx a.ly 1000 && smallB a.hx a.hy 1000
theorem big_small (x y : Int) : decide (max (sz x) (sz y) ≤ 1000) = smallB x y 1000 := by
  unfold smallB sz fx
  apply decide_eq_decide.2
  omega

/-- where a way turns -/
def trn (h : Int) (a b : Int × Int) : Int × Int := if h = 1 then (a.1, b.2) else (b.1, a.2)
theorem pord_lt {a b : Nat} {x y : Int} (ha : Fl a x) (hb : Fl b y) : (FloatKind.f64.format.order a b == some .lt) = decide (x < y) := by
  rw [order_whole ha hb]
  rcases Int.lt_trichotomy x y with h | h | h
  · rw [show compare x y = .lt from Int.compare_eq_lt.2 h, decide_eq_true h]; rfl
  · rw [show compare x y = .eq from Int.compare_eq_eq.2 h, decide_eq_false (by omega)]; rfl
  · rw [show compare x y = .gt from Int.compare_eq_gt.2 h, decide_eq_false (by omega)]; rfl
theorem pord_gt {a b : Nat} {x y : Int} (ha : Fl a x) (hb : Fl b y) : (FloatKind.f64.format.order a b == some .gt) = decide (y < x) := by
  rw [order_whole ha hb]
  rcases Int.lt_trichotomy x y with h | h | h
  · rw [show compare x y = .lt from Int.compare_eq_lt.2 h, decide_eq_false (by omega)]; rfl
  · rw [show compare x y = .eq from Int.compare_eq_eq.2 h, decide_eq_false (by omega)]; rfl
  · rw [show compare x y = .gt from Int.compare_eq_gt.2 h, decide_eq_true h]; rfl
def sgn (x : Int) : Int := if x < 0 then -1 else if 0 < x then 1 else 0
end Go.Proofs.YthchkhgimnchcaaGreat
/- The walks of package plan: which aisle has a point, each two of a list. -/
namespace Go.Proofs.YthchkhgimnchcaaGreat
open Go.RowKit

theorem meet_pt (a : Ais) (x y : Int) : meetB a ⟨0, min x x, min y y, max x x, max y y⟩ = hasB a x y := by
  rw [meet_is]
  unfold hasB
  apply decide_eq_decide.2
  simp only
  omega

/-- a block of five cells -/
structure Cell5 (w : World) (b : Nat) (a : Ais) : Prop where
  c0 : w.cell? ⟨b, 0, none⟩ = some (.int .i64 a.id)
  c1 : w.cell? ⟨b, 1, none⟩ = some (.int .i64 a.lx)
  c2 : w.cell? ⟨b, 2, none⟩ = some (.int .i64 a.ly)
  c3 : w.cell? ⟨b, 3, none⟩ = some (.int .i64 a.hx)
  c4 : w.cell? ⟨b, 4, none⟩ = some (.int .i64 a.hy)
theorem Cell5.new (w : World) (a : Ais) (t : TypeId) : Cell5 (w.alloc (.cells #[.int .i64 a.id, .int .i64 a.lx, .int .i64 a.ly, .int .i64 a.hx, .int .i64 a.hy] t)) w.heap.size a :=
  ⟨by go_simp, by go_simp, by go_simp, by go_simp, by go_simp⟩
theorem Cell5.below {w w1 : World} {b B : Nat} {a : Ais} (h : Cell5 w b a) (hb : Below B w w1) (hB : b < B) : Cell5 w1 b a :=
  ⟨by rw [hb.cell hB]; exact h.c0, by rw [hb.cell hB]; exact h.c1, by rw [hb.cell hB]; exact h.c2, by rw [hb.cell hB]; exact h.c3, by rw [hb.cell hB]; exact h.c4⟩
theorem Cell5.kept {w w1 : World} {b : Nat} {a : Ais} (h : Cell5 w b a) (hb : Below w.heap.size w w1) : Cell5 w1 b a :=
  h.below hb (World.block_lt_of_cell? w _ h.c0)
theorem Cell5.alloc {w : World} {b : Nat} {a : Ais} (h : Cell5 w b a) (o : Obj) : Cell5 (w.alloc o) b a :=
  h.kept ((Below.refl _ _).alloc (Nat.le_refl _) _)

end Go.Proofs.YthchkhgimnchcaaGreat
/- The walks of package plan: whether aisles are a plan. -/
namespace Go.Proofs.YthchkhgimnchcaaGreat
open Go.RowKit

open Classical in
noncomputable def eachB (l : List Ais) : Bool := decide (∀ p q, p < q → q < l.length → meetB (pa l p) (pa l q) = false)
open Classical in
theorem eachB_yes {l : List Ais} (h : ∀ p q, p < q → q < l.length → meetB (pa l p) (pa l q) = false) : eachB l = true := decide_eq_true h
open Classical in
theorem eachB_no {l : List Ais} {p q : Nat} (h1 : p < q) (h2 : q < l.length) (h : meetB (pa l p) (pa l q) = true) : eachB l = false := decide_eq_false fun hh => by
  rw [hh p q h1 h2] at h
  cases h
theorem frame_of' {A : Act} {F : (Nat → Value) → Act} (h : A = F (fun i => A.tmps.getD i undef)) : ∃ f, A = F f := ⟨_, h⟩

theorem sq_le (L : Nat) (i : Nat) (h : i < L) : (L - (i + 1)) * (L + 2) + (L + 2) ≤ (L - i) * (L + 2) := by
  have : L - i = (L - (i + 1)) + 1 := by omega
  rw [this, Nat.add_mul]
  omega

/-- the ID ahead of the k-th -/
def pid (l : List Ais) (k : Nat) : Int := if k = 0 then 0 else (pa l (k - 1)).id
def stepB (l : List Ais) (k : Nat) : Bool := decide (pid l k < (pa l k).id ∧ (pa l k).id ≤ 999) && floorB (pa l k)
theorem pid_succ (l : List Ais) (k : Nat) : pid l (k + 1) = (pa l k).id := by unfold pid; rw [if_neg (by omega)]; rfl
theorem floor_iff (a : Ais) : floorB a = true ↔ valA a ∧ smallA a 1000 = true := by
  unfold floorB smallB valA
  rw [small_iff]
  simp only [Bool.and_eq_true, decide_eq_true_eq]
  omega
theorem right_of {l : List Ais} (h1 : l.length ≤ 32) (h2 : ∀ k, k < l.length → stepB l k = true) (h3 : eachB l = true) : rightP l = true := by
  rw [rightP_iff]
  refine ⟨h1, fun k hk => ?_⟩
  have hs : ∀ k, k < l.length → pid l k < (pa l k).id ∧ (pa l k).id ≤ 999 ∧ valA (pa l k) ∧ smallA (pa l k) 1000 = true := by
    intro k hk
    have := h2 k hk
    unfold stepB at this
    rw [Bool.and_eq_true, floor_iff, decide_eq_true_eq] at this
    exact ⟨this.1.1, this.1.2, this.2.1, this.2.2⟩
  have hp : ∀ k, k < l.length → 1 ≤ (pa l k).id := by
    intro k
    induction k with
    | zero => intro hk; have := (hs 0 hk).1; unfold pid at this; rw [if_pos rfl] at this; omega
    | succ k ih => intro hk; have := (hs _ hk).1; rw [pid_succ] at this; have := ih (by omega); omega
  have he : ∀ p q, p < q → q < l.length → meetB (pa l p) (pa l q) = false := by
    intro p q hpq hq
    cases hm : meetB (pa l p) (pa l q) with
    | false => rfl
    | true => rw [eachB_no hpq hq hm] at h3; cases h3
  obtain ⟨g1, g2, g3, g4⟩ := hs k hk
  exact ⟨hp k hk, g2, fun h0 => by unfold pid at g1; rw [if_neg (by omega)] at g1; exact g1, g4, g3, fun p hpk => he p k hpk hk⟩
theorem right_step {l : List Ais} {k : Nat} (hk : k < l.length) (h : stepB l k = false) : rightP l = false := by
  apply rightP_no
  intro hr
  have o := hr.2 k hk
  have : stepB l k = true := by
    unfold stepB
    rw [Bool.and_eq_true, floor_iff, decide_eq_true_eq]
    refine ⟨⟨?_, o.id2⟩, o.val, o.sm⟩
    unfold pid
    have h1 := o.id1
    split
    · omega
    · exact o.up (by omega)
  rw [this] at h
  cases h
theorem right_each {l : List Ais} (h : eachB l = false) : rightP l = false := by
  apply rightP_no
  intro hr
  rw [eachB_yes fun p q hpq hq => (hr.2 q hq).apart p hpq] at h
  cases h
theorem right_long {l : List Ais} (h : ¬ l.length ≤ 32) : rightP l = false := rightP_no fun hr => h hr.1

end Go.Proofs.YthchkhgimnchcaaGreat
/- Stage 22: the program's Check and Rules. -/
namespace Go.Proofs.YthchkhgimnchcaaGreat
open Go.RowKit

/-- a row of bounds in new memory -/
def lkBds (l : List Bd) (n : Nat) : Lk := ⟨Nat, ⟨0⟩, fun b => .slice (some ⟨b, 0, none⟩) n n, fun b w => RowsAt w 3 csBd (.slice (some ⟨b, 0, none⟩) n n) l⟩
theorem lkBds_at {P : Program} {o : Oper} {a : Act} {W : World} {G : World → Prop} {l : List Bd} {n : Nat} {t : TypeId} (hn : n = l.length) (he : ∀ k : In W, (execOp a.eval o).run P k.w = .ok (.value (.slice (some ⟨k.w.heap.size, 0, none⟩) n n)) (k.w.alloc (.cells (flats csBd l).toArray t))) : (lkBds l n).at P o a W G :=
  ⟨fun _ _ _ h hb => RowsAt.kept h hb, fun k _ => by
    rw [he k]
    exact ⟨k.w.heap.size, rfl, rowsLit csBd_len k.w l t n hn, (Below.refl W.heap.size _).alloc k.h.size _⟩⟩

set_option maxHeartbeats 8000000 in
set_option maxRecDepth 100000 in
theorem tAfter_any (id : Int) (va : Value) (l : List Int) (w : World) (ha : IntsAt w va l) (_hl : l.length ≤ 9223372036854775807) :
    Calls Tryz.prog 88 #[.int .i64 id, va] w fun e w' => e = .returned (.bool (aftB id l)) ∧ Below w.heap.size w w' := by
  obtain ⟨r, hr⟩ : ∃ r, aftB id l = r := ⟨_, rfl⟩
  have hw2 : (r = false ∧ (8 < (l.length : Int) ∨ (¬ 8 < (l.length : Int) ∧ rightB l = false) ∨ (¬ 8 < (l.length : Int) ∧ rightB l = true ∧ inL l id = true))) ∨ (¬ 8 < (l.length : Int) ∧ rightB l = true ∧ inL l id = false ∧ idsB l = r) := by
    have h := aft_ways id l (r := if aftB id l = true then 0 else 1) (fun h => by rw [h]; rfl) (fun h => by rw [h]; rfl)
    rw [hr] at h
    rcases h with ⟨h1, h2⟩ | ⟨h1, h2, h3, h4, h5⟩
    · refine .inl ⟨?_, h2⟩
      cases r with
      | false => rfl
      | true => simp at h1
    · refine .inr ⟨h1, h2, h3, ?_⟩
      cases hi : idsB l with
      | false => have := h4 hi; cases r with
        | false => rfl
        | true => simp at this
      | true => have := h5 hi; cases r with
        | false => simp at this
        | true => rfl
  rw [hr]
  have HA := Lib.hid ha
  have GR := Lib.hid fun w h (h8 : ¬ 8 < (l.length : Int)) => iRight_any va l w h (by omega)
  have GN := Lib.hid fun w h (h8 : ¬ 8 < (l.length : Int)) => iHas_any va l id w h (by omega)
  obtain ⟨a, c, rfl⟩ := ha.form
  obtain ⟨rt, hrt⟩ : ∃ rt, rightB l = rt := ⟨_, rfl⟩
  obtain ⟨nn, hnn⟩ : ∃ nn, inL l id = nn := ⟨_, rfl⟩
  rw [hrt] at GR hw2
  rw [hnn] at GN hw2
  have HB := Lib.hid (Below.refl w.heap.size w)
  clear hrt hnn ha hr
  rcases hw2 with ⟨rfl, hw2⟩ | ⟨h8, rfl, rfl, hids⟩
  · rcases hw2 with h8 | ⟨h8, rfl⟩ | ⟨h8, rfl, rfl⟩
    all_goals
      have H8 := Lib.hid h8
      go_enter Tryz.func88, Tryz.ntmps88
      go_wp2_with (first
        | (go_at_call 96; (with_reducible refine (GR.out _ (HA.out.below HB.out) H8.out).mono ?_); rintro e w3 ⟨rfl, hb3⟩; replace HB := Lib.hid (HB.out.trans (hb3.mono HB.out.size)); clear hb3)
        | (go_at_call 97; (with_reducible refine (GN.out _ (HA.out.below HB.out) H8.out).mono ?_); rintro e w4 ⟨rfl, hb4⟩; replace HB := Lib.hid (HB.out.trans (hb4.mono HB.out.size)); clear hb4))
      go_ret
      exact ⟨rfl, HB.out⟩
  · have H8 := Lib.hid h8
    have HIDS := Lib.hid hids
    obtain ⟨i0, hi, hz0, hz1, hz2⟩ := info_parts info_bd
    clear hids
    go_enter Tryz.func88, Tryz.ntmps88
    go_wp2_with (first
      | (go_at_call 96; (with_reducible refine (GR.out _ (HA.out.below HB.out) H8.out).mono ?_); rintro e w3 ⟨rfl, hb3⟩; replace HB := Lib.hid (HB.out.trans (hb3.mono HB.out.size)); clear hb3)
      | (go_at_call 97; (with_reducible refine (GN.out _ (HA.out.below HB.out) H8.out).mono ?_); rintro e w4 ⟨rfl, hb4⟩; replace HB := Lib.hid (HB.out.trans (hb4.mono HB.out.size)); clear hb4))
    go_loopw [5, 23] (fun sv iv wr => ∃ k : Nat, k ≤ l.length ∧ iv = .int .i64 k ∧ Hid (OwnR wr w.heap.size 121 3 csBd sv ((l.take k).map fun n => ⟨n, 1, 999⟩)) ∧ Hid (Below w.heap.size w wr)) (fun _ iv _ => l.length - (Go.RowKit.intOf iv).toNat)
    case atStart => exact ⟨0, by omega, rfl, OwnR.nil _ _ _ _ _, HB.out⟩
    case round =>
      obtain ⟨k, hk, rfl, HO, HB2⟩ := hrel
      have k2 : (k : Int) ≤ 1000 := by have := H8.out; omega
      have k0 : (0 : Int) ≤ (k : Int) := by omega
      obtain ⟨aT, cT, e⟩ := RowsAt.form (OwnR.rows csBd_len HO.out)
      subst e
      by_cases hlt : k < l.length
      · obtain ⟨g, o, cc, e, hlc, _, p0⟩ := IntsAt.spot (HA.out.below HB2.out) k hlt
        cases e
        have k1 : (k : Int) < (l.length : Int) := by omega
        have hsu : (l.take (k + 1)).map (fun n => (⟨n, 1, 999⟩ : Bd)) = (l.take k).map (fun n => (⟨n, 1, 999⟩ : Bd)) ++ [⟨l[k], 1, 999⟩] := by
          rw [List.take_succ_eq_append_getElem hlt, List.map_append]
          rfl
        have hdl : ((l.take k).map fun n => (⟨n, 1, 999⟩ : Bd)).length ≤ 1000 := by
          rw [List.length_map, List.length_take]
          have := H8.out
          omega
        have HSU := Lib.hid hsu
        have HDL := Lib.hid hdl
        have HK := Lib.hid hlt
        generalize l[k] = n at *
        have G := Lib.hid fun w => tOfID_any n w
        generalize (l.take k).map (fun n => (⟨n, 1, 999⟩ : Bd)) = D at *
        clear hsu hdl hlt hk
        go_wp2_with (first
          | (go_at_call 86; (with_reducible refine (G.out _).mono ?_); rintro e w5 ⟨rfl, hb5⟩; have HO5 := Lib.hid (OwnR.alloc (OwnR.kept HO.out hb5) (.cells #[.int .i64 n, .int .i64 1, .int .i64 999] 121)); have HB5 := Lib.hid ((HB2.out.trans (hb5.mono HB2.out.size)).alloc (Nat.le_trans HB2.out.size hb5.size) (.cells #[.int .i64 n, .int .i64 1, .int .i64 999] 121)); have HP5 := Lib.hid (rowsLit csBd_len w5 [⟨n, 1, 999⟩] 121 1 rfl); clear hb5)
          | (at_builtin; refine wpList_append_rows csBd_len (by decide) csBd_one rfl _ _ 130 rfl w.heap.size 121 i0 (.agg #[.int .i64 0, .int .i64 0, .int .i64 0]) 24 Tryz.underlying130 hi hz0 hz1 hz2 rfl _ _ rfl HO5.out _ [⟨n, 1, 999⟩] rfl HP5.out (by have := HDL.out; unfold maxLen; simp; omega) (by have := HDL.out; simp; omega) HB5.out.size ?_; intro v2 w2 o2 g2; have HO6 := Lib.hid o2; have HB6 := Lib.hid (OwnR.below HO5.out HB5.out HB5.out.size g2); clear o2 g2))
        go_roundw
        case rel => exact ⟨k + 1, by have := HK.out; omega, by go_num, by rw [HSU.out]; exact HO6.out, HB6.out⟩
        case measure => have := HK.out; simp [Go.RowKit.intOf] <;> omega
      · have hke : k = l.length := by omega
        have e : ((l.take k).map fun n => (⟨n, 1, 999⟩ : Bd)).all Bd.ok = r := by
          rw [hke, List.take_length, List.all_map]
          exact HIDS.out
        have G := Lib.hid fun w h => tKept_any (.slice aT ((l.take k).map fun n => (⟨n, 1, 999⟩ : Bd)).length cT) ((l.take k).map fun n => (⟨n, 1, 999⟩ : Bd)) w h (by rw [List.length_map, List.length_take]; have := H8.out; omega)
        rw [e] at G
        have HO7 := Lib.hid (OwnR.rows csBd_len HO.out)
        subst hke
        generalize (l.take l.length).map (fun n => (⟨n, 1, 999⟩ : Bd)) = D at *
        clear e hlt HO
        go_wp2_with (go_at_call 85; (with_reducible refine (G.out _ HO7.out).mono ?_); rintro e w5 ⟨rfl, hb5⟩; have HB5 := Lib.hid (HB2.out.trans (hb5.mono HB2.out.size)); clear hb5)
        go_ret
        exact ⟨rfl, HB5.out⟩

set_option maxHeartbeats 8000000 in
set_option maxRecDepth 100000 in
theorem tCheck_any (x : Sp) (w : World) (ha : IntsAt w x.v x.aft) (hl : x.aft.length ≤ 9223372036854775807) :
    Calls Tryz.prog 67 #[spv x] w fun e w' => e = .returned (.int .i64 (chk x)) ∧ Below w.heap.size w w' := by
  have hcs := chk_cases x
  have hns : (bdsS x).all Bd.ok = numS x := rfl
  obtain ⟨r, hr⟩ : ∃ r, chk x = r := ⟨_, rfl⟩
  rw [hr] at hcs ⊢
  obtain ⟨ns, hns2⟩ : ∃ ns, numS x = ns := ⟨_, rfl⟩
  rw [hns2] at hns hcs
  have GK := Lib.hid fun w va h => tKept_any va (bdsS x) w h (by simp [bdsS])
  rw [hns] at GK
  obtain ⟨id, prio, sk, ge, fx, fy, tx, ty, a, c, l⟩ := x
  dsimp only [Sp.v, spv] at *
  unfold bdsS at GK
  dsimp only at GK
  have GA := Lib.hid fun w h => tAfter_any id (.slice a l.length c) l w h hl
  obtain ⟨ab, hab⟩ : ∃ ab, aftB id l = ab := ⟨_, rfl⟩
  rw [hab] at GA hcs
  have HX := Lib.hid (boxS w id prio sk ge fx fy tx ty (.slice a l.length c))
  have hAL := (Below.refl w.heap.size w).alloc (Nat.le_refl _) (.cells #[.int .i64 id, .int .i64 prio, .int .u64 sk, .int .u64 ge, .int .i64 fx, .int .i64 fy, .int .i64 tx, .int .i64 ty, .slice a l.length c] 49)
  have HI := Lib.hid (ha.below hAL)
  have HAL := Lib.hid hAL
  have G0 := Lib.hid fun w => tOfID_any id w
  have G1 := Lib.hid fun w => tOfPart_any fx w
  have G2 := Lib.hid fun w => tOfPart_any fy w
  have G3 := Lib.hid fun w => tOfPart_any tx w
  have G4 := Lib.hid fun w => tOfPart_any ty w
  clear hr hns hns2 hab ha hl hAL
  go_enter Tryz.func67, Tryz.ntmps67
  go_wp2
  generalize w.alloc (.cells #[.int .i64 id, .int .i64 prio, .int .u64 sk, .int .u64 ge, .int .i64 fx, .int .i64 fy, .int .i64 tx, .int .i64 ty, .slice a l.length c] 49) = W0 at *
  refine wp_region_chain 25 [.calm 22, .own (lkBds [⟨id, 1, 999⟩, ⟨prio, 0, 1048575⟩, ⟨fx, -1000, 1000⟩, ⟨fy, -1000, 1000⟩, ⟨tx, -1000, 1000⟩, ⟨ty, -1000, 1000⟩] 6), .own (Lk.val1 (.bool ns)), .calm 1] [22, 23] rfl (by kernel_rfl) (by simp) (by kernel_rfl) (chainOf_two (by kernel_rfl)) ?_
  simp only [List.take_succ_cons, List.take_zero, List.drop_succ_cons, List.drop_zero]
  refine ⟨by simp, fun M => ?_⟩
  simp only [List.take_succ_cons, List.take_zero, List.drop_succ_cons, List.drop_zero]
  have m0 := fun n : In M.w => n.cell (M.cell (HX.out.cell 0 rfl))
  have m1 := fun n : In M.w => n.cell (M.cell (HX.out.cell 1 rfl))
  have m4 := fun n : In M.w => n.cell (M.cell (HX.out.cell 4 rfl))
  have m5 := fun n : In M.w => n.cell (M.cell (HX.out.cell 5 rfl))
  have m6 := fun n : In M.w => n.cell (M.cell (HX.out.cell 6 rfl))
  have m7 := fun n : In M.w => n.cell (M.cell (HX.out.cell 7 rfl))
  repeat (go_big_quiet_step (first
    | (go_at_call 86; with_reducible exact In.call (G0.out _))
    | (go_at_call 87; with_reducible exact In.call (G1.out _))
    | (go_at_call 87; with_reducible exact In.call (G2.out _))
    | (go_at_call 87; with_reducible exact In.call (G3.out _))
    | (go_at_call 87; with_reducible exact In.call (G4.out _))))
  refine wpQuiet_nil ?_
  clear m0 m1 m4 m5 m6 m7 M
  refine ⟨rfl, lkBds_at (t := 121) rfl (fun k => by simp [go_sem, flats, csBd]), fun x1 A hA => ?_⟩
  simp [Act.put, lkBds] at hA
  subst hA
  refine ⟨rfl, lkSure_at (f := 85) (args := #[.slice (some ⟨x1, 0, none⟩) 6 6]) (fun k => by simp [go_sem]) (fun k hk => GK.out k.w _ hk), fun x2 A hA => ?_⟩
  simp [Act.put, Lk.val1] at hA
  subst hA
  refine ⟨by simp, fun M => ?_⟩
  simp only [List.take_succ_cons, List.take_zero, List.drop_succ_cons, List.drop_zero]
  repeat (go_big_quiet_step (fail))
  refine wpQuiet_nil ?_
  clear M
  refine ⟨rfl, fun w5 hb5 _ => ?_⟩
  have HX5 := Lib.hid (HX.out.kept hb5)
  have HI5 := Lib.hid (HI.out.below hb5)
  have HB5 := Lib.hid (HAL.out.trans (hb5.mono HAL.out.size))
  have c0 := HX5.out.cell 0 rfl
  have c8 := HX5.out.cell 8 rfl
  clear hb5 HX HI HAL
  rcases hcs with ⟨rfl, rfl⟩ | ⟨rfl, rfl, rfl⟩ | ⟨rfl, rfl, rfl⟩
  all_goals
    go_wp2_with (go_at_call 88; (with_reducible refine (GA.out _ HI5.out).mono ?_); rintro e w6 ⟨rfl, hb6⟩; replace HB5 := Lib.hid (HB5.out.trans (hb6.mono HB5.out.size)); clear hb6)
    go_ret
    exact ⟨rfl, HB5.out⟩

end Go.Proofs.YthchkhgimnchcaaGreat
/- Stage 22: the program's Same: what is plain of a spec and of rules; slices.Equal. -/
namespace Go.Proofs.YthchkhgimnchcaaGreat
open Go.RowKit

theorem ais_ways (a b : Ais) : (((a.id == b.id) = false) ∨ (a.id = b.id ∧ (a.lx == b.lx) = false) ∨ (a.id = b.id ∧ a.lx = b.lx ∧ (a.ly == b.ly) = false) ∨ (a.id = b.id ∧ a.lx = b.lx ∧ a.ly = b.ly ∧ (a.hx == b.hx) = false) ∨ (a.id = b.id ∧ a.lx = b.lx ∧ a.ly = b.ly ∧ a.hx = b.hx ∧ (a.hy == b.hy) = false)) ∨ a = b := by
  by_cases eid : a.id = b.id
  case neg => exact .inl (by simp [eid])
  by_cases elx : a.lx = b.lx
  case neg => exact .inl (by simp [eid, elx])
  by_cases ely : a.ly = b.ly
  case neg => exact .inl (by simp [eid, elx, ely])
  by_cases ehx : a.hx = b.hx
  case neg => exact .inl (by simp [eid, elx, ely, ehx])
  by_cases ehy : a.hy = b.hy
  case neg => exact .inl (by simp [eid, elx, ely, ehx, ehy])
  exact .inr (by cases a; cases b; simp_all)
end Go.Proofs.YthchkhgimnchcaaGreat
/- Arrays of ints, held against one another by ==. FOR ALL LATER STAGES. -/
namespace Go.Proofs.YthchkhgimnchcaaGreat
open Go.RowKit

theorem all_range_ints : ∀ (xs ys : List Int), xs.length = ys.length → ((List.range xs.length).all fun i => xs.getD i 0 == ys.getD i 0) = (xs == ys)
  | [], [], _ => rfl
  | x :: xs, y :: ys, h => by
    have ih := all_range_ints xs ys (by simpa using h)
    rw [List.length_cons, List.range_succ_eq_map, List.all_cons, List.all_map]
    simp only [List.getD_cons_zero, Function.comp_def, List.getD_cons_succ, ih]
    simp [List.cons_beq_cons]
  | [], _ :: _, h => by simp at h
  | _ :: _, [], h => by simp at h

section
variable {P : Program} (w : World)
theorem run_equalIn_ints (d : Nat) (t e : TypeId) (n : Nat) (ht : P.underlying t = some (.array n e)) (he : P.underlying e = some (.int .i64)) (hsz : ∀ w, (sizeOf e).run P w = .ok 1 w)
    (xs ys : List Int) (hx : xs.length = n) (hy : ys.length = n) :
    (Op.equalIn (d + 2) t (.agg (xs.map (Value.int .i64)).toArray) (.agg (ys.map (Value.int .i64)).toArray)).run P w = .ok (xs == ys) w := by
  rw [← all_range_ints xs ys (hx.trans hy.symm), hx, List.range_eq_range', Op.equalIn]
  simp only [Sem.run_bind, run_underlying ht, Result.andThen_ok, hsz, Std.Legacy.Range.forIn_eq_forIn_range', Std.Legacy.Range.size, Nat.sub_zero, Nat.add_sub_cancel, Nat.div_one]
  have hl : ∀ i ∈ List.range' 0 n 1, i < n := fun i hi => by simpa using (List.mem_range'_1.1 hi).2
  generalize List.range' 0 n 1 = l at hl ⊢
  induction l with
  | nil => simp
  | cons i l ih =>
    have hi : i < n := hl i (by simp)
    have px : (part e (xs.map (Value.int .i64)).toArray (i * 1)).run P w = .ok (Value.int .i64 (xs.getD i 0)) w := by
      simp [part, isAgg, run_underlying he, List.getD, List.getElem?_eq_getElem (show i < xs.length by omega)]
    have py : (part e (ys.map (Value.int .i64)).toArray (i * 1)).run P w = .ok (Value.int .i64 (ys.getD i 0)) w := by
      simp [part, isAgg, run_underlying he, List.getD, List.getElem?_eq_getElem (show i < ys.length by omega)]
    have pe : (Op.equalIn (d + 1) e (Value.int .i64 (xs.getD i 0)) (Value.int .i64 (ys.getD i 0))).run P w = .ok (xs.getD i 0 == ys.getD i 0) w := by
      rw [run_equalIn_int w d e .i64 .i64 _ _ he]
    simp only [List.forIn_cons, Sem.run_bind, px, py, pe, Result.andThen_ok, List.all_cons]
    cases hb : (xs.getD i 0 == ys.getD i 0)
    · simp
    · simp only [Bool.not_true, Bool.false_eq_true, if_false, Sem.run_pure, Result.andThen_ok, Bool.true_and]
      exact ih fun j hj => hl j (by simp [hj])
theorem run_eql_ints (t e : TypeId) (n : Nat) (ht : P.underlying t = some (.array n e)) (he : P.underlying e = some (.int .i64)) (hsz : ∀ w, (sizeOf e).run P w = .ok 1 w)
    (xs ys : List Int) (hx : xs.length = n) (hy : ys.length = n) :
    (binOp .eql t (.agg (xs.map (Value.int .i64)).toArray) (.agg (ys.map (Value.int .i64)).toArray)).run P w = .ok (.bool (xs == ys)) w := by
  rw [run_eql_struct, run_equalIn_ints w 9998 t e n ht he hsz xs ys hx hy]
  rfl
end
end Go.Proofs.YthchkhgimnchcaaGreat
