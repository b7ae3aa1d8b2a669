/- Stage 14: aged priorities: plain mathematics. -/
import Derived.Test.YtkhnkhkpjgemkaaSatMath
namespace Go.Proofs.Ytkhnkhkpjgemkaa

structure It where
  id : Int
  prio : Int
  since : Int
  seq : Int
deriving DecidableEq, Inhabited

def tk (n : Int) : Int := iclip n 0 2147483647
def rt (n : Int) : Int := iclip n 0 1048576
def pr (n : Int) : Int := iclip n 0 1048575
theorem tk_bd (n : Int) : 0 ≤ tk n ∧ tk n ≤ 2147483647 := by unfold tk iclip; split <;> omega
theorem rt_bd (n : Int) : 0 ≤ rt n ∧ rt n ≤ 1048576 := by unfold rt iclip; split <;> omega
theorem pr_bd (n : Int) : 0 ≤ pr n ∧ pr n ≤ 1048575 := by unfold pr iclip; split <;> omega
theorem tk_mono {a b : Int} (h : a ≤ b) : tk a ≤ tk b := by unfold tk iclip; split <;> split <;> omega
theorem tk_in {n : Int} (h : 0 ≤ n ∧ n ≤ 2147483647) : tk n = n := by unfold tk iclip; split <;> omega
theorem tk_le {n m : Int} (h : n ≤ m) (hm : 0 ≤ m) : tk n ≤ m := by unfold tk iclip; split <;> omega
def ageA (x : It) (now : Int) : Int := max (tk now - tk x.since) 0
theorem ageA_bd (x : It) (now : Int) : 0 ≤ ageA x now ∧ ageA x now ≤ 2147483647 := by
  have := tk_bd now
  have := tk_bd x.since
  unfold ageA
  omega
theorem ageA_mono (x : It) {a b : Int} (h : a ≤ b) : ageA x a ≤ ageA x b := by
  have := tk_mono h
  unfold ageA
  omega
theorem mulA_bd {r a : Int} (hr : 0 ≤ r ∧ r ≤ 1048576) (ha : 0 ≤ a ∧ a ≤ 2147483647) : 0 ≤ r * a ∧ r * a ≤ 2251799812636672 := by
  refine ⟨Int.mul_nonneg hr.1 ha.1, ?_⟩
  have h1 : r * a ≤ 1048576 * a := Int.mul_le_mul_of_nonneg_right hr.2 ha.1
  omega
def ofA (x : It) (now rate : Int) : Int := min (pr x.prio + rt rate * ageA x now) 1048575
theorem ofA_bd (x : It) (now rate : Int) : 0 ≤ ofA x now rate ∧ ofA x now rate ≤ 1048575 := by
  have h1 := pr_bd x.prio
  have h2 := (mulA_bd (rt_bd rate) (ageA_bd x now)).1
  unfold ofA
  omega
theorem ofA_mono (x : It) (rate : Int) {a b : Int} (h : a ≤ b) : ofA x a rate ≤ ofA x b rate := by
  have h1 : rt rate * ageA x a ≤ rt rate * ageA x b := Int.mul_le_mul_of_nonneg_left (ageA_mono x h) (rt_bd rate).1
  unfold ofA
  omega
def fullA (x : It) (rate : Int) : Int := if 1048575 - pr x.prio = 0 then tk x.since else if rt rate = 0 then 2147483648 else min (tk x.since + iover (1048575 - pr x.prio) (rt rate)) 2147483648
def ahA (a b : It) (now rate : Int) : Bool := if ofA a now rate ≠ ofA b now rate then decide (ofA b now rate < ofA a now rate) else if a.seq ≠ b.seq then decide (a.seq < b.seq) else decide (a.id < b.id)
theorem ahA_iff (a b : It) (now rate : Int) : ahA a b now rate = true ↔ ofA b now rate < ofA a now rate ∨ (ofA a now rate = ofA b now rate ∧ (a.seq < b.seq ∨ (a.seq = b.seq ∧ a.id < b.id))) := by
  unfold ahA
  by_cases h1 : ofA a now rate = ofA b now rate
  · rw [if_neg (by simpa using h1)]
    by_cases h2 : a.seq = b.seq
    · rw [if_neg (by simpa using h2), decide_eq_true_iff]
      omega
    · rw [if_pos h2, decide_eq_true_iff]
      omega
  · rw [if_pos h1, decide_eq_true_iff]
    omega
theorem ahA_or (a b : It) (now rate : Int) (hne : ¬ (a.id = b.id ∧ a.seq = b.seq)) : ahA a b now rate ≠ ahA b a now rate := by
  have h1 := ahA_iff a b now rate
  have h2 := ahA_iff b a now rate
  cases h3 : ahA a b now rate <;> cases h4 : ahA b a now rate <;> simp only [h3, h4] at h1 h2 ⊢
  · simp at h1 h2
    omega
  · decide
  · decide
  · simp at h1 h2
    omega

/-! ### When an item is full -/
theorem over_ok {a b : Int} (ha : 0 < a) (hb : 0 < b) : a ≤ b * iover a b ∧ b * (iover a b - 1) < a ∧ 0 < iover a b := by
  have e1 : max a 0 = a := by omega
  have e2 : max b 1 = b := by omega
  have hd := Int.mul_ediv_add_emod a b
  have h0 := Int.emod_nonneg a (show b ≠ 0 by omega)
  have h1 := Int.emod_lt_of_pos a hb
  have hq : 0 ≤ a / b := Int.ediv_nonneg (by omega) (by omega)
  unfold iover
  rw [e1, e2]
  generalize a / b = q at *
  generalize a % b = r at *
  split
  · have e3 : b * (q + 1) = b * q + b := by rw [Int.mul_add, Int.mul_one]
    have e4 : q + 1 - 1 = q := by omega
    rw [e3, e4]
    omega
  · have hr : r = 0 := by omega
    subst hr
    have e3 : b * (q - 1) = b * q - b := by rw [Int.mul_sub, Int.mul_one]
    have hq1 : 0 < q := by
      rcases Int.lt_or_le 0 q with h | h
      · exact h
      · have : q = 0 := by omega
        subst this
        omega
    rw [e3]
    omega
theorem fullA_ok (x : It) (rate : Int) : (2147483647 < fullA x rate → fullA x rate = 2147483648 ∧ ofA x 2147483647 rate < 1048575) ∧
    (fullA x rate ≤ 2147483647 → tk x.since ≤ fullA x rate ∧ ofA x (fullA x rate) rate = 1048575 ∧ (fullA x rate ≠ tk x.since → ofA x (fullA x rate - 1) rate < 1048575)) := by
  have hp := pr_bd x.prio
  have hs := tk_bd x.since
  have hr := rt_bd rate
  unfold fullA
  by_cases h0 : 1048575 - pr x.prio = 0
  · rw [if_pos h0]
    refine ⟨fun h => by omega, fun _ => ⟨Int.le_refl _, ?_, fun h => absurd rfl h⟩⟩
    have := (mulA_bd hr (ageA_bd x (tk x.since))).1
    unfold ofA
    omega
  rw [if_neg h0]
  by_cases h1 : rt rate = 0
  · rw [if_pos h1]
    refine ⟨fun _ => ⟨rfl, ?_⟩, fun h => by omega⟩
    unfold ofA
    rw [h1, Int.zero_mul]
    omega
  rw [if_neg h1]
  obtain ⟨o1, o2, o3⟩ := over_ok (a := 1048575 - pr x.prio) (b := rt rate) (by omega) (by omega)
  generalize iover (1048575 - pr x.prio) (rt rate) = k at *
  have key : ∀ n, tk x.since ≤ n → n ≤ 2147483647 → ageA x n = n - tk x.since := fun n h1 h2 => by
    unfold ageA
    rw [tk_in (n := n) (by omega)]
    omega
  have hlt : ∀ g, g ≤ k - 1 → rt rate * g < 1048575 - pr x.prio := fun g h => by
    have : rt rate * g ≤ rt rate * (k - 1) := Int.mul_le_mul_of_nonneg_left h hr.1
    omega
  constructor
  · intro h
    refine ⟨by omega, ?_⟩
    have h2 := key 2147483647 hs.2 (by omega)
    have h3 := hlt (2147483647 - tk x.since) (by omega)
    unfold ofA
    rw [h2]
    omega
  · intro h
    have e : min (tk x.since + k) 2147483648 = tk x.since + k := by omega
    rw [e] at h ⊢
    refine ⟨by omega, ?_, fun _ => ?_⟩
    · unfold ofA
      rw [key _ (by omega) h, show tk x.since + k - tk x.since = k by omega]
      omega
    · have h3 := hlt (k - 1) (by omega)
      unfold ofA
      rw [key _ (by omega) (by omega), show tk x.since + k - 1 - tk x.since = k - 1 by omega]
      omega

/-! ### Who is ahead stays so -/
theorem age_shift (x : It) {n m : Int} (hs : x.since ≤ n) (h0 : 0 ≤ n) (h1 : n ≤ m) (h2 : m ≤ 2147483647) : ageA x m = ageA x n + (m - n) := by
  have h3 := tk_le hs h0
  unfold ageA
  rw [tk_in (n := n) (by omega), tk_in (n := m) (by omega)]
  omega
theorem keeps {a b : It} {n m rate : Int} (ha : a.since ≤ n) (hb : b.since ≤ n) (h0 : 0 ≤ n) (h1 : n ≤ m) (h2 : m ≤ 2147483647) (hab : ahA a b n rate = true) (hf : ofA b m rate < 1048575) : ahA a b m rate = true := by
  rw [ahA_iff] at *
  have ea := age_shift a ha h0 h1 h2
  have eb := age_shift b hb h0 h1 h2
  have hd : 0 ≤ rt rate * (m - n) := Int.mul_nonneg (rt_bd rate).1 (by omega)
  have e1 : rt rate * ageA a m = rt rate * ageA a n + rt rate * (m - n) := by rw [ea, Int.mul_add]
  have e2 : rt rate * ageA b m = rt rate * ageA b n + rt rate * (m - n) := by rw [eb, Int.mul_add]
  unfold ofA at hab hf ⊢
  rw [e2] at hf
  rw [e1, e2]
  clear e1 e2 ea eb
  generalize rt rate * (m - n) = d at *
  generalize rt rate * ageA a n = u at *
  generalize rt rate * ageA b n = v at *
  omega
theorem keeps_full {a b : It} {n m rate : Int} (h1 : n ≤ m) (ha : ofA a n rate = 1048575) (hb : ofA b n rate = 1048575) (hs : a.seq ≠ b.seq) : ahA a b m rate = decide (a.seq < b.seq) := by
  have h2 := ofA_mono a rate h1
  have h3 := ofA_mono b rate h1
  have h4 := (ofA_bd a m rate).2
  have h5 := (ofA_bd b m rate).2
  have e1 : ofA a m rate = ofA b m rate := by omega
  unfold ahA
  rw [if_neg (by simpa using e1), if_pos hs]

/-! ### In order -/
/-- how many of the first k stay ahead of x -/
def stayA (x : It) (l : List It) (now rate : Int) : Nat → Nat
  | 0 => 0
  | k + 1 => match l[k]? with
    | some y => if ahA x y now rate then stayA x l now rate k else k + 1
    | none => k + 1
theorem stayA_le (x : It) (l : List It) (now rate : Int) : ∀ k, stayA x l now rate k ≤ k
  | 0 => Nat.le_refl _
  | k + 1 => by
    have h := stayA_le x l now rate k
    unfold stayA
    split
    · split <;> omega
    · omega
def inA (l : List It) (x : It) (now rate : Int) : List It := l.take (stayA x l now rate l.length) ++ [x] ++ l.drop (stayA x l now rate l.length)
theorem inA_len (l : List It) (x : It) (now rate : Int) : (inA l x now rate).length = l.length + 1 := by
  have := stayA_le x l now rate l.length
  unfold inA
  rw [List.length_append, List.length_append, List.length_take, List.length_drop]
  simp
  omega
def ordA (l : List It) (now rate : Int) : List It := l.foldl (fun out x => inA out x now rate) []
theorem ordA_take (l : List It) (now rate : Int) (k : Nat) (hk : k < l.length) : ordA (l.take (k + 1)) now rate = inA (ordA (l.take k) now rate) l[k] now rate := by
  unfold ordA
  rw [List.take_succ_eq_append_getElem hk, List.foldl_append]
  rfl
theorem ordA_len (now rate : Int) : ∀ (l : List It), (ordA l now rate).length = l.length := by
  have key : ∀ (l out : List It), (l.foldl (fun out x => inA out x now rate) out).length = out.length + l.length := by
    intro l
    induction l with
    | nil => intro out; simp
    | cons x t ih =>
      intro out
      rw [List.foldl_cons, ih, inA_len, List.length_cons]
      omega
  intro l
  unfold ordA
  rw [key]
  simp
end Go.Proofs.Ytkhnkhkpjgemkaa
