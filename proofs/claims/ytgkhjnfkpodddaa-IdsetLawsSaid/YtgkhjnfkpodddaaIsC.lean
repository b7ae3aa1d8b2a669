/- Stage 17's program: Right, Has, Above: what is asked and told of a list. -/
import Derived.Test.YtgkhjnfkpodddaaIsB
namespace Go.Proofs.Ytgkhjnfkpodddaa
open Go.RowKit

/-- one box -/
def BoJ (b : Nat) (s : Value) (F : Nat → Prop) (w : World) : Prop := Blk w b [s] ∧ ∀ k, F k ↔ k = b
theorem bo_keep {σ : Type} (b : Nat) (v : σ → Value) : KeepJ fun (s : σ) F w => BoJ b (v s) F w where
  lt := by
    rintro s F w ⟨h1, h2⟩ k hk
    rw [(h2 k).1 hk]
    exact h1.lt
  out := by
    rintro s F w w' ⟨h1, h2⟩ _ he
    exact ⟨h1.same (he b ((h2 b).2 rfl)), h2⟩

set_option maxHeartbeats 1000000 in
theorem iRight1_any (b : Nat) (s x : Int) (F : Nat → Prop) (w : World) (h : BoJ b (.int .i64 s) F w) :
    Calls Try.prog 27 #[.int .i64 x, .pointer (some ⟨b, 0, none⟩)] w fun e w' => e = .returned (.bool (rgt s x).2) ∧ ∃ F', BoJ b (.int .i64 (rgt s x).1) F' w' ∧ Mv F F' w w' := by
  obtain ⟨h1, h2⟩ := h
  have HS : Hid (∀ v, Blk (w.setCell ⟨b, 0, none⟩ v) b [v]) := Lib.hid fun v => h1.set 0 v
  have H2 := Lib.hid h2
  have c0 := h1.cell 0 rfl
  have z0 := h1.free 0 rfl
  clear h1 h2
  unfold rgt
  go_enter Try.func27, Try.ntmps27
  go_wp2
  go_ret
  exact ⟨rfl, F, ⟨HS.out _, H2.out⟩, (Only.refl _ _).set _ _ ((H2.out b).2 rfl), fun k hk => .inl hk⟩

set_option maxHeartbeats 1000000 in
theorem iHas1_any (b : Nat) (n x : Int) (w : World) (h : Blk w b [.int .i64 n]) :
    Calls Try.prog 28 #[.int .i64 x, .pointer (some ⟨b, 0, none⟩)] w fun e w' => e = .returned (.bool (x == n)) ∧ w' = w := by
  have c0 := h.cell 0 rfl
  clear h
  go_enter Try.func28, Try.ntmps28
  go_wp2
  go_ret
  exact ⟨rfl, rfl⟩

set_option maxHeartbeats 1000000 in
theorem iHas_any (va : Value) (l : List Int) (n : Int) (w : World) (ha : IntsAt w va l) (hl : l.length ≤ 1000000) :
    Calls Try.prog 12 #[va, .int .i64 n] w fun e w' => e = .returned (.bool (inL l n)) ∧ Below w.heap.size w w' := by
  have hmf : ∀ (fn : Fn) (first cap : Array Value) (w : World), (Instr.makeFunc fn first cap).run Try.prog w = .ok (.func fn first cap) w := fun _ _ _ _ => rfl
  have hal := (Below.refl w.heap.size w).alloc (Nat.le_refl _) (.cells #[.int .i64 n] 3)
  have hX := Blk.new w [.int .i64 n] 3
  have hS := iSome_any (J := fun (_ : Unit) F w' => BoJ w.heap.size (.int .i64 n) F w') (fun _ x => ((), x == n)) 28 (.pointer (some ⟨w.heap.size, 0, none⟩)) (fun _ _ => by kernel_rfl) va l _ (ha.below hal) hl ()
    (fun k => k = w.heap.size) (fun h0 k hk hf => by have := ha.rows.lt h0 k hk; omega) ⟨hX, fun k => Iff.rfl⟩ (fun _ _ => True) trivial (fun _ _ _ _ => trivial)
    (fun s F w' x k hx _ _ hj ho => (iHas1_any _ n x w' hj.1).mono (by
      rintro e w2 ⟨rfl, rfl⟩
      exact ⟨rfl, F, hj, Mv.refl _ _⟩))
  rw [show (fun (_ : Unit) (x : Int) => ((), x == n)) = (fun (_ : Unit) x => ((), (fun m => m == n) x)) from rfl, runS_any (fun m => m == n) l, any_in] at hS
  have HS := Lib.hid hS
  have HAL := Lib.hid hal
  clear hal hX hS ha
  go_enter Try.func12, Try.ntmps12
  go_wp2_with (go_at_call 26; (with_reducible refine HS.out.mono ?_); rintro e w1 ⟨rfl, F', h1, hm⟩; have HM := Lib.hid hm; clear h1 hm)
  go_ret
  exact ⟨rfl, HAL.out.trans (HM.out.only.below (fun k hk => by omega) HAL.out.size)⟩

/-- the list without its first number, as the model cuts it -/
theorem from17 (a : Option Addr) (n c : Nat) (hk : 1 ≤ n) (hn : n ≤ c) : ∃ a4 c4, (∀ w', (Instr.sliceAt 22 (.slice a n c) (some (.int .i64 1)) none none).run Try.prog w' = .ok (.slice a4 (n - 1) c4) w') ∧
    (∀ (w' : World) (l : List Int), l.length = n → RowsAt w' 1 csI (.slice a n c) l → RowsAt w' 1 csI (.slice a4 (n - 1) c4) (l.drop 1)) ∧ ∀ k, (Value.slice a4 (n - 1) c4).ownBlock = some k → (Value.slice a n c).ownBlock = some k := by
  have h1 : (1 : Int) ≤ (n : Int) := by omega
  by_cases hck : c = 1
  · have hc0 : n = 1 := by omega
    refine ⟨a, 0, fun w' => ?_, fun w' l hl h => ?_, fun k h => by cases a <;> simp [Value.ownBlock] at h ⊢; exact h⟩
    · simp [go_sem, hck, hc0, sliced]
    · have := restAt13 h 1 (by omega) a (fun h => by omega)
      rwa [hck, Nat.sub_self] at this
  · refine ⟨a.map (fun x => x.add 1), c - 1, fun w' => ?_, fun w' l hl h => ?_, fun k h => ?_⟩
    · simp [go_sem, sliced, h1]
      exact fun h => absurd h hck
    · exact restAt13 h 1 (by omega) _ (fun _ g o e => by subst e; simp [Addr.add])
    · cases a with
      | none => simp [Value.ownBlock] at h
      | some a => simpa [Value.ownBlock, Addr.add] using h

set_option maxHeartbeats 1000000 in
theorem iRight_any (va : Value) (l : List Int) (w : World) (ha : IntsAt w va l) (hl : l.length ≤ 1000000) :
    Calls Try.prog 10 #[va] w fun e w' => e = .returned (.bool (rightB l)) ∧ Below w.heap.size w w' := by
  have hmf : ∀ (fn : Fn) (first cap : Array Value) (w : World), (Instr.makeFunc fn first cap).run Try.prog w = .ok (.func fn first cap) w := fun _ _ _ _ => rfl
  cases l with
  | nil =>
    obtain ⟨a, c, rfl⟩ := ha.form
    have e : rightB [] = true := by decide
    rw [e]
    clear ha
    go_enter Try.func10, Try.ntmps10
    go_wp2
    go_ret
    exact ⟨rfl, Below.refl _ _⟩
  | cons x t =>
    obtain ⟨g, o, c, e, hlc, hg, p0⟩ := ha.spot 0 (by simp)
    subst e
    have hal := (Below.refl w.heap.size w).alloc (Nat.le_refl _) (.cells #[.int .i64 x] 3)
    have hX := Blk.new w [.int .i64 x] 3
    obtain ⟨a4, c4, hsl, hrows, how⟩ := from17 (some ⟨g, o, none⟩) (x :: t).length c (by simp) hlc
    have hr := (hrows _ (x :: t) rfl (ha.below hal).rows).ints
    have hS := iSome_any (J := fun (s : Int) F w' => BoJ w.heap.size (.int .i64 s) F w') rgt 27 (.pointer (some ⟨w.heap.size, 0, none⟩)) (fun _ _ => by kernel_rfl) _ t _ hr (by simp at hl; omega) x
      (fun k => k = w.heap.size) (fun h0 k hk hf => by have := ha.rows.lt (by simp) k (how k hk); omega) ⟨hX, fun k => Iff.rfl⟩ (fun _ _ => True) trivial (fun _ _ _ _ => trivial)
      (fun s F w' y k hx _ _ hj ho => iRight1_any _ s y F w' hj)
    rw [runS_right, List.length_cons, Nat.add_sub_cancel] at hS
    rw [List.length_cons, Nat.add_sub_cancel] at hsl
    have HS := Lib.hid hS
    have HAL := Lib.hid hal
    generalize rightB (x :: t) = r at *
    replace p0 : w.cell? ⟨g, o, none⟩ = some (.int .i64 x) := by simpa using p0
    rw [List.length_cons] at *
    clear hal hX hS ha hr hrows how hg
    generalize t.length = n at *
    have n0 : (0 : Int) ≤ (n : Int) := by omega
    have n1 : ¬ ((n : Int) + 1 = 0) := by omega
    go_enter Try.func10, Try.ntmps10
    go_wp2_with (go_at_call 26; (with_reducible refine HS.out.mono ?_); rintro e w1 ⟨rfl, F', h1, hm⟩; have HM := Lib.hid hm; clear h1 hm)
    go_ret
    exact ⟨by simp, HAL.out.trans (HM.out.only.below (fun k hk => by omega) HAL.out.size)⟩
end Go.Proofs.Ytgkhjnfkpodddaa
