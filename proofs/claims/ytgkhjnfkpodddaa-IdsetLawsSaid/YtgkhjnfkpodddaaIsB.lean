/- Stage 17's program: each: a function that is handed on is told one number of a list behind the other. -/
import Derived.Test.YtgkhjnfkpodddaaIsA
namespace Go.Proofs.Ytgkhjnfkpodddaa
open Go.RowKit

/-- what is told, and the box b in which the function (tv) lies that is told -/
def EaJ {σ : Type} (J : σ → (Nat → Prop) → World → Prop) (b : Nat) (tv : Value) (s : σ) (F : Nat → Prop) (w : World) : Prop := ∃ F1, J s F1 w ∧ ¬ F1 b ∧ (∀ k, F k ↔ F1 k ∨ k = b) ∧ Blk w b [tv]

set_option maxHeartbeats 1000000 in
theorem iEach1_any {σ : Type} {J : σ → (Nat → Prop) → World → Prop} (st : σ → Int → σ) (g : FuncId) (caps : Array Value) (eg : ∀ args w, (callFunc g args).run Try.prog w = .ok (.enter g args) w)
    (b : Nat) (s : σ) (F : Nat → Prop) (w : World) (x : Int) (h : EaJ J b (.func (.func g) #[] caps) s F w)
    (hT : ∀ F1, J s F1 w → (∀ k, F1 k → F k) → Calls Try.prog g (#[.int .i64 x] ++ caps) w fun e w'' => e = .returned (.tuple #[]) ∧ ∃ F', J (st s x) F' w'' ∧ Mv F1 F' w w'') :
    Calls Try.prog 38 #[.int .i64 x, .pointer (some ⟨b, 0, none⟩)] w fun e w'' => e = .returned (.bool false) ∧ ∃ F', EaJ J b (.func (.func g) #[] caps) (st s x) F' w'' ∧ Mv F F' w w'' := by
  obtain ⟨F1, h1, h2, h3, h4⟩ := h
  have HT := Lib.hid (hT F1 h1 fun k hk => (h3 k).2 (.inl hk))
  have HB := Lib.hid h4
  have H2 := Lib.hid h2
  have H3 := Lib.hid h3
  have c0 := h4.cell 0 rfl
  clear hT h1 h2 h3 h4
  go_enter Try.func38, Try.ntmps38
  go_wp2_with (go_at_fn g; (with_reducible refine HT.out.mono ?_); rintro e w1 ⟨rfl, F', hj1, hm1⟩; have HJ3 := Lib.hid hj1; have HM3 := Lib.hid hm1; clear hj1 hm1)
  go_ret
  refine ⟨rfl, fun k => F' k ∨ k = b, ⟨F', HJ3.out, HM3.out.off HB.out.lt H2.out, fun k => Iff.rfl, HB.out.same (HM3.out.only.block b HB.out.lt H2.out)⟩, HM3.out.only.mono fun k hk => (H3.out k).2 (.inl hk), fun k hk => ?_⟩
  rcases hk with hk | hk
  · exact (HM3.out.sub k hk).imp (fun h => (H3.out k).2 (.inl h)) id
  · exact .inl ((H3.out k).2 (.inr hk))

set_option maxHeartbeats 1000000 in
theorem iEach_any {σ : Type} {J : σ → (Nat → Prop) → World → Prop} (T : KeepJ J) (st : σ → Int → σ) (g : FuncId) (caps : Array Value) (eg : ∀ args w, (callFunc g args).run Try.prog w = .ok (.enter g args) w)
    (va : Value) (l : List Int) (w : World) (hl : IntsAt w va l) (hlen : l.length ≤ 1000000) (s0 : σ) (F0 : Nat → Prop) (hF : OffV F0 va l.length) (hJ : J s0 F0 w) (R : Nat → σ → Prop) (hR0 : R 0 s0) (hRs : ∀ k s x, R k s → R (k + 1) (st s x))
    (hT : ∀ s F w' x k, x ∈ l → k < l.length → R k s → J s F w' → Only F0 w w' → Calls Try.prog g (#[.int .i64 x] ++ caps) w' fun e w'' => e = .returned (.tuple #[]) ∧ ∃ F', J (st s x) F' w'' ∧ Mv F F' w' w'') :
    Calls Try.prog 29 #[va, .func (.func g) #[] caps] w fun e w' => e = .returned (.tuple #[]) ∧ ∃ F', J (l.foldl st s0) F' w' ∧ Mv F0 F' w w' := by
  have hmf : ∀ (fn : Fn) (first cap : Array Value) (w : World), (Instr.makeFunc fn first cap).run Try.prog w = .ok (.func fn first cap) w := fun _ _ _ _ => rfl
  have hal := (Below.refl w.heap.size w).alloc (Nat.le_refl _) (.cells #[.func (.func g) #[] caps] 38)
  have hX := Blk.new w [.func (.func g) #[] caps] 38
  have hjl := T.lt hJ
  have hS := iSome_any (J := EaJ J w.heap.size (.func (.func g) #[] caps)) (fun s x => (st s x, false)) 38 (.pointer (some ⟨w.heap.size, 0, none⟩)) (fun _ _ => by kernel_rfl) va l _ (hl.below hal) hlen s0 (fun k => F0 k ∨ k = w.heap.size)
    (fun h0 k hk hf => by
      rcases hf with hf | hf
      · exact hF h0 k hk hf
      · have := hl.rows.lt h0 k hk
        omega)
    ⟨F0, T.kept hJ hal, fun h => by have := hjl _ h; omega, fun k => Iff.rfl, hX⟩ R hR0 hRs
    (fun s F w' x k hx hk hr hj ho => iEach1_any st g caps eg _ s F w' x hj fun F1 h1 h2 => hT s F1 w' x k hx hk hr h1 (by
      refine ⟨ho.os.trans hal.os, ho.tape.trans hal.tape, ho.output.trans hal.output, Nat.le_trans hal.size ho.size, fun k hk hf => (ho.block k (Nat.lt_of_lt_of_le hk hal.size) fun h => ?_).trans (hal.block k hk)⟩
      rcases h with h | h
      · exact hf h
      · omega))
  rw [runS_each] at hS
  have HS := Lib.hid hS
  have HAL := Lib.hid hal
  have HJL := Lib.hid hjl
  clear hal hX hjl hS hJ hT hF hl
  go_enter Try.func29, Try.ntmps29
  go_wp2_with (go_at_call 26; (with_reducible refine HS.out.mono ?_); rintro e w1 ⟨rfl, F', ⟨F1, h1, h2, h3, h4⟩, hm⟩; have H1 := Lib.hid h1; have H2 := Lib.hid h2; have H3 := Lib.hid h3; have HM := Lib.hid hm; clear h1 h2 h3 h4 hm)
  go_end0
  have ho := HM.out.only
  have hal := HAL.out
  refine ⟨rfl, F1, H1.out, ⟨ho.os.trans hal.os, ho.tape.trans hal.tape, ho.output.trans hal.output, Nat.le_trans hal.size ho.size, fun k hk hf => (ho.block k (Nat.lt_of_lt_of_le hk hal.size) fun h => ?_).trans (hal.block k hk)⟩, fun k hk => ?_⟩
  · rcases h with h | h
    · exact hf h
    · omega
  · rcases HM.out.sub k ((H3.out k).2 (.inl hk)) with (h | h) | h
    · exact .inl h
    · exact absurd (h ▸ hk) H2.out
    · exact .inr (Nat.le_trans hal.size h)
end Go.Proofs.Ytgkhjnfkpodddaa
