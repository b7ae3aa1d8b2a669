/- Stage 25: what must come at any rate; a roster of the call's own. -/
import Derived.Test.YtlgemfgikdaelaaRsE
import Derived.Deep.DeepCutAuto
namespace Go.Proofs.Ytlgemfgikdaelaa
open Go.RowKit

/-- a roster in blocks that are made since w0 -/
def RsS (w0 w : World) (p : Nat) (room : Int) (L : List En) : Prop := ∃ F, RsAt F w p room L ∧ (∀ k, F k → w0.heap.size ≤ k) ∧ Below w0.heap.size w0 w
section
variable {w0 w w' : World} {p : Nat} {room : Int} {L L' : List En}
theorem RsS.below (h : RsS w0 w p room L) : Below w0.heap.size w0 w := by
  obtain ⟨F, h1, h2, h3⟩ := h
  exact h3
theorem RsS.ok (h : RsS w0 w p room L) : RsOk L := by
  obtain ⟨F, h1, h2, h3⟩ := h
  exact h1.ok
theorem RsS.fit (h : RsS w0 w p room L) : (L.length : Int) ≤ room ∧ room ≤ 16 := by
  obtain ⟨F, h1, h2, h3⟩ := h
  exact h1.fit
theorem RsS.kept (h : RsS w0 w p room L) (hb : Below w.heap.size w w') : RsS w0 w' p room L := by
  obtain ⟨F, h1, h2, h3⟩ := h
  exact ⟨F, h1.kept hb, h2, h3.trans (hb.mono h3.size)⟩
theorem RsS.to {F : Nat → Prop} (h2 : ∀ k, F k → w0.heap.size ≤ k) (h3 : Below w0.heap.size w0 w) (h : RsTo F w w' p room L') : RsS w0 w' p room L' := by
  obtain ⟨F', h4, h5⟩ := h
  exact ⟨F', h4, h5.from_ h2 h3.size, h3.trans (h5.only.below h2 h3.size)⟩
theorem RsS.step {P : Program} {f : Nat} {args : Array Value} {r : Value} (h : RsS w0 w p room L) (hc : ∀ F, RsAt F w p room L → Calls P f args w fun e w' => e = .returned r ∧ RsTo F w w' p room L') :
    Calls P f args w fun e w' => e = .returned r ∧ RsS w0 w' p room L' := by
  obtain ⟨F, h1, h2, h3⟩ := h
  refine (hc F h1).mono ?_
  rintro e w' ⟨rfl, ht⟩
  exact ⟨rfl, RsS.to h2 h3 ht⟩
end

abbrev e25a : En := ⟨1, 3, true, false⟩
abbrev e25b : En := ⟨2, 1, true, false⟩
abbrev e25c : En := ⟨1, 3, true, true⟩
theorem add25a : addE 2 [] 2 1 = ([e25b], 0) := rfl
theorem add25b : addE 2 [e25b] 1 3 = ([e25a, e25b], 0) := rfl
theorem add25c : addE 2 [e25a, e25b] 3 0 = ([e25a, e25b], 9) := rfl
theorem take25a : takeE [e25a, e25b] 1 = ([e25c, e25b], 0) := rfl
theorem take25b : takeE [e25c, e25b] 1 = ([e25c, e25b], 12) := rfl
theorem busy25 : busyE [e25c, e25b] 1 = true := rfl
theorem give25a : giveE [e25c, e25b] 1 = ([e25a, e25b], true) := rfl
theorem give25b : giveE [e25a, e25b] 1 = ([e25a, e25b], false) := rfl
theorem pick25a : pickE [e25a, e25b] 1 [] = (1, true) := by decide
theorem pick25b : pickE [e25a, e25b] 1 [1] = (2, true) := by decide
set_option maxHeartbeats 8000000 in
set_option maxRecDepth 100000 in
theorem rAlive_any (w : World) : Calls Try.prog 5 #[] w fun e w' => e = .returned (.bool true) ∧ Below w.heap.size w w' := by
  have G0 := Lib.hid (rNew_any 2 w)
  have GA := Lib.hid fun p w1 (h : RsS w w1 p 2 []) => RsS.step h fun F h => add25a ▸ rAdd_any h 2 1 (by omega)
  have GB := Lib.hid fun p w1 (h : RsS w w1 p 2 [e25b]) => RsS.step h fun F h => add25b ▸ rAdd_any h 1 3 (by omega)
  have GC := Lib.hid fun p w1 (h : RsS w w1 p 2 [e25a, e25b]) => RsS.step h fun F h => add25c ▸ rAdd_any h 3 0 (by omega)
  have GP := Lib.hid (show ∀ p w1, RsS w w1 p 2 [e25a, e25b] → Calls Try.prog 13 #[ptr25 p, .int .u64 1, .slice none 0 0] w1 fun e w' => e = .returned (.tuple #[.int .i64 1, .bool true]) ∧ Below w1.heap.size w1 w' from fun p w1 h => by
    obtain ⟨F, h1, h2, h3⟩ := h
    have := rPick_any h1 1 (by omega) (.slice none 0 0) [] (IntsAt.nil _) (by simp)
    rw [pick25a] at this
    exact this)
  have GQ := Lib.hid (show ∀ p w1, RsS w w1 p 2 [e25a, e25b] → Calls Try.prog 13 #[ptr25 p, .int .u64 1, .slice (some ⟨w1.heap.size, 0, none⟩) 1 1] (w1.alloc (.cells #[.int .i64 1] 3)) fun e w' => e = .returned (.tuple #[.int .i64 2, .bool true]) ∧ Below w1.heap.size w1 w' from fun p w1 h => by
    have hb := (Below.refl w1.heap.size w1).alloc (Nat.le_refl _) (.cells #[.int .i64 1] 3)
    obtain ⟨F, h1, h2, h3⟩ := h.kept hb
    have := rPick_any h1 1 (by omega) (.slice (some ⟨w1.heap.size, 0, none⟩) 1 1) [1] (RowsAt.ints (oneI13 w1 1)) (by simp)
    rw [pick25b] at this
    exact this.mono fun e w' ⟨h1, h3⟩ => ⟨h1, hb.trans (h3.mono hb.size)⟩)
  have GT := Lib.hid fun p w1 (h : RsS w w1 p 2 [e25a, e25b]) => RsS.step h fun F h => take25a ▸ rTake_any h 1
  have GU := Lib.hid fun p w1 (h : RsS w w1 p 2 [e25c, e25b]) => RsS.step h fun F h => take25b ▸ rTake_any h 1
  have GS := Lib.hid (show ∀ p w1, RsS w w1 p 2 [e25c, e25b] → Calls Try.prog 19 #[ptr25 p, .int .i64 1] w1 fun e w' => e = .returned (.bool true) ∧ Below w1.heap.size w1 w' from fun p w1 h => by
    obtain ⟨F, h1, h2, h3⟩ := h
    exact busy25 ▸ rBusy_any h1 1)
  have GG := Lib.hid fun p w1 (h : RsS w w1 p 2 [e25c, e25b]) => RsS.step h fun F h => give25a ▸ rGive_any h 1
  have GH := Lib.hid fun p w1 (h : RsS w w1 p 2 [e25a, e25b]) => RsS.step h fun F h => give25b ▸ rGive_any h 1
  go_enter Try.func5, Try.ntmps5
  go_wp2_with (first
    | (go_at_call 6; (with_reducible refine G0.out.mono ?_); rintro e w1 ⟨p, F, rfl, q1, q2, q3⟩; have H1 := Lib.hid (show RsS w w1 p 2 [] from ⟨F, q1, q2, q3⟩); clear q1 q2 q3)
    | (go_at_call 26; refine (GA.out _ _ H1.out).mono ?_; rintro e w2 ⟨rfl, q⟩; have H2 := Lib.hid q; clear q H1)
    | (go_at_call 26; refine (GB.out _ _ H2.out).mono ?_; rintro e w3 ⟨rfl, q⟩; have H3 := Lib.hid q; clear q H2)
    | (go_at_call 26; refine (GC.out _ _ H3.out).mono ?_; rintro e w4 ⟨rfl, q⟩; have H4 := Lib.hid q; clear q H3)
    | (go_at_call 13; refine (GP.out _ _ H4.out).mono ?_; rintro e w5 ⟨rfl, q⟩; have H5 := Lib.hid (H4.out.kept q); clear q H4)
    | (go_at_call 13; refine (GQ.out _ _ H5.out).mono ?_; rintro e w6 ⟨rfl, q⟩; have H6 := Lib.hid (H5.out.kept q); clear q H5)
    | (go_at_call 24; refine (GT.out _ _ H6.out).mono ?_; rintro e w7 ⟨rfl, q⟩; have H7 := Lib.hid q; clear q H6)
    | (go_at_call 24; refine (GU.out _ _ H7.out).mono ?_; rintro e w8 ⟨rfl, q⟩; have H8 := Lib.hid q; clear q H7)
    | (go_at_call 19; refine (GS.out _ _ H8.out).mono ?_; rintro e w9 ⟨rfl, q⟩; have H9 := Lib.hid (H8.out.kept q); clear q H8)
    | (go_at_call 25; refine (GG.out _ _ H9.out).mono ?_; rintro e w10 ⟨rfl, q⟩; have H10 := Lib.hid q; clear q H9)
    | (go_at_call 25; refine (GH.out _ _ H10.out).mono ?_; rintro e w11 ⟨rfl, q⟩; have H11 := Lib.hid q; clear q H10))
  go_ret
  exact ⟨rfl, H11.out.below⟩
end Go.Proofs.Ytlgemfgikdaelaa
