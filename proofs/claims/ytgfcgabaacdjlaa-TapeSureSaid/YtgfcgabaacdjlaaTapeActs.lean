/- Stage 11: acts in memory; an act done; what must come at any rate. -/
import Derived.Test.YtgfcgabaacdjlaaTapeRef
import Derived.Lib.SlBytesConst
namespace Go.Proofs.Ytgfcgabaacdjlaa
open Go.RowKit

/-- an act: its kind, its number, its bytes as a value, the bytes -/
structure Ab where
  k : Int
  n : Int
  s : Sl
  b : List UInt8
instance : Inhabited Ab := ⟨⟨0, 0, (none, 0, 0), []⟩⟩
def csA (x : Ab) : List Value := [.int .i64 x.k, .int .i64 x.n, sl x.s]
theorem csA_len (x : Ab) : (csA x).length = 3 := rfl
def ActsAt (w : World) (v : Value) (l : List Ab) : Prop := RowsAt w 3 csA v l ∧ ∀ x ∈ l, BytesAt w (sl x.s) x.b
theorem ActsAt.kept {w w' : World} {v : Value} {l : List Ab} (h : ActsAt w v l) (hb : Below w.heap.size w w') : ActsAt w' v l := ⟨h.1.kept hb, fun x hx => (h.2 x hx).kept hb⟩
theorem ActsAt.form {w : World} {v : Value} {l : List Ab} (h : ActsAt w v l) : ∃ a c, v = .slice a l.length c := h.1.form
theorem ActsAt.at {w : World} {v : Value} {l : List Ab} (h : ActsAt w v l) (k : Nat) (hk : k < l.length) :
    ∃ g o c, v = .slice (some ⟨g, o, none⟩) l.length c ∧ w.cell? ⟨g, o + k * 3, none⟩ = some (.int .i64 l[k].k) ∧ w.cell? ⟨g, o + k * 3 + 1, none⟩ = some (.int .i64 l[k].n) ∧ w.cell? ⟨g, o + k * 3 + 2, none⟩ = some (sl l[k].s) ∧ BytesAt w (sl l[k].s) l[k].b := by
  obtain ⟨g, o, c, e, _, _, hx⟩ := h.1.spot k hk
  exact ⟨g, o, c, e, hx 0 _ rfl, hx 1 _ rfl, hx 2 _ rfl, h.2 _ (List.getElem_mem hk)⟩

/-- few acts, of few bytes -/
def fewA (l : List Ab) (m : Int) : Prop := (l.length : Int) ≤ m ∧ ∀ x ∈ l, x.b.length ≤ 60
instance (l : List Ab) (m : Int) : Decidable (fewA l m) := by unfold fewA; infer_instance
theorem slen {w : World} {x : Ab} (h : BytesAt w (sl x.s) x.b) : sl x.s = .slice x.s.1 x.b.length x.s.2.2 := by
  obtain ⟨a, c, e⟩ := RowsAt.form h
  unfold sl at *
  injection e with e1 e2 e3
  rw [e2]

set_option maxHeartbeats 4000000 in
set_option maxRecDepth 100000 in
theorem refFew11_any (va : Value) (l : List Ab) (m : Int) (w : World) (ha : ActsAt w va l) (hl : l.length ≤ 9223372036854775807) :
    Calls Try.prog 5 #[va, .int .i64 m] w fun e w' => e = .returned (.bool (decide (fewA l m))) ∧ w = w' := by
  have HA := Lib.hid ha
  obtain ⟨a, c, rfl⟩ := ha.form
  clear ha
  by_cases h1 : m < (l.length : Int)
  · rw [decide_eq_false (fun h => by have := h.1; omega)]
    go_enter Try.func5, Try.ntmps5
    go_wp2
    go_ret
    exact ⟨rfl, rfl⟩
  · by_cases hall : ∀ x ∈ l, x.b.length ≤ 60
    · rw [decide_eq_true ⟨by omega, hall⟩]
      have HALL := Lib.hid hall
      clear hall
      go_enter Try.func5, Try.ntmps5
      go_wp2
      go_loopw [5] (fun i wr => ∃ k : Nat, k ≤ l.length ∧ i = .int .i64 k ∧ w = wr) (fun i _ => l.length - (intOf i).toNat)
      case atStart => exact ⟨0, Nat.zero_le _, rfl, rfl⟩
      case round =>
        obtain ⟨k, hk, rfl, rfl⟩ := hrel
        by_cases hlt : k < l.length
        · obtain ⟨g, o, cc, e, _, _, p2, hx⟩ := HA.out.at k hlt
          rw [slen hx] at p2
          cases e
          have k0 : (0 : Int) ≤ (k : Int) := by omega
          have k1 : (k : Int) < (l.length : Int) := by omega
          have h2 := HALL.out l[k] (List.getElem_mem hlt)
          generalize l[k].b.length = q at *
          have h3 : ¬ (60 : Int) < (q : Int) := by omega
          clear hx
          go_wp2
          go_roundw
          case rel => exact ⟨k + 1, by omega, by go_num, by trivial⟩
          case measure => simp [intOf] <;> omega
        · have hke : k = l.length := by omega
          subst hke
          go_wp2
          go_ret
          exact ⟨rfl, rfl⟩
    · rw [decide_eq_false (fun h => hall h.2)]
      have HALL := Lib.hid hall
      clear hall
      go_enter Try.func5, Try.ntmps5
      go_wp2
      go_loopw [5] (fun i wr => ∃ k : Nat, k ≤ l.length ∧ i = .int .i64 k ∧ (∀ x ∈ l.take k, x.b.length ≤ 60) ∧ w = wr) (fun i _ => l.length - (intOf i).toNat)
      case atStart => exact ⟨0, Nat.zero_le _, rfl, by simp, rfl⟩
      case round =>
        obtain ⟨k, hk, rfl, htk, rfl⟩ := hrel
        by_cases hlt : k < l.length
        · obtain ⟨g, o, cc, e, _, _, p2, hx⟩ := HA.out.at k hlt
          rw [slen hx] at p2
          cases e
          have k0 : (0 : Int) ≤ (k : Int) := by omega
          have k1 : (k : Int) < (l.length : Int) := by omega
          have HNX := Lib.hid (show l[k].b.length ≤ 60 → ∀ x ∈ l.take (k + 1), x.b.length ≤ 60 by
            intro h x hx
            rw [List.take_succ_eq_append_getElem hlt, List.mem_append] at hx
            rcases hx with hx | hx
            · exact htk x hx
            · simp at hx; subst hx; exact h)
          generalize l[k].b.length = q at *
          clear hx htk
          by_cases h3 : (60 : Int) < (q : Int)
          · go_wp2
            go_ret
            exact ⟨rfl, rfl⟩
          · go_wp2
            go_roundw
            case rel => exact ⟨k + 1, by omega, by go_num, HNX.out (by omega), by trivial⟩
            case measure => simp [intOf] <;> omega
        · have hke : k = l.length := by omega
          rw [List.take_of_length_le (by omega)] at htk
          exact absurd htk HALL.out

set_option maxHeartbeats 4000000 in
set_option maxRecDepth 100000 in
/-- an act done -/
theorem lDo11_any {F : Nat → Prop} {p : Nat} {H L : List UInt8} {vh vl : Value} (va : Value) (b : List UInt8) (k n : Int) (w : World) (h : TapeAt F w p H L vh vl) (hb : BytesAt w va b) (hl : H.length + L.length + b.length ≤ 1000000000) :
    Calls Try.prog 8 #[ptr p, .agg #[.int .i64 k, .int .i64 n, va]] w fun e w' => e = .returned (.int .i64 (tE H k n)) ∧ ∃ vh' vl' F', TapeAt F' w' p (tH H L k n) (tL L k b) vh' vl' ∧ Mv F F' w w' := by
  have hbel := (Below.refl w.heap.size w).alloc (Nat.le_refl _) (.cells #[.int .i64 k, .int .i64 n, va] 31)
  have HT := Lib.hid (h.kept hbel)
  have HB := Lib.hid (RowsAt.kept (w := w) hb hbel)
  have HL := Lib.hid (Mv.of_below (F := F) hbel)
  obtain ⟨a, c, rfl⟩ := RowsAt.form hb
  clear h hb hbel
  by_cases k1 : k = 1
  · subst k1
    have hc := Lib.hid (tWrite_any _ b _ HT.out HB.out (by omega))
    have e1 : tH H L 1 n = H := rfl
    have e2 : tL L 1 b = L ++ b := rfl
    have e3 : tE H 1 n = 0 := rfl
    rw [e1, e2, e3]
    go_enter Try.func8, Try.ntmps8
    go_wp2_with (go_at_call 14; (with_reducible refine hc.out.mono ?_); rintro e w1 ⟨rfl, vl', F', ht, hm⟩; have HX := Lib.hid ht; have HM := Lib.hid hm; clear ht hm)
    go_ret
    exact ⟨rfl, _, _, _, HX.out, HL.out.trans HM.out⟩
  by_cases k2 : k = 2
  · subst k2
    have hc := Lib.hid (tSync_any _ HT.out (by omega))
    have e1 : tH H L 2 n = H ++ L := rfl
    have e2 : tL L 2 b = [] := rfl
    have e3 : tE H 2 n = 0 := rfl
    rw [e1, e2, e3]
    go_enter Try.func8, Try.ntmps8
    go_wp2_with (go_at_call 15; (with_reducible refine hc.out.mono ?_); rintro e w1 ⟨rfl, vl', F', ht, hm⟩; have HX := Lib.hid ht; have HM := Lib.hid hm; clear ht hm)
    go_ret
    exact ⟨rfl, _, _, _, HX.out, HL.out.trans HM.out⟩
  by_cases k3 : k = 3
  · subst k3
    have hc := Lib.hid (tCrash_any n _ HT.out (by omega))
    have e1 : tH H L 3 n = H ++ L.take (min (max n 0) (L.length : Int)).toNat := rfl
    have e2 : tL L 3 b = [] := rfl
    have e3 : tE H 3 n = 0 := rfl
    rw [e1, e2, e3]
    go_enter Try.func8, Try.ntmps8
    go_wp2_with (go_at_call 13; (with_reducible refine hc.out.mono ?_); rintro e w1 ⟨rfl, vl', F', ht, hm⟩; have HX := Lib.hid ht; have HM := Lib.hid hm; clear ht hm)
    go_ret
    exact ⟨rfl, _, _, _, HX.out, HL.out.trans HM.out⟩
  by_cases k4 : k = 4
  · subst k4
    have hc := Lib.hid (tCut_any n _ HT.out (by omega))
    have e1 : tH H L 4 n = H.drop (cutN H.length n) := rfl
    have e2 : tL L 4 b = L := rfl
    have e3 : tE H 4 n = cutE H.length n := rfl
    rw [e1, e2, e3]
    go_enter Try.func8, Try.ntmps8
    go_wp2_with (go_at_call 16; (with_reducible refine hc.out.mono ?_); rintro e w1 ⟨rfl, vl', ht, hm⟩; have HX := Lib.hid ht; have HM := Lib.hid hm; clear ht hm)
    go_ret
    exact ⟨rfl, _, _, _, HX.out, HL.out.trans HM.out⟩
  · have e1 : tH H L k n = H := by simp [tH, k2, k3, k4]
    have e2 : tL L k b = L := by simp [tL, k1, k2, k3]
    have e3 : tE H k n = 0 := by simp [tE, k4]
    rw [e1, e2, e3]
    clear e1 e2 e3
    go_enter Try.func8, Try.ntmps8
    go_wp2
    go_ret
    exact ⟨rfl, _, _, _, HT.out, HL.out⟩
end Go.Proofs.Ytgfcgabaacdjlaa
