/- slices.SortStableFunc at structs: from and to lists of one own. Written by wip/tools/gen_stab.py. -/
import Derived.Test.YtoepodjpempcdaaSymF
import Derived.Test.YtoepodjpempcdaaSortRow
namespace Go.Proofs.Ytoepodjpempcdaa
open Go.RowKit Go.Shelf Go.Lib Go.Sort

set_option maxHeartbeats 4000000 in
set_option maxRecDepth 1000000 in
theorem sInsertion_nil (v f : Value) (w : World) : Calls Try.prog 44 #[v, .int .i64 0, .int .i64 0, f] w fun e w' => e = .returned (.tuple #[]) ∧ w' = w := by
  go_enter Try.func44, Try.ntmps44
  go_wp2
  go_loopg [8] 1 (fun _ s8 wr => s8 = .int .i64 1 ∧ wr = w)
  case atStart => exact ⟨rfl, rfl⟩
  case round =>
    obtain ⟨rfl, rfl⟩ := hrel
    go_wp2
    go_end0
    exact ⟨rfl, rfl⟩
set_option maxHeartbeats 4000000 in
set_option maxRecDepth 1000000 in
theorem sStable_nil (v f : Value) (w : World) : Calls Try.prog 41 #[v, .int .i64 0, f] w fun e w' => e = .returned (.tuple #[]) ∧ w' = w := by
  go_enter Try.func41, Try.ntmps41
  go_wp2
  go_loopg [7, 8] 1 (fun _ s7 s8 wr => s7 = .int .i64 0 ∧ s8 = .int .i64 20 ∧ wr = w)
  case atStart => exact ⟨rfl, rfl, rfl⟩
  case round =>
    obtain ⟨rfl, rfl, rfl⟩ := hrel
    go_wp2_with (go_at_call 44; refine (sInsertion_nil _ _ _).mono ?_; rintro e w' ⟨rfl, rfl⟩)
    go_loopg [6] 1 (fun _ s6 wr => s6 = .int .i64 20 ∧ wr = w')
    case atStart => exact ⟨rfl, rfl⟩
    case round =>
      obtain ⟨rfl, rfl⟩ := hrel
      go_wp2
      go_end0
      exact ⟨rfl, rfl⟩
/-- what a function value that compares says, whatever the world -/
def CmpV {α : Type} (P : Program) (g : Nat) (fi ca : Array Value) (cs : α → List Value) (cf : α → α → Int) : Prop :=
  ∀ x y w, Calls P g (fi ++ (#[.agg (cs x).toArray, .agg (cs y).toArray] ++ ca)) w fun e w' => e = .returned (.int .i64 (cf x y)) ∧ Below w.heap.size w w'

set_option maxHeartbeats 4000000 in
set_option maxRecDepth 1000000 in
theorem sSortStable_any {α : Type} [Inhabited α] (T S : TypeId) (hT : 23 = T) (hS : 28 = S) (K : Nat) (ty : TyK Try.prog T S K) (enc : α → List Value) (cf : α → α → Int) (hO : SWO (ltOf cf)) (g : Nat) (fi ca : Array Value) (eg : ∀ args w, (callFunc g args).run Try.prog w = .ok (.enter g args) w) (blk off cap len : Nat) (d0 d : Array α) (w0 w : World) (hlen : d.size = len)
    (hcmp : CmpF Try.prog g fi ca enc K cf blk off len w0) (R : RowK enc K w0 blk off d0) (hs : d0.size = len) (W : SWB enc K w0 blk off d w) (hsz0 : len < 1152921504606846976) :
    Calls Try.prog 31 #[.slice (some ⟨blk, off, none⟩) len cap, .func (.func g) fi ca] w fun e w' => e = .returned (.tuple #[]) ∧ ∃ d', d'.toList.Perm d.toList ∧ Ord (ltOf cf) d'.toList ∧ d'.size = len ∧ Aside (SWB enc K w0 blk off d' w') := by
  have HR := sStable_any T S hT hS K ty enc cf hO g fi ca eg blk off cap len d0 d w0 w hlen hcmp R hs W hsz0
  clear hlen hcmp W hT hS ty
  go_enter Try.func31, Try.ntmps31
  go_wp2_with (go_at_call 41; refine HR.mono ?_; rintro e w' ⟨rfl, d', e1, e2, e3, S2⟩)
  go_end0
  exact ⟨rfl, d', e1, e2, e3, S2⟩
set_option maxHeartbeats 4000000 in
set_option maxRecDepth 1000000 in
theorem sSortStable_nil (a : Option Addr) (c : Nat) (f : Value) (w : World) : Calls Try.prog 31 #[.slice a 0 c, f] w fun e w' => e = .returned (.tuple #[]) ∧ w' = w := by
  go_enter Try.func31, Try.ntmps31
  go_wp2_with (go_at_call 41; refine (sStable_nil _ _ _).mono ?_; rintro e w' ⟨rfl, rfl⟩)
  go_end0
  exact ⟨rfl, rfl⟩

theorem stable_own {α : Type} [Inhabited α] (K : Nat) (ty : TyK Try.prog 23 28 K) (cs : α → List Value) (hK : ∀ x, (cs x).length = K) (hone : ∀ x, ∀ u ∈ cs x, u.oneCell' = true)
    (cf : α → α → Int) (hO : SWO (ltOf cf)) (g : Nat) (fi ca : Array Value) (eg : ∀ args w, (callFunc g args).run Try.prog w = .ok (.enter g args) w) (hcmp : CmpV Try.prog g fi ca cs cf) (v : Value) (l : List α) (B : Nat) (e : TypeId) (w : World) (h : OwnR w B e K cs v l) (hB : B ≤ w.heap.size) (hsz : l.length < 1152921504606846976) :
    Calls Try.prog 31 #[v, .func (.func g) fi ca] w fun e' w' => e' = .returned (.tuple #[]) ∧ ∃ l', l'.Perm l ∧ l'.Pairwise (fun x y => ltOf cf y x = false) ∧ RowsAt w' K cs v l' ∧ Below B w w' := by
  by_cases h0 : l.length = 0
  · have : l = [] := List.eq_nil_of_length_eq_zero h0
    subst this
    obtain ⟨a, c, rfl⟩ := RowsAt.form (OwnR.rows hK h)
    refine (sSortStable_nil a c _ w).mono ?_
    rintro e w' ⟨rfl, rfl⟩
    exact ⟨rfl, [], List.Perm.refl _, List.Pairwise.nil, OwnR.rows hK h, Below.refl _ _⟩
  · obtain ⟨gb, cap, rfl, hg, hgw, hc, hH⟩ := h.holdsK hK (by omega)
    have hs := sSortStable_any _ _ rfl rfl K ty cs cf hO g fi ca eg gb 0 cap l.length l.toArray l.toArray w w (by simp) (fun dk W _ _ x y => hcmp x y W) ⟨hK, hone, hH, hgw⟩ (by simp) (SWB.start hH) hsz
    refine hs.mono ?_
    rintro e w' ⟨rfl, d', e1, e2, e3, S2⟩
    have hH2 : Sort.HoldsK cs K w' gb 0 d'.toList.toArray := by simpa using S2.out.holds
    have hr := rows_of_holdsK hK hH2 (Nat.lt_of_lt_of_le hgw S2.out.size) (cap := cap) (by simp; omega)
    have hlen : d'.toList.length = l.length := by simp [e3]
    rw [hlen] at hr
    exact ⟨rfl, d'.toList, by simpa using e1, e2, hr, ⟨S2.out.os, S2.out.tape, S2.out.output, S2.out.size, fun b hb => S2.out.other b (by omega) (by omega)⟩⟩
end Go.Proofs.Ytoepodjpempcdaa
