/- Texts of this proof, joined: FifoLaw; FifoLawF; Labels; SatMath; SatA; SatB; SatRef; FifoLawD; LockRefG; LockLaw; FqMath; FqA; FqB. -/
import Derived.Test.YtbkoogffnchldaaGreatBun4
import Derived.Deep.DeepCutAuto
import Derived.Test.YtbkoogffnchldaaGreatRows
import Derived.WalkKit
import Derived.Deep.LoopGhost
import Derived.WalkSpells
import Derived.WalkLawsBesides
import Derived.Lib.Hide
import Derived.Lib.MinMax
import Derived.Below
import Derived.Deep.QuietTactic
import Derived.BigQuiet
import Derived.Deep.CutBlock
/- What the laws of layer 18 lean on: the program's contracts, as one structure; alive. -/
namespace Go.Proofs.YtbkoogffnchldaaGreat
open Go.RowKit

structure Fq where
  room : Int
  l : List Int
def clipF (n : Int) : Int := max 0 (min n 1024)
def hdF : List Int → Int × Bool
  | [] => (0, false)
  | x :: _ => (x, true)
def In18 (n : Int) : Prop := -9223372036854775808 ≤ n ∧ n ≤ 9223372036854775807
/-- what package fifo keeps -/
structure FifoProg where
  obj : ObjK Fq
  new : ∀ (room : Int) (w : World), In18 room → Calls Tryz.prog 71 #[.int .i64 room] w fun e w' => ∃ p F, e = .returned p ∧ obj.At F w' p ⟨clipF room, []⟩ ∧ (∀ k, F k → w.heap.size ≤ k) ∧ Below w.heap.size w w'
  put : ∀ {F w p q} (x : Int), obj.At F w p q → In18 x → Calls Tryz.prog 83 #[p, .int .i64 x] w fun e w' => e = .returned (.int .i64 (putF q.l q.room x).2) ∧ ∃ F', obj.At F' w' p ⟨q.room, (putF q.l q.room x).1⟩ ∧ Mv F F' w w'
  take : ∀ {F w p q}, obj.At F w p q → Calls Tryz.prog 82 #[p] w fun e w' => e = .returned (.tuple #[.int .i64 (hdF q.l).1, .bool (hdF q.l).2]) ∧ ∃ F', obj.At F' w' p ⟨q.room, q.l.drop 1⟩ ∧ Mv F F' w w'
  drop : ∀ {F w p q} (x : Int), obj.At F w p q → In18 x → Calls Tryz.prog 81 #[p, .int .i64 x] w fun e w' => e = .returned (.bool (wasF q.l x)) ∧ ∃ F', obj.At F' w' p ⟨q.room, dropF q.l x⟩ ∧ Mv F F' w w'
  first : ∀ {F w p q}, obj.At F w p q → Calls Tryz.prog 92 #[p] w fun e w' => e = .returned (.tuple #[.int .i64 (hdF q.l).1, .bool (hdF q.l).2]) ∧ Below w.heap.size w w'
  at_ : ∀ {F w p q} (x : Int), obj.At F w p q → In18 x → Calls Tryz.prog 90 #[p, .int .i64 x] w fun e w' => e = .returned (.int .i64 (plcL q.l x)) ∧ Below w.heap.size w w'
  list : ∀ {F w p q}, obj.At F w p q → Calls Tryz.prog 85 #[p] w fun e w' => ∃ v, e = .returned v ∧ IntsAt w' v q.l ∧ Below w.heap.size w w'
  len : ∀ {F w p q}, obj.At F w p q → Calls Tryz.prog 94 #[p] w fun e w' => e = .returned (.int .i64 (q.l.length : Int)) ∧ Below w.heap.size w w'
  room : ∀ {F w p q}, obj.At F w p q → Calls Tryz.prog 95 #[p] w fun e w' => e = .returned (.int .i64 q.room) ∧ Below w.heap.size w w'
  put_nil : ∀ (x : Int) (w : World), Calls Tryz.prog 83 #[.pointer none, .int .i64 x] w fun e w' => e = .returned (.int .i64 9) ∧ Below w.heap.size w w'
  take_nil : ∀ w : World, Calls Tryz.prog 82 #[.pointer none] w fun e w' => e = .returned (.tuple #[.int .i64 0, .bool false]) ∧ Below w.heap.size w w'
  drop_nil : ∀ (x : Int) (w : World), Calls Tryz.prog 81 #[.pointer none, .int .i64 x] w fun e w' => e = .returned (.bool false) ∧ Below w.heap.size w w'
  first_nil : ∀ w : World, Calls Tryz.prog 92 #[.pointer none] w fun e w' => e = .returned (.tuple #[.int .i64 0, .bool false]) ∧ Below w.heap.size w w'
  at_nil : ∀ (x : Int) (w : World), Calls Tryz.prog 90 #[.pointer none, .int .i64 x] w fun e w' => e = .returned (.int .i64 (-1)) ∧ Below w.heap.size w w'
  len_nil : ∀ w : World, Calls Tryz.prog 94 #[.pointer none] w fun e w' => e = .returned (.int .i64 0) ∧ Below w.heap.size w w'
  room_nil : ∀ w : World, Calls Tryz.prog 95 #[.pointer none] w fun e w' => e = .returned (.int .i64 0) ∧ Below w.heap.size w w'

section
variable {w w1 : World} {p : Value} {q : Fq} {bs : List Bes}
theorem FifoProg.sPut (C : FifoProg) (x : Int) (hx : In18 x) (h : SideG C.obj w w1 p q bs) : Calls Tryz.prog 83 #[p, .int .i64 x] w1 fun e w' => e = .returned (.int .i64 (putF q.l q.room x).2) ∧ SideG C.obj w w' p ⟨q.room, (putF q.l q.room x).1⟩ bs :=
  h.step fun _ h0 => C.put x h0 hx
theorem FifoProg.sTake (C : FifoProg) (h : SideG C.obj w w1 p q bs) : Calls Tryz.prog 82 #[p] w1 fun e w' => e = .returned (.tuple #[.int .i64 (hdF q.l).1, .bool (hdF q.l).2]) ∧ SideG C.obj w w' p ⟨q.room, q.l.drop 1⟩ bs :=
  h.step fun _ h0 => C.take h0
theorem FifoProg.sDrop (C : FifoProg) (x : Int) (hx : In18 x) (h : SideG C.obj w w1 p q bs) : Calls Tryz.prog 81 #[p, .int .i64 x] w1 fun e w' => e = .returned (.bool (wasF q.l x)) ∧ SideG C.obj w w' p ⟨q.room, dropF q.l x⟩ bs :=
  h.step fun _ h0 => C.drop x h0 hx
theorem FifoProg.sFirst (C : FifoProg) (h : SideG C.obj w w1 p q bs) : Calls Tryz.prog 92 #[p] w1 fun e w' => e = .returned (.tuple #[.int .i64 (hdF q.l).1, .bool (hdF q.l).2]) ∧ Below w1.heap.size w1 w' := by
  obtain ⟨F, h0, _⟩ := h
  exact C.first h0
theorem FifoProg.sAt (C : FifoProg) (x : Int) (hx : In18 x) (h : SideG C.obj w w1 p q bs) : Calls Tryz.prog 90 #[p, .int .i64 x] w1 fun e w' => e = .returned (.int .i64 (plcL q.l x)) ∧ Below w1.heap.size w1 w' := by
  obtain ⟨F, h0, _⟩ := h
  exact C.at_ x h0 hx
theorem FifoProg.sList (C : FifoProg) (h : SideG C.obj w w1 p q bs) : Calls Tryz.prog 85 #[p] w1 fun e w' => ∃ v, e = .returned v ∧ IntsAt w' v q.l ∧ Below w1.heap.size w1 w' := by
  obtain ⟨F, h0, _⟩ := h
  exact C.list h0
theorem FifoProg.sLen (C : FifoProg) (h : SideG C.obj w w1 p q bs) : Calls Tryz.prog 94 #[p] w1 fun e w' => e = .returned (.int .i64 (q.l.length : Int)) ∧ Below w1.heap.size w1 w' := by
  obtain ⟨F, h0, _⟩ := h
  exact C.len h0
theorem FifoProg.sRoom (C : FifoProg) (h : SideG C.obj w w1 p q bs) : Calls Tryz.prog 95 #[p] w1 fun e w' => e = .returned (.int .i64 q.room) ∧ Below w1.heap.size w1 w' := by
  obtain ⟨F, h0, _⟩ := h
  exact C.room h0
theorem FifoProg.sNew (C : FifoProg) (room : Int) (w : World) (h : In18 room) : Calls Tryz.prog 71 #[.int .i64 room] w fun e w' => ∃ p, e = .returned p ∧ SideG C.obj w w' p ⟨clipF room, []⟩ [] := by
  refine (C.new room w h).mono ?_
  rintro e w' ⟨p, F, rfl, h1, h2, h3⟩
  exact ⟨p, rfl, SideG.start h1 h2 h3⟩
end

end Go.Proofs.YtbkoogffnchldaaGreat
/- The law FifoFair, over the program's contracts as one structure. -/
namespace Go.Proofs.YtbkoogffnchldaaGreat
open Go.RowKit

theorem plc_cons (z : Int) (t : List Int) (x : Int) : plcL (z :: t) x = if z = x then 0 else if x ∈ t then plcL t x + 1 else -1 := by
  unfold plcL
  by_cases h : z = x
  · rw [if_pos h, if_pos (by rw [h]; exact List.mem_cons_self), h, List.idxOf_cons_self]
    rfl
  · rw [if_neg h]
    by_cases h2 : x ∈ t
    · rw [if_pos h2, if_pos (List.mem_cons_of_mem _ h2), if_pos h2, List.idxOf_cons, show (z == x) = false from beq_noI h]
      simp
    · rw [if_neg h2, if_neg (fun h3 => by rcases List.mem_cons.1 h3 with e | e; exact h e.symm; exact h2 e)]
/-- nobody falls back; who comes is the last one -/
def FairI (L L' : List Int) (x : Int) : Prop := (0 ≤ plcL L x → plcL L' x ≤ plcL L x) ∧ (plcL L x < 0 → 0 ≤ plcL L' x → plcL L' x = (L'.length : Int) - 1)
theorem fair_same (L : List Int) (x : Int) : FairI L L x := ⟨fun _ => Int.le_refl _, fun h1 h2 => by omega⟩
theorem plc_append {L : List Int} {x : Int} (h : x ∈ L) (y : Int) : plcL (L ++ [y]) x = plcL L x := by
  unfold plcL
  rw [if_pos h, if_pos (List.mem_append_left _ h), List.idxOf_append, if_pos h]
theorem plc_last {L : List Int} {x : Int} (h : x ∉ L) : plcL (L ++ [x]) x = (L.length : Int) := by
  unfold plcL
  rw [if_pos (by simp), List.idxOf_append, if_neg h, List.idxOf_cons_self]
  simp
theorem fair_put (L : List Int) (room y x : Int) : FairI L (putF L room y).1 x := by
  unfold putF
  split
  · exact fair_same L x
  · split
    · exact fair_same L x
    · by_cases h : x ∈ L
      · refine ⟨fun _ => by rw [plc_append h]; exact Int.le_refl _, fun h1 => ?_⟩
        have := plc_ge.2 h
        omega
      · refine ⟨fun h1 => absurd (plc_ge.1 h1) h, fun _ h2 => ?_⟩
        have hm := plc_ge.1 h2
        have hx : x = y := by
          rcases List.mem_append.1 hm with h3 | h3
          · exact absurd h3 h
          · exact List.mem_singleton.1 h3
        subst hx
        show plcL (L ++ [x]) x = ((L ++ [x]).length : Int) - 1
        rw [plc_last h, List.length_append]
        simp
theorem put_nodup {L : List Int} (h : L.Nodup) (room y : Int) : (putF L room y).1.Nodup := by
  unfold putF
  split
  · exact h
  · rename_i hn
    split
    · exact h
    · exact List.nodup_append.2 ⟨h, by simp, fun a ha b hb e => hn (by rw [List.mem_singleton.1 hb] at e; exact e ▸ ha)⟩
theorem fair_take {L : List Int} (h : L.Nodup) (x : Int) : FairI L (L.drop 1) x := by
  cases L with
  | nil => exact fair_same [] x
  | cons z t =>
    have hz := List.nodup_cons.1 h
    show FairI (z :: t) t x
    unfold FairI
    rw [plc_cons]
    by_cases e : z = x
    · subst e
      rw [if_pos rfl, plc_none hz.1]
      exact ⟨fun _ => by omega, fun h => by omega⟩
    · rw [if_neg e]
      by_cases h2 : x ∈ t
      · rw [if_pos h2]
        have := plc_ge.2 h2
        exact ⟨fun _ => by omega, fun h => by omega⟩
      · rw [if_neg h2, plc_none h2]
        exact ⟨fun h => by omega, fun _ h => by omega⟩
theorem take_head (z : Int) (t : List Int) (x : Int) : (z == x) = (plcL (z :: t) x == 0) := by
  rw [plc_cons]
  by_cases e : z = x
  · rw [if_pos e, e]; simp
  · rw [if_neg e]
    rw [beq_noI e]
    refine (beq_noI ?_).symm
    by_cases h2 : x ∈ t
    · rw [if_pos h2]
      have := plc_ge.2 h2
      omega
    · rw [if_neg h2]
      omega
theorem fair_drop (x y : Int) : ∀ L : List Int, FairI L (dropF L y) x := fun L => by
  by_cases h : x ∈ L
  · refine ⟨fun _ => ?_, fun h1 => by have := plc_ge.2 h; omega⟩
    induction L with
    | nil => cases h
    | cons z t ih =>
      have e1 : dropF (z :: t) y = if z = y then dropF t y else z :: dropF t y := by
        unfold dropF
        by_cases e : z = y <;> simp [e]
      rw [e1, plc_cons z t x]
      by_cases ez : z = y
      · rw [if_pos ez]
        by_cases ex : z = x
        · rw [if_pos ex]
          have : x ∉ dropF t y := fun hm => ((dropF_mem _ _ _).1 hm).2 (by rw [← ex, ez])
          rw [plc_none this]
          omega
        · have hxt : x ∈ t := by
            rcases List.mem_cons.1 h with e | e
            · exact absurd e.symm ex
            · exact e
          rw [if_neg ex, if_pos hxt]
          have := ih hxt (plc_ge.2 hxt)
          omega
      · rw [if_neg ez, plc_cons]
        by_cases ex : z = x
        · rw [if_pos ex, if_pos ex]
          exact Int.le_refl _
        · have hxt : x ∈ t := by
            rcases List.mem_cons.1 h with e | e
            · exact absurd e.symm ex
            · exact e
          rw [if_neg ex, if_neg ex, if_pos hxt]
          have := ih hxt (plc_ge.2 hxt)
          have h3 := plc_ge.2 hxt
          split <;> omega
  · have hn : x ∉ dropF L y := fun hm => h ((dropF_mem _ _ _).1 hm).1
    rw [FairI, plc_none h, plc_none hn]
    exact ⟨fun h => by omega, fun _ h => by omega⟩

/-- an act: its kind, its number -/
structure A18 where
  k : Int
  x : Int
deriving Inhabited
def csA18 (a : A18) : List Value := [.int .i64 a.k, .int .i64 a.x]
theorem csA18_len (a : A18) : (csA18 a).length = 2 := rfl

end Go.Proofs.YtbkoogffnchldaaGreat
/- A scope with one label to which the run jumps back: what holds at the label bears a number that every pass lowers. -/
namespace Go.Proofs.YtbkoogffnchldaaGreat
open Go.RowKit

theorem wp_of_skip {P : Program} {B rest : Code} (h : rest = .seq .skip B) (Q : Exit → Act → World → Prop) (a : Act) (w : World) (hB : B.wp P Q a w) : rest.wp P Q a w := by
  subst h
  exact wp_seq (wp_skip hB)

/-- The label's rest is walked once ('pass'); the way to the label once ('first'). -/
theorem wp_scope_goto {P : Program} {a : Act} {w : World} {Q : Exit → Act → World → Prop} {c rest B : Code} (l : Nat) (I : Nat → Act → World → Prop) (hf : findLabel c l = some rest) (hB : rest = .seq .skip B)
    (pass : ∀ n a w, I n a w → ∀ K : Act → World → Prop, (∀ n' a' w', n' < n → I n' a' w' → K a' w') → B.wp P (Exit.jump l K Q) a w)
    (first : ∀ K : Act → World → Prop, (∀ n a w, I n a w → B.wp P (Exit.jump l K Q) a w) → c.wp P (Exit.jump l K Q) a w) : (Code.scope c).wp P Q a w := by
  refine wp_scope_jumps l (fun a w => ∃ n, I n a w) (fun a w => leastOf (fun n => I n a w)) hf ?_ ?_
  · exact first _ fun n a w h => pass n a w h _ fun n' a' w' _ h' => ⟨n', h'⟩
  · intro a w hI
    have hs := leastOf_spec hI
    refine wp_of_skip hB _ _ _ (pass _ a w hs.1 _ ?_)
    intro n' a' w' hlt h'
    exact ⟨⟨n', h'⟩, Nat.lt_of_le_of_lt ((leastOf_spec ⟨n', h'⟩).2 n' h') hlt⟩

end Go.Proofs.YtbkoogffnchldaaGreat
/- Sums and products that stop at a greatest number: plain mathematics. -/
namespace Go.Proofs.YtbkoogffnchldaaGreat

def isum : List Int → Int
  | [] => 0
  | a :: l => max a 0 + isum l
def iprod : List Int → Int
  | [] => 1
  | a :: l => max a 0 * iprod l
def sadd (m : Int) (l : List Int) : Int := min m (isum l)
def smul (m : Int) (l : List Int) : Int := min m (iprod l)
def addTo (m s n : Int) : Int := if m - s < n then m else s + n
def mulTo (m p n : Int) : Int := if 0 < n ∧ m / n < p then m else p * n
def iover (a b : Int) : Int := if 0 < max a 0 % max b 1 then max a 0 / max b 1 + 1 else max a 0 / max b 1
def iless (a b : Int) : Int := max (max a 0 - max b 0) 0
def iclip (n a b : Int) : Int := if n < a then a else min n b

theorem isum_nonneg (l : List Int) : 0 ≤ isum l := by
  induction l with
  | nil => simp [isum]
  | cons a l ih => simp only [isum]; omega
theorem iprod_nonneg (l : List Int) : 0 ≤ iprod l := by
  induction l with
  | nil => simp [iprod]
  | cons a l ih => simp only [iprod]; exact Int.mul_nonneg (by omega) ih
theorem isum_snoc (l : List Int) (a : Int) : isum (l ++ [a]) = isum l + max a 0 := by
  induction l with
  | nil => simp [isum]
  | cons b l ih => simp only [List.cons_append, isum, ih]; omega
theorem iprod_snoc (l : List Int) (a : Int) : iprod (l ++ [a]) = iprod l * max a 0 := by
  induction l with
  | nil => simp [iprod]
  | cons b l ih => simp only [List.cons_append, iprod, ih, Int.mul_assoc]

theorem min_mul_min {m p z : Int} (hm : 0 ≤ m) (hp : 0 ≤ p) (hz : 0 ≤ z) : min m (min m p * z) = min m (p * z) := by
  by_cases h : p ≤ m
  · rw [show min m p = p by omega]
  · rw [show min m p = m by omega]
    by_cases h0 : z = 0
    · subst h0; simp
    · have h1 : m * 1 ≤ m * z := Int.mul_le_mul_of_nonneg_left (by omega) hm
      have h2 : p * 1 ≤ p * z := Int.mul_le_mul_of_nonneg_left (by omega) hp
      omega

theorem sadd_nil {m : Int} (hm : 0 ≤ m) : sadd m [] = 0 := by simp only [sadd, isum]; omega
theorem smul_nil (m : Int) : smul m [] = min 1 m := by simp only [smul, iprod]; omega
theorem sadd_bd {m : Int} (hm : 0 ≤ m) (l : List Int) : 0 ≤ sadd m l ∧ sadd m l ≤ m := by
  have := isum_nonneg l
  unfold sadd; omega
theorem smul_bd {m : Int} (hm : 0 ≤ m) (l : List Int) : 0 ≤ smul m l ∧ smul m l ≤ m := by
  have := iprod_nonneg l
  unfold smul; omega
theorem sadd_snoc {m : Int} (_hm : 0 ≤ m) (l : List Int) (a : Int) : sadd m (l ++ [a]) = addTo m (sadd m l) (max a 0) := by
  have h := isum_nonneg l
  unfold sadd addTo
  rw [isum_snoc]
  split <;> omega
theorem mulTo_min {m p n : Int} (hm : 0 ≤ m) (_hp : 0 ≤ p) (_hpm : p ≤ m) (hn : 0 ≤ n) : mulTo m p n = min m (p * n) := by
  unfold mulTo
  by_cases h0 : n = 0
  · subst h0; simp; omega
  · have hn' : 0 < n := by omega
    by_cases h : m / n < p
    · rw [if_pos ⟨hn', h⟩]
      have := (Int.ediv_lt_iff_lt_mul hn').1 h
      omega
    · rw [if_neg (fun c => h c.2)]
      have := (Int.le_ediv_iff_mul_le hn').1 (by omega : p ≤ m / n)
      omega
theorem smul_snoc {m : Int} (hm : 0 ≤ m) (l : List Int) (a : Int) : smul m (l ++ [a]) = mulTo m (smul m l) (max a 0) := by
  have h := iprod_nonneg l
  have hb := smul_bd hm l
  rw [mulTo_min hm hb.1 hb.2 (by omega)]
  unfold smul
  rw [iprod_snoc, min_mul_min hm h (by omega)]

theorem sadd_turn (m a b c : Int) : sadd m [c, b, a] = sadd m [a, b, c] := by simp only [sadd, isum]; omega
theorem sadd_left {m : Int} (_hm : 0 ≤ m) (a b c : Int) : sadd m [sadd m [a, b], c] = sadd m [a, b, c] := by simp only [sadd, isum]; omega
theorem sadd_right {m : Int} (_hm : 0 ≤ m) (a b c : Int) : sadd m [a, sadd m [b, c]] = sadd m [a, b, c] := by simp only [sadd, isum]; omega

theorem iprod3 (a b c : Int) : iprod [a, b, c] = max a 0 * (max b 0 * max c 0) := by simp [iprod]
theorem iprod2 (a b : Int) : iprod [a, b] = max a 0 * max b 0 := by simp [iprod]
theorem smul_turn (m a b c : Int) : smul m [c, a, b] = smul m [a, b, c] := by
  unfold smul
  rw [iprod3, iprod3, ← Int.mul_assoc, ← Int.mul_assoc, Int.mul_comm (max c 0), Int.mul_assoc, Int.mul_comm (max c 0), ← Int.mul_assoc]
theorem smul_left {m : Int} (hm : 0 ≤ m) (a b c : Int) : smul m [smul m [a, b], c] = smul m [a, b, c] := by
  have hb := smul_bd hm [a, b]
  have hp : 0 ≤ max a 0 * max b 0 := Int.mul_nonneg (by omega) (by omega)
  show min m (iprod [smul m [a, b], c]) = min m (iprod [a, b, c])
  rw [iprod2, iprod3, show max (smul m [a, b]) 0 = smul m [a, b] by omega, ← Int.mul_assoc]
  show min m (min m (iprod [a, b]) * max c 0) = _
  rw [iprod2, min_mul_min hm hp (by omega)]
theorem smul_right {m : Int} (hm : 0 ≤ m) (a b c : Int) : smul m [a, smul m [b, c]] = smul m [a, b, c] := by
  have h1 : ∀ x y, smul m [x, y] = smul m [y, x] := by intro x y; unfold smul; rw [iprod2, iprod2, Int.mul_comm]
  rw [h1 a, smul_left hm, ← smul_turn, ← smul_turn]
theorem smul_sum {m : Int} (hm : 0 ≤ m) (a b c : Int) : smul m [a, sadd m [b, c]] = sadd m [smul m [a, b], smul m [a, c]] := by
  have h1 : smul m [a, sadd m [b, c]] = min m (min m (max b 0 + max c 0) * max a 0) := by
    have e : isum [b, c] = max b 0 + max c 0 := by simp only [isum]; omega
    unfold smul
    rw [iprod2, Int.mul_comm]
    congr 2
    unfold sadd
    rw [e]; omega
  have hp : 0 ≤ max b 0 * max a 0 := Int.mul_nonneg (by omega) (by omega)
  have hq : 0 ≤ max c 0 * max a 0 := Int.mul_nonneg (by omega) (by omega)
  have e1 : smul m [a, b] = min m (max b 0 * max a 0) := by unfold smul; rw [iprod2, Int.mul_comm]
  have e2 : smul m [a, c] = min m (max c 0 * max a 0) := by unfold smul; rw [iprod2, Int.mul_comm]
  rw [h1, min_mul_min hm (by omega) (by omega), Int.add_mul, e1, e2]
  simp only [sadd, isum]
  omega
theorem sadd_grows {m a b c : Int} (_hm : 0 ≤ m) (h : a ≤ b) : sadd m [a, c] ≤ sadd m [b, c] := by simp only [sadd, isum]; omega
theorem smul_grows {m a b c : Int} (_hm : 0 ≤ m) (h : a ≤ b) : smul m [a, c] ≤ smul m [b, c] := by
  unfold smul
  rw [iprod2, iprod2]
  have := Int.mul_le_mul_of_nonneg_right (show max a 0 ≤ max b 0 by omega) (show 0 ≤ max c 0 by omega)
  omega
theorem iless_grows {a b c : Int} (h : a ≤ b) : iless a c ≤ iless b c := by unfold iless; omega

theorem iover_bd (a b : Int) : 0 ≤ iover a b ∧ iover a b ≤ max a 0 := by
  unfold iover
  have hx : 0 ≤ max a 0 := by omega
  have hy : 0 < max b 1 := by omega
  generalize max a 0 = x at hx ⊢
  generalize max b 1 = y at hy ⊢
  have h1 := Int.ediv_nonneg hx (Int.le_of_lt hy)
  have h2 := Int.mul_ediv_add_emod x y
  have h3 := Int.emod_nonneg x (show y ≠ 0 by omega)
  have h4 : (x / y) * 1 ≤ y * (x / y) := by rw [Int.mul_comm y]; exact Int.mul_le_mul_of_nonneg_left (by omega) h1
  split <;> omega
theorem iover_enough {a b : Int} (ha : a ≤ 9223372036854775807) : max a 0 ≤ smul 9223372036854775807 [iover a b, max b 1] := by
  have hb := iover_bd a b
  unfold smul
  rw [iprod2]
  unfold iover at hb ⊢
  have hx : 0 ≤ max a 0 := by omega
  have hy : 0 < max b 1 := by omega
  have ha' : max a 0 ≤ 9223372036854775807 := by omega
  rw [show max (max b 1) 0 = max b 1 by omega]
  generalize max a 0 = x at *
  generalize max b 1 = y at *
  have h2 := Int.mul_ediv_add_emod x y
  have h3 := Int.emod_nonneg x (show y ≠ 0 by omega)
  have h4 := Int.emod_lt_of_pos x hy
  have h5 : y * (x / y) = (x / y) * y := Int.mul_comm _ _
  split at hb
  · rename_i h
    rw [if_pos h, show max (x / y + 1) 0 = x / y + 1 by omega, Int.add_mul]
    omega
  · rename_i h
    rw [if_neg h, show max (x / y) 0 = x / y by omega]
    omega
theorem iover_least {a b : Int} (h : 0 < iover a b) : 0 < a ∧ iover a b - 1 ≤ (max a 0 - 1) / max b 1 := by
  have hb := iover_bd a b
  refine ⟨by omega, ?_⟩
  unfold iover at h hb ⊢
  have hy : 0 < max b 1 := by omega
  generalize max a 0 = x at *
  generalize max b 1 = y at *
  have h2 := Int.mul_ediv_add_emod x y
  have h3 := Int.emod_nonneg x (show y ≠ 0 by omega)
  have h5 : y * (x / y) = (x / y) * y := Int.mul_comm _ _
  rw [Int.le_ediv_iff_mul_le hy]
  split
  · rename_i h
    rw [Int.sub_mul, Int.add_mul]; omega
  · rename_i h
    rw [Int.sub_mul]; omega
theorem iless_back {a b : Int} (ha : a ≤ 9223372036854775807) : sadd 9223372036854775807 [iless a b, min (max a 0) (max b 0)] = max a 0 := by
  simp only [sadd, isum, iless]; omega

end Go.Proofs.YtbkoogffnchldaaGreat
/- The walks of package sat. -/
namespace Go.Proofs.YtbkoogffnchldaaGreat
open Go.RowKit

theorem ret_int {k : IntKind} {a b : Int} (h : a = b) : Ending.returned (.int k a) = .returned (.int k b) := by rw [h]

end Go.Proofs.YtbkoogffnchldaaGreat
/- The walks of package sat: what is exported. -/
namespace Go.Proofs.YtbkoogffnchldaaGreat
open Go.RowKit

def InI64 (l : List Int) : Prop := ∀ x ∈ l, -9223372036854775808 ≤ x ∧ x ≤ 9223372036854775807

end Go.Proofs.YtbkoogffnchldaaGreat
/- The walks of the document's answers for layer 2. -/
namespace Go.Proofs.YtbkoogffnchldaaGreat
open Go.RowKit

theorem sadd_stop {m : Int} (_hm : 0 ≤ m) (l : List Int) (j : Nat) (x : Int) (h : l.take (j + 1) = l.take j ++ [x]) (hx : m - sadd m (l.take j) < max x 0) : sadd m l = m := by
  have e := List.take_append_drop (j + 1) l
  have h1 : ∀ a b : List Int, isum (a ++ b) = isum a + isum b := by
    intro a b
    induction a with
    | nil => simp [isum]
    | cons y a ih => simp only [List.cons_append, isum, ih]; omega
  have h2 : isum l = isum (l.take j) + max x 0 + isum (l.drop (j + 1)) := by
    rw [← isum_snoc, ← h, ← h1, e]
  have h3 := isum_nonneg (l.drop (j + 1))
  have h4 := isum_nonneg (l.take j)
  unfold sadd at hx ⊢
  omega

theorem iprod_append (a b : List Int) : iprod (a ++ b) = iprod a * iprod b := by
  induction a with
  | nil => simp [iprod]
  | cons y a ih => simp only [List.cons_append, iprod, ih, Int.mul_assoc]
theorem iprod_pos (l : List Int) (h : ∀ x ∈ l, 0 < x) : 1 ≤ iprod l := by
  induction l with
  | nil => simp [iprod]
  | cons y l ih =>
    have h1 := ih fun x hx => h x (by simp [hx])
    have h2 := h y (by simp)
    simp only [iprod]
    have := Int.mul_le_mul_of_nonneg_left h1 (show 0 ≤ max y 0 by omega)
    omega
theorem iprod_zero {l : List Int} {x : Int} (hx : x ∈ l) (h : x ≤ 0) : iprod l = 0 := by
  induction l with
  | nil => simp at hx
  | cons y l ih =>
    simp only [iprod]
    rcases List.mem_cons.1 hx with rfl | hx
    · rw [show max x 0 = 0 by omega]; simp
    · rw [ih hx]; simp

theorem smul_stop {m s x : Int} (l : List Int) (j : Nat) (hall : ∀ x ∈ l, 0 < x) (h : l.take (j + 1) = l.take j ++ [x]) (hs : iprod (l.take j) = s) (hs0 : 1 ≤ s) (hx0 : 0 < x) (hx : m / s < x) : smul m l = m := by
  have e := List.take_append_drop (j + 1) l
  have h2 : iprod l = s * x * iprod (l.drop (j + 1)) := by
    rw [← e, iprod_append, h, iprod_snoc, hs, show max x 0 = x by omega]
    simp [← h]
  have h3 := iprod_pos (l.drop (j + 1)) fun x hx => hall x (List.mem_of_mem_drop hx)
  have h4 : m < x * s := (Int.ediv_lt_iff_lt_mul (by omega)).1 hx
  have h5 : s * x = x * s := Int.mul_comm _ _
  have h6 : 0 ≤ s * x := Int.mul_nonneg (by omega) (by omega)
  have h7 := Int.mul_le_mul_of_nonneg_left h3 h6
  unfold smul
  omega

end Go.Proofs.YtbkoogffnchldaaGreat
/- The law FifoDoes, over the program's contracts as one structure. Written by wip/tools/gen_fifodoes.py. -/
namespace Go.Proofs.YtbkoogffnchldaaGreat
open Go.RowKit

theorem clip_is (n : Int) : iclip n 0 1024 = clipF n := by unfold iclip clipF; split <;> omega
/-- the list without its first number, as the model cuts it -/
theorem from18 (a : Option Addr) (n c : Nat) (hk : 1 ≤ n) (hn : n ≤ c) : ∃ a4 c4, (∀ w', (Instr.sliceAt 27 (.slice a n c) (some (.int .i64 1)) none none).run Tryz.prog w' = .ok (.slice a4 (n - 1) c4) w') ∧
    (∀ (w' : World) (l : List Int), l.length = n → RowsAt w' 1 csI (.slice a n c) l → RowsAt w' 1 csI (.slice a4 (n - 1) c4) (l.drop 1)) ∧ ∀ k, (Value.slice a4 (n - 1) c4).ownBlock = some k → (Value.slice a n c).ownBlock = some k := by
  have h1 : (1 : Int) ≤ (n : Int) := by omega
  by_cases hck : c = 1
  · have hc0 : n = 1 := by omega
    refine ⟨a, 0, fun w' => ?_, fun w' l hl h => ?_, fun k h => by cases a <;> simp [Value.ownBlock] at h ⊢; exact h⟩
    · simp [go_sem, hck, hc0, sliced]
    · have := restAt13 h 1 (by omega) a (fun h => by omega)
      rwa [hck, Nat.sub_self] at this
  · refine ⟨a.map (fun x => x.add 1), c - 1, fun w' => ?_, fun w' l hl h => ?_, fun k h => ?_⟩
    · simp [go_sem, sliced, h1]
      exact fun h => absurd h hck
    · exact restAt13 h 1 (by omega) _ (fun _ g o e => by subst e; simp [Addr.add])
    · cases a with
      | none => simp [Value.ownBlock] at h
      | some a => simpa [Value.ownBlock, Addr.add] using h
/-- what holds between two acts -/
abbrev Does18 (C : FifoProg) (w wx : World) (p v : Value) (n : Int) (L : List Int) (bs : List Bes) : Prop := SideG C.obj w wx p ⟨n, L⟩ (Bes.rows 1 csI v L :: bs)
def All18 (L : List Int) (k : Nat) : Prop := L.length ≤ k ∧ ∀ y ∈ L, In18 y
theorem All18.put {L : List Int} {k : Nat} (h : All18 L k) (n x : Int) (hx : In18 x) : All18 (putF L n x).1 (k + 1) := by
  refine ⟨Nat.le_trans (putF_len L n x) (by have := h.1; omega), fun y hy => ?_⟩
  unfold putF at hy
  split at hy
  · exact h.2 y hy
  · split at hy
    · exact h.2 y hy
    · rcases List.mem_append.1 hy with hy | hy
      · exact h.2 y hy
      · rw [List.mem_singleton.1 hy]; exact hx
theorem All18.tail {L : List Int} {k : Nat} (h : All18 L k) : All18 (L.drop 1) (k + 1) := ⟨by rw [List.length_drop]; have := h.1; omega, fun y hy => h.2 y (List.mem_of_mem_drop hy)⟩
theorem All18.drop {L : List Int} {k : Nat} (h : All18 L k) (x : Int) : All18 (dropF L x) (k + 1) := ⟨Nat.le_trans (dropF_len L x) (by have := h.1; omega), fun y hy => h.2 y ((dropF_mem _ _ _).1 hy).1⟩
theorem All18.same {L : List Int} {k : Nat} (h : All18 L k) : All18 L (k + 1) := ⟨by have := h.1; omega, h.2⟩

/-- the round's end, behind the act: the function's own statement -/
def rightC18 : Code → Code | .seq _ y => y | c => c
def leftC18 : Code → Code | .seq x _ => x | c => c
def inC18 : Code → Code | .block _ c => c | .loop c => c | c => c
end Go.Proofs.YtbkoogffnchldaaGreat
/- Stage 19: the document's Grant. -/
namespace Go.Proofs.YtbkoogffnchldaaGreat
open Go.RowKit

set_option maxHeartbeats 4000000 in
set_option maxRecDepth 100000 in
theorem refGrant19_any (id h : Int) (va : Value) (L : List Int) (W : World) (ha : IntsAt W va L) :
    Calls Tryz.prog 48 #[lkv id h va] W fun e w' => ∃ v, e = .returned (.tuple #[lkv id (grantL h L).1 v, .int .i64 (grantL h L).2.2.1, .bool (grantL h L).2.2.2]) ∧ IntsAt w' v (grantL h L).2.1 ∧ FromV va v L.length (grantL h L).2.1.length W.heap.size ∧ Below W.heap.size W w' := by
  obtain ⟨a, c, rfl⟩ := ha.form
  obtain ⟨m, hm⟩ : ∃ m, L.length = m := ⟨_, rfl⟩
  rw [hm] at ha ⊢
  have T0 := two19_new W id h (.slice a m c)
  obtain ⟨W2, hW2⟩ : ∃ W2, (W.alloc (.cells #[.int .i64 id, .int .i64 h, .slice a m c] 31)).alloc (.cells #[.int .i64 0, .int .i64 0, .slice none 0 0] 31) = W2 := ⟨_, rfl⟩
  rw [hW2] at T0
  have HT := Lib.hid T0
  have HA := Lib.hid ha
  have HM := Lib.hid hm
  have c0 := T0.box.cell 0 rfl
  have c1 := T0.box.cell 1 rfl
  have c2 := T0.box.cell 2 rfl
  have z1 := T0.box.free 1 rfl
  have z2 := T0.box.free 2 rfl
  have d0 := T0.ans.cell 0 rfl
  have d1 := T0.ans.cell 1 rfl
  have d2 := T0.ans.cell 2 rfl
  have f0 := T0.ans.free 0 rfl
  have f1 := T0.ans.free 1 rfl
  have f2 := T0.ans.free 2 rfl
  clear T0 ha hm
  by_cases h1 : h = 0
  · subst h1
    cases L with
    | nil =>
      have e1 : grantL 0 [] = (0, [], 0, false) := by simp [grantL]
      rw [e1]
      have hm0 : m = 0 := HM.out.symm
      subst hm0
      obtain ⟨U, B⟩ := HT.out.put (id' := id) (h' := 0) (v' := .slice a 0 c)
      have HB := Lib.hid B
      have r0 := U.cell 0 rfl
      have r1 := U.cell 1 rfl
      have r2 := U.cell 2 rfl
      clear e1 U B
      go_enter Tryz.func48, Tryz.ntmps48
      go_wp2
      refine bodyPost_ret (v := .tuple #[lkv id 0 (.slice a 0 c), .int .i64 0, .bool false]) ?_ rfl ⟨_, rfl, HA.out.below HB.out, FromV.self _ _ _, HB.out⟩
      simp [results, Tryz.results48, go_sem, r0, r1, r2]
    | cons x t =>
      have e1 : grantL 0 (x :: t) = (x, t, x, true) := by simp [grantL]
      rw [e1]
      have hm1 : 1 ≤ m := by have := HM.out; simp at this; omega
      have hmb : ((m : Int) == 0) = false := beq_noI (by omega)
      have hmb2 : (m == 0) = false := by simp; omega
      have hlt : (0 : Int) < (m : Int) := by omega
      obtain ⟨g1, o1, cc1, e3, hcc, hg1, hc3⟩ := (IntsAt.rows HA.out).spot 0 (by simp)
      rw [HM.out] at e3 hcc
      obtain ⟨rfl, rfl⟩ : a = some ⟨g1, o1, none⟩ ∧ c = cc1 := by
        simp only [Value.slice.injEq] at e3
        exact ⟨e3.1, e3.2.2⟩
      have q0 : W2.cell? ⟨g1, o1, none⟩ = some (.int .i64 x) := (HT.out.below.cell hg1).trans (hc3 0 _ rfl)
      have hgW : g1 ≠ W.heap.size := by omega
      have q1 : (W2.setCell ⟨W.heap.size, 1, none⟩ (.int .i64 x)).cell? ⟨g1, o1, none⟩ = some (.int .i64 x) := (World.cell?_of_block (a := ⟨g1, o1, none⟩) (Below.heap_setCell W2 ⟨W.heap.size, 1, none⟩ (.int .i64 x) g1 hgW)).trans q0
      obtain ⟨a4, c4, hsl, hrest, hob⟩ := from18 (some ⟨g1, o1, none⟩) m c hm1 hcc
      have HT1 := Lib.hid (HT.out.hold (h' := x))
      have HT2 := Lib.hid (HT1.out.wait (v' := .slice a4 (m - 1) c4))
      obtain ⟨U, B⟩ := HT2.out.put (id' := id) (h' := x) (v' := .slice a4 (m - 1) c4)
      have HB := Lib.hid B
      have HU := Lib.hid U
      have HI := Lib.hid (show IntsAt W (.slice a4 (m - 1) c4) t from RowsAt.ints (hrest W (x :: t) HM.out (IntsAt.rows HA.out)))
      have HFV := Lib.hid (show FromV (.slice (some ⟨g1, o1, none⟩) m c) (.slice a4 (m - 1) c4) m t.length W.heap.size from fun _ k hk => .inl ⟨hob k hk, by omega⟩)
      obtain ⟨m1, hm1'⟩ : ∃ m1, m - 1 = m1 := ⟨_, rfl⟩
      have j1 := HT1.out.box.cell 2 rfl
      have j2 := HT1.out.box.free 2 rfl
      have k0 := HT2.out.box.cell 0 rfl
      have k1 := HT2.out.box.cell 1 rfl
      have k2 := HT2.out.box.cell 2 rfl
      have l0 := HT2.out.ans.cell 0 rfl
      have l1 := HT2.out.ans.cell 1 rfl
      have l2 := HT2.out.ans.cell 2 rfl
      have g0 := HT2.out.ans.free 0 rfl
      have g2 := HT2.out.ans.free 1 rfl
      have g3 := HT2.out.ans.free 2 rfl
      rw [hm1'] at hsl k0 k1 k2 l0 l1 l2 g0 g2 g3 HU HB HI HFV HT2
      clear e1 U B e3 hcc hg1 hc3 hrest hob hgW hm1' hm1
      go_enter Tryz.func48, Tryz.ntmps48
      go_upto_region 5 with fail
      clear hW2 c0 c1 c2 z1 z2 d0 d1 d2 f0 f1 f2 q0 q1 j1 j2 hsl
      generalize (W2.setCell ⟨W.heap.size, 1, none⟩ (.int .i64 x)).setCell ⟨W.heap.size, 2, none⟩ (.slice a4 m1 c4) = w5 at *
      obtain ⟨U, B⟩ := HT2.out.put (id' := id) (h' := x) (v' := .slice a4 m1 c4)
      have HB2 := Lib.hid B.drew
      have r0 := (HT2.out.ans.set 0 (.int .i64 id)).cell 0 rfl
      have r1 := ((HT2.out.ans.set 0 (.int .i64 id)).set 1 (.int .i64 x)).cell 1 rfl
      have r2 := U.cell 2 rfl
      clear U B HT1 HU HB
      go_region
      all_goals
        go_wp2
        refine bodyPost_ret (v := .tuple #[lkv id x (.slice a4 m1 c4), .int .i64 x, .bool true]) ?_ rfl ⟨_, rfl, HI.out.below HB2.out, HFV.out, HB2.out⟩
        simp [results, Tryz.results48, go_sem, r0, r1, r2]
  · have e1 : grantL h L = (h, L, 0, false) := by unfold grantL; rw [if_neg h1]
    have e2 : (h != 0) = true := by simp [h1]
    rw [e1]
    obtain ⟨U, B⟩ := HT.out.put (id' := id) (h' := h) (v' := .slice a m c)
    have HB := Lib.hid B
    have r0 := U.cell 0 rfl
    have r1 := U.cell 1 rfl
    have r2 := U.cell 2 rfl
    clear e1 U B h1
    go_enter Tryz.func48, Tryz.ntmps48
    go_wp2
    refine bodyPost_ret (v := .tuple #[lkv id h (.slice a m c), .int .i64 0, .bool false]) ?_ rfl ⟨_, rfl, HA.out.below HB.out, by rw [HM.out]; exact FromV.self _ _ _, HB.out⟩
    simp [results, Tryz.results48, go_sem, r0, r1, r2]
end Go.Proofs.YtbkoogffnchldaaGreat
/- What the laws of layer 19 lean on: the program's contracts, as one structure; alive. -/
namespace Go.Proofs.YtbkoogffnchldaaGreat
open Go.RowKit

structure Lq where
  id : Int
  holder : Int
  wait : List Int
section
variable {w w1 : World} {p : Value} {q : Lq} {bs : List Bes}
end

end Go.Proofs.YtbkoogffnchldaaGreat
/- Stage 18's program: a ring of 1024 numbers; a gap that is closed. -/
namespace Go.Proofs.YtbkoogffnchldaaGreat
open Go.RowKit

/-- from place f on the ring has the numbers of l -/
structure RingIs (R : List Int) (f : Nat) (l : List Int) : Prop where
  len : R.length = 1024
  fl : f < 1024
  le : l.length ≤ 1024
  at_ : ∀ k, k < l.length → R[(f + k) % 1024]? = l[k]?
/-- .. but for a gap at j -/
structure GapR (R : List Int) (f : Nat) (U : List Int) (j : Nat) : Prop where
  len : R.length = 1024
  fl : f < 1024
  le : U.length + 1 ≤ 1024
  jl : j ≤ U.length
  at_ : ∀ k, k ≤ U.length → k ≠ j → R[(f + k) % 1024]? = U[if k < j then k else k - 1]?
theorem RingIs.nil {R : List Int} {f : Nat} (h1 : R.length = 1024) (h2 : f < 1024) : RingIs R f [] := ⟨h1, h2, by simp, fun k h => by simp at h⟩
theorem RingIs.put {R : List Int} {f : Nat} {l : List Int} (h : RingIs R f l) (hl : l.length < 1024) (x : Int) : RingIs (R.set ((f + l.length) % 1024) x) f (l ++ [x]) := by
  refine ⟨by rw [List.length_set]; exact h.len, h.fl, by simp; omega, fun k hk => ?_⟩
  rw [List.length_append, List.length_singleton] at hk
  have hf := h.fl
  rw [List.getElem?_set]
  by_cases e : k = l.length
  · subst e
    rw [if_pos rfl, if_pos (by rw [h.len]; omega), List.getElem?_append_right (Nat.le_refl _), Nat.sub_self]
    rfl
  · rw [if_neg (by omega), h.at_ k (by omega), List.getElem?_append_left (by omega)]
theorem GapR.start {R : List Int} {f : Nat} {l : List Int} (h : RingIs R f l) {j : Nat} (hj : j < l.length) : GapR R f (l.eraseIdx j) j := by
  have hl : (l.eraseIdx j).length = l.length - 1 := List.length_eraseIdx_of_lt hj
  have hle := h.le
  refine ⟨h.len, h.fl, by omega, by omega, fun k hk hne => ?_⟩
  rw [h.at_ k (by omega), List.getElem?_eraseIdx]
  by_cases hkj : k < j
  · rw [if_pos hkj, if_pos hkj]
  · rw [if_neg hkj, if_neg (by omega)]
    congr 1
    omega
theorem GapR.step {R : List Int} {f : Nat} {U : List Int} {j : Nat} (h : GapR R f U (j + 1)) {y : Int} (hy : R[(f + j) % 1024]? = some y) : GapR (R.set ((f + (j + 1)) % 1024) y) f U j := by
  have hf := h.fl
  have hle := h.le
  have hj := h.jl
  have h0 := h.at_ j (by omega) (by omega)
  rw [hy, if_pos (by omega)] at h0
  refine ⟨by rw [List.length_set]; exact h.len, h.fl, h.le, by omega, fun k hk hne => ?_⟩
  rw [List.getElem?_set]
  by_cases e : k = j + 1
  · subst e
    rw [if_pos rfl, if_pos (by rw [h.len]; omega), if_neg (by omega), Nat.add_sub_cancel]
    exact h0
  · rw [if_neg (by omega), h.at_ k hk e]
    by_cases hkj : k < j
    · rw [if_pos hkj, if_pos (by omega)]
    · rw [if_neg hkj, if_neg (by omega)]
theorem GapR.stop {R : List Int} {f : Nat} {U : List Int} (h : GapR R f U 0) : RingIs R ((f + 1) % 1024) U := by
  have hf := h.fl
  have hle := h.le
  refine ⟨h.len, by omega, by omega, fun k hk => ?_⟩
  have := h.at_ (k + 1) (by omega) (by omega)
  rw [if_neg (by omega), Nat.add_sub_cancel] at this
  rw [← this]
  congr 1
  omega
theorem drop_erase {l : List Int} (hn : l.Nodup) (x : Int) : l.eraseIdx (l.idxOf x) = dropF l x := by
  rw [← List.erase_eq_eraseIdx_of_idxOf rfl, hn.erase_eq_filter]
  unfold dropF
  congr 1
  funext y
  by_cases h : y = x <;> simp [h]
theorem drop_head {x : Int} {l : List Int} (hn : (x :: l).Nodup) : dropF (x :: l) x = l := by
  rw [← drop_erase hn, List.idxOf_cons_self]
  rfl
theorem drop_none {l : List Int} {x : Int} (h : x ∉ l) : dropF l x = l := List.filter_eq_self.2 fun _ hy => decide_eq_true fun e => h (e ▸ hy)
theorem drop_nodup {l : List Int} (hn : l.Nodup) (x : Int) : (dropF l x).Nodup := hn.filter _
/-- the numbers of a map of bools -/
def setB (l : List Int) : Int → Option Bool := fun x => if x ∈ l then some true else none
theorem setB_in {l : List Int} {x : Int} (h : x ∈ l) : setB l x = some true := if_pos h
theorem setB_not {l : List Int} {x : Int} (h : x ∉ l) : setB l x = none := if_neg h
theorem setB_get (l : List Int) (x : Int) : (setB l x).getD false = inL l x := by
  by_cases h : x ∈ l
  · rw [setB_in h, inL_iff.2 h]; rfl
  · rw [setB_not h, inL_not.2 h]; rfl
theorem setB_put (l : List Int) (x : Int) : updG (setB l) x (some true) = setB (l ++ [x]) := by
  funext k
  unfold updG setB
  by_cases h : k = x
  · subst h; simp
  · simp [h]
theorem setB_del (l : List Int) (x : Int) : updG (setB l) x none = setB (dropF l x) := by
  funext k
  unfold updG setB
  by_cases h : k = x
  · subst h; simp [dropF_mem]
  · simp [h, dropF_mem]

/-- the cells of a queue -/
def qc (R : List Int) (f : Nat) (room : Int) (m : Nat) : List Value := R.map (Value.int .i64) ++ [.int .i64 (f : Int), .int .i64 room, .map (some m)]
section
variable {R : List Int} {f : Nat} {room : Int} {m : Nat}
theorem qc_at {k : Nat} {x : Int} (hx : R[k]? = some x) : (qc R f room m)[k]? = some (.int .i64 x) := by
  have hk : k < R.length := (List.getElem?_eq_some_iff.1 hx).1
  unfold qc
  rw [List.getElem?_append_left (by rw [List.length_map]; exact hk), List.getElem?_map, hx]
  rfl
theorem qc_rest (h : R.length = 1024) (k : Nat) : (qc R f room m)[1024 + k]? = [Value.int .i64 (f : Int), .int .i64 room, .map (some m)][k]? := by
  unfold qc
  rw [List.getElem?_append_right (by rw [List.length_map]; omega), List.length_map, h, Nat.add_sub_cancel_left]
theorem qc_set (h : R.length = 1024) {k : Nat} (hk : k < 1024) (x : Int) : (qc R f room m).set k (.int .i64 x) = qc (R.set k x) f room m := by
  unfold qc
  rw [List.set_append_left _ _ (by rw [List.length_map]; omega), List.map_set]
theorem qc_setf (h : R.length = 1024) (g : Nat) : (qc R f room m).set 1024 (.int .i64 (g : Int)) = qc R g room m := by
  unfold qc
  rw [List.set_append_right _ _ (by rw [List.length_map]; omega), List.length_map, h]
  rfl
end
end Go.Proofs.YtbkoogffnchldaaGreat
/- Stage 18's program: a queue in memory; has, place, Len, Room, First, At. -/
namespace Go.Proofs.YtbkoogffnchldaaGreat
open Go.RowKit

abbrev ptr18 (p : Nat) : Value := .pointer (some ⟨p, 0, none⟩)
/-- the queue's block and its map of n numbers -/
structure FqRaw (w : World) (p m : Nat) (R : List Int) (f : Nat) (room : Int) (n : Nat) (g : Int → Option Bool) : Prop where
  blk : Blk w p (qc R f room m)
  map : MapB w m n g
  len : R.length = 1024
section
variable {w w' : World} {p m : Nat} {R : List Int} {f : Nat} {room : Int} {n : Nat} {g : Int → Option Bool}
theorem FqRaw.ring (h : FqRaw w p m R f room n g) {k : Nat} {x : Int} (hx : R[k]? = some x) : w.cell? ⟨p, k, none⟩ = some (.int .i64 x) := h.blk.cell k (qc_at hx)
theorem FqRaw.free (h : FqRaw w p m R f room n g) {k : Nat} {x : Int} (hx : R[k]? = some x) : w.frozen? ⟨p, k, none⟩ = false := h.blk.free k (qc_at hx)
theorem FqRaw.fst (h : FqRaw w p m R f room n g) : w.cell? ⟨p, 1024, none⟩ = some (.int .i64 (f : Int)) := h.blk.cell 1024 (qc_rest h.len 0)
theorem FqRaw.fst_free (h : FqRaw w p m R f room n g) : w.frozen? ⟨p, 1024, none⟩ = false := h.blk.free 1024 (qc_rest h.len 0)
theorem FqRaw.room_ (h : FqRaw w p m R f room n g) : w.cell? ⟨p, 1025, none⟩ = some (.int .i64 room) := h.blk.cell 1025 (qc_rest h.len 1)
theorem FqRaw.in_ (h : FqRaw w p m R f room n g) : w.cell? ⟨p, 1026, none⟩ = some (.map (some m)) := h.blk.cell 1026 (qc_rest h.len 2)
theorem FqRaw.lt (h : FqRaw w p m R f room n g) : p < w.heap.size := World.block_lt_of_cell? w ⟨p, 1024, none⟩ h.fst
theorem FqRaw.ne (h : FqRaw w p m R f room n g) : m ≠ p := h.map.ne_cell h.fst
theorem FqRaw.same (h : FqRaw w p m R f room n g) (h1 : w'.heap[p]? = w.heap[p]?) (h2 : w'.heap[m]? = w.heap[m]?) : FqRaw w' p m R f room n g := ⟨h.blk.same h1, h.map.same h2, h.len⟩
theorem FqRaw.kept (h : FqRaw w p m R f room n g) (hb : Below w.heap.size w w') : FqRaw w' p m R f room n g := h.same (hb.block p h.lt) (hb.block m h.map.lt)
theorem FqRaw.put (h : FqRaw w p m R f room n g) {k : Nat} (hk : k < 1024) (x : Int) : FqRaw (w.setCell ⟨p, k, none⟩ (.int .i64 x)) p m (R.set k x) f room n g :=
  ⟨by have := h.blk.set k (.int .i64 x); rwa [qc_set h.len hk] at this, h.map.away _ _ h.ne, by rw [List.length_set]; exact h.len⟩
theorem FqRaw.move (h : FqRaw w p m R f room n g) (f' : Nat) : FqRaw (w.setCell ⟨p, 1024, none⟩ (.int .i64 (f' : Int))) p m R f' room n g :=
  ⟨by have := h.blk.set 1024 (.int .i64 (f' : Int)); rwa [qc_setf h.len] at this, h.map.away _ _ h.ne, h.len⟩
theorem FqRaw.mapped {n' : Nat} {g' : Int → Option Bool} (h : FqRaw w p m R f room n g) (hm : MapB w' m n' g') (hg : w.grownBy w' (some m)) : FqRaw w' p m R f room n' g' :=
  ⟨h.blk.same (hg.block p h.lt fun e => h.ne (Option.some.inj e).symm), hm, h.len⟩

theorem fHas_any {l : List Int} (x : Int) (h : FqRaw w p m R f room n (setB l)) (hx : I64 x) : Calls Tryz.prog 93 #[ptr18 p, .int .i64 x] w fun e w' => e = .returned (.bool (inL l x)) ∧ w = w' := by
  have c3 := h.in_
  have hm := h.map.look1 hx
  rw [setB_get] at hm
  generalize inL l x = t at *
  clear h hx
  go_enter Tryz.func93, Tryz.ntmps93
  go_wp2
  go_ret
  exact ⟨rfl, rfl⟩
theorem fHas_nil (x : Int) (w : World) : Calls Tryz.prog 93 #[.pointer none, .int .i64 x] w fun e w' => e = .returned (.bool false) ∧ w = w' := by
  go_enter Tryz.func93, Tryz.ntmps93
  go_wp2
  go_ret
  exact ⟨rfl, rfl⟩
theorem fPlace_any (k : Nat) (h : FqRaw w p m R f room n g) (hf : f < 1024) (hk : k ≤ 1024) : Calls Tryz.prog 96 #[ptr18 p, .int .i64 (k : Int)] w fun e w' => e = .returned (.int .i64 (((f + k) % 1024 : Nat) : Int)) ∧ w = w' := by
  have c1 := h.fst
  obtain ⟨t, ht⟩ : ∃ t, (f + k) % 1024 = t := ⟨_, rfl⟩
  have hr : ((f : Int) + (k : Int)) % 1024 = (t : Int) := by omega
  rw [ht]
  have f0 : (0 : Int) ≤ (f : Int) := by omega
  have f1 : (f : Int) < 1024 := by omega
  have k0 : (0 : Int) ≤ (k : Int) := by omega
  have k1 : (k : Int) ≤ 1024 := by omega
  clear h ht hf hk
  go_enter Tryz.func96, Tryz.ntmps96
  go_wp2
  go_ret
  exact ⟨ret_i hr, rfl⟩
theorem fLen_any (h : FqRaw w p m R f room n g) : Calls Tryz.prog 94 #[ptr18 p] w fun e w' => e = .returned (.int .i64 (n : Int)) ∧ w = w' := by
  have c3 := h.in_
  have HM := Lib.hid h.map
  clear h
  go_enter Tryz.func94, Tryz.ntmps94
  go_wp2_with (at_len; refine wpList_lenB rfl _ rfl rfl HM.out ?_)
  go_ret
  exact ⟨rfl, rfl⟩
theorem fLen_nil (w : World) : Calls Tryz.prog 94 #[.pointer none] w fun e w' => e = .returned (.int .i64 0) ∧ w = w' := by
  go_enter Tryz.func94, Tryz.ntmps94
  go_wp2
  go_ret
  exact ⟨rfl, rfl⟩
theorem fRoom_any (h : FqRaw w p m R f room n g) : Calls Tryz.prog 95 #[ptr18 p] w fun e w' => e = .returned (.int .i64 room) ∧ w = w' := by
  have c3 := h.room_
  clear h
  go_enter Tryz.func95, Tryz.ntmps95
  go_wp2
  go_ret
  exact ⟨rfl, rfl⟩
theorem fRoom_nil (w : World) : Calls Tryz.prog 95 #[.pointer none] w fun e w' => e = .returned (.int .i64 0) ∧ w = w' := by
  go_enter Tryz.func95, Tryz.ntmps95
  go_wp2
  go_ret
  exact ⟨rfl, rfl⟩

set_option maxHeartbeats 1000000 in
theorem fFirst_any {l : List Int} (h : FqRaw w p m R f room l.length (setB l)) (hr : RingIs R f l) : Calls Tryz.prog 92 #[ptr18 p] w fun e w' => e = .returned (.tuple #[.int .i64 (hdF l).1, .bool (hdF l).2]) ∧ Below w.heap.size w w' := by
  have H1 := Lib.hid (fLen_any h)
  cases l with
  | nil =>
    clear h hr
    go_enter Tryz.func92, Tryz.ntmps92
    go_wp2_with (go_at_call 94; (with_reducible refine H1.out.mono ?_); rintro e w1 ⟨rfl, rfl⟩)
    exact bodyPost_ret (v := .tuple #[.int .i64 0, .bool false]) (by simp [results, Tryz.results92, go_sem]) rfl ⟨rfl, Below.refl _ _⟩
  | cons x t =>
    have hx : R[f]? = some x := by
      have := hr.at_ 0 (by simp)
      have hf := hr.fl
      rwa [Nat.add_zero, Nat.mod_eq_of_lt hf] at this
    have c0 := h.ring hx
    have c1 := h.fst
    have f0 : (0 : Int) ≤ (f : Int) := by omega
    have f1 : (f : Int) < 1024 := by have := hr.fl; omega
    have hl : (((x :: t).length : Int) == 0) = false := beq_noI (by simp; omega)
    generalize (x :: t).length = n at *
    clear h hr hx
    simp only [hdF]
    go_enter Tryz.func92, Tryz.ntmps92
    go_wp2_with (go_at_call 94; (with_reducible refine H1.out.mono ?_); rintro e w1 ⟨rfl, rfl⟩)
    refine wp_region_calm0 (by kernel_rfl) (by kernel_rfl) fun M => ?_
    have m0 := fun n : In M.w => n.cell (M.cell c0)
    have m1 := fun n : In M.w => n.cell (M.cell c1)
    repeat (go_big_quiet_step (fail))
    refine wpQuiet_nil ?_
    clear m0 m1 M
    intro w1 hb
    have HB1 := Lib.hid hb
    clear hb
    go_wp2
    exact bodyPost_ret (v := .tuple #[.int .i64 x, .bool true]) (by simp [results, Tryz.results92, go_sem]) rfl ⟨rfl, HB1.out⟩
theorem fFirst_nil (w : World) : Calls Tryz.prog 92 #[.pointer none] w fun e w' => e = .returned (.tuple #[.int .i64 0, .bool false]) ∧ Below w.heap.size w w' := by
  have H1 := Lib.hid (fLen_nil w)
  go_enter Tryz.func92, Tryz.ntmps92
  go_wp2_with (go_at_call 94; (with_reducible refine H1.out.mono ?_); rintro e w1 ⟨rfl, rfl⟩)
  exact bodyPost_ret (v := .tuple #[.int .i64 0, .bool false]) (by simp [results, Tryz.results92, go_sem]) rfl ⟨rfl, Below.refl _ _⟩
end
end Go.Proofs.YtbkoogffnchldaaGreat
/- Stage 18's program: New, At, List. -/
namespace Go.Proofs.YtbkoogffnchldaaGreat
open Go.RowKit

/-- one number in a block of its own -/
theorem oneI18 {w : World} {b : Nat} {n : Int} (hh : w.heap[b]? = some (.cells #[.int .i64 n] 3 (0, 0))) : RowsAt w 1 csI (.slice (some ⟨b, 0, none⟩) 1 1) [n] := by
  refine ⟨_, 1, rfl, Nat.le_refl _, fun _ => ⟨b, 0, rfl, lt_of_block hh, fun j x hj i u hu => ?_⟩⟩
  have hj0 : j = 0 := by have := (List.getElem?_eq_some_iff.1 hj).1; simp at this; omega
  subst hj0
  have hx : x = n := by simpa using hj.symm
  subst hx
  have hi : i = 0 := by have := (List.getElem?_eq_some_iff.1 hu).1; simp [csI] at this; omega
  subst hi
  have hu2 : u = .int .i64 x := by simpa [csI] using hu.symm
  subst hu2
  simp [World.cell?, hh]

section
variable {w w' : World} {p m : Nat} {R : List Int} {f : Nat} {room : Int} {n : Nat} {g : Int → Option Bool}
set_option maxHeartbeats 2000000 in
set_option maxRecDepth 100000 in
theorem fAt_any {l : List Int} (x : Int) (h : FqRaw w p m R f room l.length (setB l)) (hr : RingIs R f l) (hx : I64 x) : Calls Tryz.prog 90 #[ptr18 p, .int .i64 x] w fun e w' => e = .returned (.int .i64 (plcL l x)) ∧ Below w.heap.size w w' := by
  have H1 := Lib.hid (fHas_any x h hx)
  obtain ⟨r, hrr⟩ : ∃ r, plcL l x = r := ⟨_, rfl⟩
  have HP := Lib.hid hrr
  rw [hrr]
  have HR := Lib.hid hr
  have H := Lib.hid h
  by_cases hin : x ∈ l
  · rw [inL_iff.2 hin] at H1
    have HIN := Lib.hid hin
    clear h hr hx hrr hin
    go_enter Tryz.func90, Tryz.ntmps90
    go_wp2
    refine wp_scope_goto 0 (fun n a' w' => ∃ k : Nat, n = l.length - k ∧ k < l.length ∧ x ∉ l.take k ∧ Below w.heap.size w w' ∧ ∃ u2 u3 u6 u7 u8 u9 u10 u11 u12 u13 u14 u15 u16 u17 u18 u19 u20 u21 u22, a' = { tmps := #[ptr18 p, .int .i64 x, u2, u3, .int .i64 0, .int .i64 (k : Int), u6, u7, u8, u9, u10, u11, u12, u13, u14, u15, u16, u17, u18, u19, u20, u21, u22], defers := [] }) rfl rfl ?_ ?_
    · rintro n a' w' ⟨k, rfl, hk, hno, hb, u2, u3, u6, u7, u8, u9, u10, u11, u12, u13, u14, u15, u16, u17, u18, u19, u20, u21, u22, rfl⟩ K hK
      have HK := Lib.hid hK
      have hf := HR.out.fl
      have hk2 := HR.out.le
      have hat := HR.out.at_ k hk
      rw [List.getElem?_eq_getElem hk] at hat
      have H2 := Lib.hid (H.out.kept hb)
      have PL := fun (w1 : World) (hb1 : Below w'.heap.size w' w1) => Lib.hid (fPlace_any k (H2.out.kept hb1) hf (by omega))
      obtain ⟨t, ht⟩ : ∃ t, (f + k) % 1024 = t := ⟨_, rfl⟩
      rw [ht] at hat PL
      have c0 := H2.out.ring hat
      have t0 : (0 : Int) ≤ (t : Int) := by omega
      have t1 : (t : Int) < 1024 := by omega
      have k0 : (0 : Int) ≤ (k : Int) := by omega
      have k1 : (k : Int) ≤ 1024 := by omega
      have HB := Lib.hid hb
      have HKL := Lib.hid hk
      by_cases hyx : l[k]'hk = x
      · have HF := Lib.hid ((plc_found hk hyx hno).symm.trans HP.out)
        rw [hyx] at c0
        clear hK hk hno hb hat hk2 hf hyx ht
        go_wp2
        refine wp_region_calm0 (by kernel_rfl) (by kernel_rfl) fun M => ?_
        have m0 := fun n : In M.w => n.cell (M.cell c0)
        have PN := fun n : In M.w => Lib.hid ((PL n.w (M.h.trans (n.h.mono M.h.size))).out)
        repeat (go_big_quiet_step ((go_at_call 96; with_reducible exact In.call_same (PN _).out)))
        refine wpQuiet_nil ?_
        clear m0 PN M
        intro w1 hb1
        have HB1 := Lib.hid (HB.out.trans (hb1.mono HB.out.size))
        clear hb1
        go_wp2
        simp only [Exit.jump]
        exact bodyPost_ret (v := .int .i64 (k : Int)) (by simp [results, Tryz.results90, go_sem]) rfl ⟨ret_i HF.out, HB1.out⟩
      · have HNO := Lib.hid (inL_take l x k hk hyx hno)
        have HLT := Lib.hid (show k + 1 < l.length from by
          rcases Nat.lt_or_ge (k + 1) l.length with h | h
          · exact h
          · exfalso
            have := HNO.out
            rw [List.take_of_length_le h] at this
            exact this HIN.out)
        have hy2 : (l[k]'hk == x) = false := beq_noI hyx
        generalize l[k]'hk = y at *
        clear hK hk hno hb hat hk2 hf hyx ht
        go_wp2
        refine wp_region_calm0 (by kernel_rfl) (by kernel_rfl) fun M => ?_
        have m0 := fun n : In M.w => n.cell (M.cell c0)
        have PN := fun n : In M.w => Lib.hid ((PL n.w (M.h.trans (n.h.mono M.h.size))).out)
        repeat (go_big_quiet_step ((go_at_call 96; with_reducible exact In.call_same (PN _).out)))
        refine wpQuiet_nil ?_
        clear m0 PN M
        intro w1 hb1
        have HB1 := Lib.hid (HB.out.trans (hb1.mono HB.out.size))
        clear hb1
        go_wp2
        go_step3
        exact ⟨rfl, HK.out (l.length - (k + 1)) _ _ (by have := HKL.out; omega) ⟨k + 1, rfl, HLT.out, HNO.out, HB1.out, _, _, _, _, _, _, _, _, _, _, _, _, _, _, _, _, _, _, _,  by first | rfl | (congr 1; go_num)⟩⟩
    · intro K hK
      have HK := Lib.hid hK
      clear hK
      go_wp2_with (go_at_call 93; (with_reducible refine H1.out.mono ?_); rintro e w1 ⟨rfl, rfl⟩)
      go_step3
      rename_i hback
      refine hback _ _ ?_
      exact HK.out _ _ _ ⟨0, rfl, List.length_pos_of_mem HIN.out, by simp, Below.refl _ _, _, _, _, _, _, _, _, _, _, _, _, _, _, _, _, _, _, _, _,  rfl⟩
  · rw [inL_not.2 hin] at H1
    have HF := Lib.hid ((plc_none hin).symm.trans HP.out)
    clear h hr hx hrr hin
    go_enter Tryz.func90, Tryz.ntmps90
    go_wp2
    refine wp_scope_goto 0 (fun _ _ _ => False) rfl rfl (fun _ _ _ h => h.elim) ?_
    intro K _
    go_wp2_with (go_at_call 93; (with_reducible refine H1.out.mono ?_); rintro e w1 ⟨rfl, rfl⟩)
    simp only [Exit.jump]
    exact bodyPost_ret (v := .int .i64 (-1)) (by simp [results, Tryz.results90, go_sem]) rfl ⟨ret_i HF.out, Below.refl _ _⟩
theorem fAt_nil (x : Int) (w : World) : Calls Tryz.prog 90 #[.pointer none, .int .i64 x] w fun e w' => e = .returned (.int .i64 (-1)) ∧ Below w.heap.size w w' := by
  have H1 := Lib.hid (fHas_nil x w)
  go_enter Tryz.func90, Tryz.ntmps90
  go_wp2
  refine wp_scope_goto 0 (fun _ _ _ => False) rfl rfl (fun _ _ _ h => h.elim) ?_
  intro K _
  go_wp2_with (go_at_call 93; (with_reducible refine H1.out.mono ?_); rintro e w1 ⟨rfl, rfl⟩)
  simp only [Exit.jump]
  exact bodyPost_ret (v := .int .i64 (-1)) (by simp [results, Tryz.results90, go_sem]) rfl ⟨rfl, Below.refl _ _⟩

set_option maxHeartbeats 4000000 in
set_option maxRecDepth 100000 in
theorem fList_own {l : List Int} (h : FqRaw w p m R f room l.length (setB l)) (hr : RingIs R f l) : Calls Tryz.prog 85 #[ptr18 p] w fun e w' => ∃ v, e = .returned v ∧ OwnI w' w.heap.size v l ∧ Below w.heap.size w w' := by
  have H1 := Lib.hid (fLen_any h)
  have HR := Lib.hid hr
  have H := Lib.hid h
  obtain ⟨i0, hi, hz0, hz1, hz2⟩ := info_parts info_int
  clear h hr
  go_enter Tryz.func85, Tryz.ntmps85
  go_wp2_with (go_at_call 94; (with_reducible refine H1.out.mono ?_); rintro e w1 ⟨rfl, rfl⟩)
  go_loopw [3, 7] (fun v iv wr => ∃ k : Nat, k ≤ l.length ∧ iv = .int .i64 k ∧ OwnI wr w.heap.size v (l.take k) ∧ Below w.heap.size w wr) (fun _ iv _ => l.length - (intOf iv).toNat)
  case atStart => exact ⟨0, Nat.zero_le _, rfl, OwnR.nil _ _ _ _ _, Below.refl _ _⟩
  case round =>
    obtain ⟨k, hk, rfl, ho, hb⟩ := hrel
    have HO := Lib.hid ho
    have HB := Lib.hid hb
    by_cases hlt : k < l.length
    · have hf := HR.out.fl
      have hk2 := HR.out.le
      have hat := HR.out.at_ k hlt
      rw [List.getElem?_eq_getElem hlt] at hat
      have H2 := Lib.hid (H.out.kept hb)
      have HN := Lib.hid (List.take_succ_eq_append_getElem hlt)
      have PL := fun (w1 : World) (hb1 : Below wr.heap.size wr w1) => Lib.hid (fPlace_any k (H2.out.kept hb1) hf (by omega))
      obtain ⟨t, ht⟩ : ∃ t, (f + k) % 1024 = t := ⟨_, rfl⟩
      rw [ht] at hat PL
      have c0 := H2.out.ring hat
      have t0 : (0 : Int) ≤ (t : Int) := by omega
      have t1 : (t : Int) < 1024 := by omega
      have k0 : (0 : Int) ≤ (k : Int) := by omega
      have k1 : (k : Int) < (l.length : Int) := by omega
      have k2 : (k : Int) ≤ 1024 := by omega
      have HTL := Lib.hid (show (l.take k).length ≤ 1000000 by rw [List.length_take]; omega)
      have HKL := Lib.hid hlt
      obtain ⟨a3, c3, e3⟩ := RowsAt.form (OwnR.rows csI_len ho)
      have e4 : (l.take k).length = k := by rw [List.length_take]; omega
      rw [e4] at e3
      generalize l[k]'hlt = y at *
      clear ho hb hlt hk hf hk2 hat ht e4
      subst e3
      go_wp2
      refine wp_region_calmN 9 10 [(.cells #[.int .i64 y] 3, fun b => .slice (some ⟨b, 0, none⟩) 1 1)] (by kernel_rfl) (by simp) (by simp) (by kernel_rfl) fun M => ?_
      simp only [List.take_succ_cons, List.take_zero, List.drop_succ_cons, List.drop_zero, List.length_cons, List.length_nil]
      have m0 := fun n : In M.w => n.cell (M.cell c0)
      have PN := fun n : In M.w => Lib.hid ((PL n.w (M.h.trans (n.h.mono M.h.size))).out)
      repeat (go_big_quiet_step ((go_at_call 96; with_reducible exact In.call_same (PN _).out)))
      refine wpQuiet_nil ?_
      clear m0 PN M
      refine ⟨rfl, fun n => by simp [go_sem], fun bp hbp _ w2 hw => ?_⟩
      have hb2 := hw.below
      have HH := Lib.hid (oneI18 (hw.own bp _ (Gh.set_self _ _ _)))
      have HO2 := Lib.hid (OwnR.kept HO.out hb2)
      have HB2 := Lib.hid (HB.out.trans (hb2.mono HB.out.size))
      clear hw hb2 c0
      go_wp2_with (at_builtin; refine wpList_append_rows csI_len (by decide) csI_one13 rfl _ _ 27 rfl w.heap.size 3 i0 (.int .i64 0) 8 Tryz.underlying27 hi hz0 hz1 hz2 rfl _ _ rfl HO2.out _ [y] rfl HH.out (by have := HTL.out; unfold maxLen; simp; omega) (by have := HTL.out; simp; omega) HB2.out.size ?_; intro v3 w3 k1 k2; have HO3 := Lib.hid k1; have HB3 := Lib.hid (OwnR.below HO2.out HB2.out HB2.out.size k2); clear k1 k2)
      go_roundw
      case rel => exact ⟨k + 1, by have := HKL.out; omega, by go_num, by rw [HN.out]; exact HO3.out, HB3.out⟩
      case measure => have := HKL.out; simp [intOf] <;> omega
    · have hke : k = l.length := by omega
      subst hke
      rw [List.take_length] at HO
      clear ho hb hlt hk
      go_wp2
      go_ret
      exact ⟨_, rfl, HO.out, HB.out⟩
theorem fList_any {l : List Int} (h : FqRaw w p m R f room l.length (setB l)) (hr : RingIs R f l) : Calls Tryz.prog 85 #[ptr18 p] w fun e w' => ∃ v, e = .returned v ∧ IntsAt w' v l ∧ Below w.heap.size w w' :=
  (fList_own h hr).mono fun _ _ ⟨v, h1, h2, h3⟩ => ⟨v, h1, OwnI.ints h2, h3⟩
end
end Go.Proofs.YtbkoogffnchldaaGreat
