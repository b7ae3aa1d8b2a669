/- Stage 13's program: New, Put, Drop, First, Pop, Has, Len. -/
import Derived.Test.YtnfdhlkngjplkaaHpF
namespace Go.Proofs.Ytnfdhlkngjplkaa
open Go.RowKit

def frsT : List Th → Int × Bool
  | [] => (0, false)
  | x :: _ => (x.id, true)
/-- a heap of these things, in order; all its blocks are of F -/
def HeapAt (F : Nat → Prop) (w : World) (p : Nat) (S : List Th) : Prop := ∃ v b T g, HpAt F w p v b T g ∧ hp T ∧ T.Perm S ∧ srtT S
section
variable {F : Nat → Prop} {w w' : World} {p : Nat} {S : List Th}
theorem RawAt.out {v : Value} {b m : Nat} {T : List Th} {g : Int → Option Nat} (h : RawAt F w p v b T m g) (hz : w.heap.size ≤ w'.heap.size) (he : ∀ k, F k → w'.heap[k]? = w.heap[k]?) : RawAt F w' p v b T m g :=
  ⟨h.blk.same (he p h.fp), h.own.same hz fun k e => he k (h.fv k e).1, h.map.same (he b h.fb), h.fp, h.fb, h.fv, fun k hk => Nat.lt_of_lt_of_le (h.lt k hk) hz⟩
theorem HeapAt.out (h : HeapAt F w p S) (hz : w.heap.size ≤ w'.heap.size) (he : ∀ k, F k → w'.heap[k]? = w.heap[k]?) : HeapAt F w' p S := by
  obtain ⟨v, b, T, g, ⟨h1, h2⟩, h3⟩ := h
  exact ⟨v, b, T, g, ⟨h1.out hz he, h2⟩, h3⟩
theorem HeapAt.lt (h : HeapAt F w p S) : ∀ k, F k → k < w.heap.size := by
  obtain ⟨v, b, T, g, ⟨h1, h2⟩, h3⟩ := h
  exact h1.lt
theorem HeapAt.kept (h : HeapAt F w p S) (hb : Below w.heap.size w w') : HeapAt F w' p S := h.out hb.size fun k hk => hb.block k (h.lt k hk)
theorem HeapAt.away (h : HeapAt F w p S) (a : Addr) (u : Value) (hf : ¬ F a.block) : HeapAt F (w.setCell a u) p S :=
  h.out (by simp [World.setCell]) fun k hk => Below.heap_setCell w a u k fun e => hf (e ▸ hk)
theorem HeapAt.srt (h : HeapAt F w p S) : srtT S := by
  obtain ⟨v, b, T, g, h1, h2, h3, h4⟩ := h
  exact h4
theorem HeapAt.i64 (h : HeapAt F w p S) : ∀ x ∈ S, I64 x.id := by
  obtain ⟨v, b, T, g, ⟨_, _, h1⟩, h2, h3, h4⟩ := h
  exact fun x hx => h1 x (h3.mem_iff.2 hx)
end
theorem upd_self {g : Int → Option Nat} {id : Int} {i : Nat} (h : g id = some i) : upd g id (some i) = g := by
  funext k
  unfold upd
  by_cases hk : k = id
  · rw [if_pos hk, hk, h]
  · rw [if_neg hk]
theorem pos_has {T S : List Th} {g : Int → Option Nat} (h : Pos T g) (hp : T.Perm S) (id : Int) : hasT S id = (g id).isSome := by
  cases hg : g id with
  | none =>
    cases hh : hasT S id with
    | false => rfl
    | true =>
      obtain ⟨y, hy, e⟩ := hasT_iff.1 hh
      exact absurd e (h.no hg y (hp.mem_iff.2 hy))
  | some i =>
    obtain ⟨hi, e⟩ := (h id i).1 hg
    rw [tg_get _ _ hi] at e
    exact hasT_iff.2 ⟨T[i], hp.mem_iff.1 (List.getElem_mem hi), e⟩

set_option maxHeartbeats 2000000 in
theorem hNew_any (w : World) : Calls Try.prog 31 #[] w fun e w' => ∃ p F, e = .returned (ptr13 p) ∧ (∀ k, F k → w.heap.size ≤ k) ∧ HeapAt F w' p [] ∧ Below w.heap.size w w' := by
  have hm := MapN.new w
  have hb := (Below.refl w.heap.size w).alloc (Nat.le_refl _) (.map #[] 0)
  have hr : RawAt (fun k => k = w.heap.size ∨ k = w.heap.size + 1) ((w.alloc (.map #[] 0)).alloc (.cells #[.slice none 0 0, .map (some w.heap.size)] 61)) (w.heap.size + 1) (.slice none 0 0) w.heap.size [] 0 (fun _ => none) := by
    refine ⟨?_, .inl ⟨rfl, rfl⟩, hm.kept ((Below.refl _ _).alloc (Nat.le_refl _) _), .inr rfl, .inl rfl, fun k e => by simp [Value.ownBlock] at e, fun k e => by simp; omega⟩
    have := Blk.new (w.alloc (.map #[] 0)) [.slice none 0 0, .map (some w.heap.size)] 61
    simpa using this
  have HR := Lib.hid hr
  have HB := Lib.hid (hb.alloc (by simp) (.cells #[.slice none 0 0, .map (some w.heap.size)] 61))
  have hmk : (Instr.makeMap 37 none).run Try.prog w = .ok (.map (some w.heap.size)) (w.alloc (.map #[] 0)) := by kernel_rfl
  clear hm hb hr
  go_enter Try.func31, Try.ntmps31
  go_wp2
  go_ret
  exact ⟨_, fun k => k = w.heap.size ∨ k = w.heap.size + 1, rfl, fun k e => by omega, ⟨_, _, [], _, ⟨HR.out, Pos.nil, by simp⟩, fun k h0 hk => by simp at hk, List.Perm.refl _, srtT_nil⟩, HB.out⟩

set_option maxHeartbeats 2000000 in
theorem hFind_any {F : Nat → Prop} {p : Nat} {v : Value} {b m : Nat} {T : List Th} {g : Int → Option Nat} (id : Int) (w : World) (h : RawAt F w p v b T m g) (hi : I64 id) :
    Calls Try.prog 51 #[ptr13 p, .int .i64 id] w fun e w' => e = .returned (.tuple #[.int .i64 (((g id).getD 0 : Nat) : Int), .bool (g id).isSome]) ∧ w' = w := by
  have p0 := h.blk.cell 1 rfl
  have HM := Lib.hid h.map
  have HI := Lib.hid hi
  obtain ⟨n, hn⟩ : ∃ n : Int, (((g id).getD 0 : Nat) : Int) = n := ⟨_, rfl⟩
  obtain ⟨t, ht⟩ : ∃ t, (g id).isSome = t := ⟨_, rfl⟩
  rw [hn, ht]
  have HN := Lib.hid hn
  have HT := Lib.hid ht
  clear h hi hn ht
  go_enter Try.func51, Try.ntmps51
  go_wp2_with (at_lookup; refine wpList_lookN rfl _ _ rfl rfl HM.out id HI.out rfl ?_; rw [HN.out, HT.out])
  exact bodyPost_ret (v := .tuple #[.int .i64 n, .bool t]) (by simp [results, Try.results51, go_sem]) rfl ⟨rfl, rfl⟩
theorem hFind_nil (id : Int) (w : World) : Calls Try.prog 51 #[.pointer none, .int .i64 id] w fun e w' => e = .returned (.tuple #[.int .i64 0, .bool false]) ∧ w' = w := by
  go_enter Try.func51, Try.ntmps51
  go_wp2
  exact bodyPost_ret (v := .tuple #[.int .i64 0, .bool false]) (by simp [results, Try.results51, go_sem]) rfl ⟨rfl, rfl⟩
end Go.Proofs.Ytnfdhlkngjplkaa
