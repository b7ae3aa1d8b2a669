/- Bytes in memory: what is read, what a call gathers by itself, what comes in; more behind them; as a string. -/
import Derived.Test.YtlgemfgikdaelaaFlat
import Derived.WalkSpells
import Derived.WalkLawsBesides
import Derived.Laws.AppendOwnNone
import Derived.Laws.IdiomStrings
import Derived.Laws.BytesString
namespace Go.Proofs.Ytlgemfgikdaelaa
open Go.RowKit Go.ChangeShapes Go.WideShapes Go.Joins Go.Deep

def csB (b : UInt8) : List Value := [.int .u8 (b.toNat : Int)]
theorem csB_len (b : UInt8) : (csB b).length = 1 := rfl
/-- bytes in memory -/
abbrev BytesAt (w : World) (v : Value) (l : List UInt8) : Prop := RowsAt w 1 csB v l
/-- bytes that the call gathers by itself -/
abbrev OwnB (w : World) (B : Nat) (v : Value) (l : List UInt8) : Prop := OwnR w B 5 1 csB v l
theorem info_byte : (Try.prog.info? 5).map (fun i => (i.zero, i.size, i.bytes)) = some (some (.int .u8 0), 1, 1) := by kernel_rfl
theorem cells_byte : Try.prog.cellsOf 5 = 1 := by kernel_rfl
theorem OwnB.bytes {w : World} {B : Nat} {v : Value} {l : List UInt8} (h : OwnB w B v l) : BytesAt w v l := OwnR.rows csB_len h
theorem OwnB.kept {w w' : World} {B : Nat} {v : Value} {l : List UInt8} (h : OwnB w B v l) (hb : Below w.heap.size w w') : OwnB w' B v l := OwnR.kept h hb
theorem OwnB.base {w : World} {B B' : Nat} {v : Value} {l : List UInt8} (h : OwnB w B v l) (hB : B' ≤ B) : OwnB w B' v l := by
  refine ⟨h.1, ?_⟩
  rcases h.2 with h1 | ⟨g, cap, cur, e, hg, hr⟩
  · exact .inl h1
  · exact .inr ⟨g, cap, cur, e, Nat.le_trans hB hg, hr⟩
theorem BytesAt.at {w : World} {v : Value} {l : List UInt8} (h : BytesAt w v l) (k : Nat) (hk : k < l.length) :
    ∃ g o c, v = .slice (some ⟨g, o, none⟩) l.length c ∧ l.length ≤ c ∧ g < w.heap.size ∧ w.cell? ⟨g, o + k, none⟩ = some (.int .u8 (l[k].toNat : Int)) := by
  obtain ⟨g, o, c, e, hc, hg, hx⟩ := RowsAt.spot h k hk
  have := hx 0 _ rfl
  rw [Nat.mul_one, Nat.add_zero] at this
  exact ⟨g, o, c, e, hc, hg, this⟩

/-! ### More behind what is the call's own -/
theorem flats_inv {α : Type} {cs : α → List Value} {K : Nat} (hK : ∀ x, (cs x).length = K) (l : List α) : ∀ (j : Nat) (u : Value), (flats cs l)[j]? = some u → ∃ q i x, j = q * K + i ∧ l[q]? = some x ∧ (cs x)[i]? = some u := by
  induction l with
  | nil => intro j u h; simp [flats] at h
  | cons y l ih =>
    intro j u h
    have e : flats cs (y :: l) = cs y ++ flats cs l := rfl
    rw [e] at h
    rcases Nat.lt_or_ge j K with hj | hj
    · rw [List.getElem?_append_left (by rw [hK]; exact hj)] at h
      exact ⟨0, j, y, by omega, rfl, h⟩
    · rw [List.getElem?_append_right (by rw [hK]; exact hj), hK] at h
      obtain ⟨q, i, x, e1, e2, e3⟩ := ih _ _ h
      exact ⟨q + 1, i, x, by rw [Nat.add_mul]; omega, by simpa using e2, e3⟩
section
variable {P : Program} {w : World}
theorem run_append_nil' (base : Nat) (t ty e : TypeId) (i : TypeInfo) (size c : Nat) (ht : P.underlying t = some (.slice e)) (hi : P.info? e = some i)
    (v : Value) (n : Nat) (xs : List Value) (hown : w.ownsRow base e size v n xs) :
    (Builtin.append_ #[t, t] ty #[v, .slice none 0 c]).run P w = .ok v w := by
  rcases hown.2 with ⟨rfl, rfl⟩ | ⟨g, cap, cur, rfl, _, _, hnc, _⟩
  · simp [Builtin.append_, run_underlying ht, sizeOf, typeInfo, hi, Builtin.lenOf, Builtin.firstCells]
  · simp [Builtin.append_, run_underlying ht, sizeOf, typeInfo, hi, Builtin.lenOf, Builtin.firstCells, hnc, storeCells]
theorem wpList_append_rows {α : Type} {cs : α → List Value} {K : Nat} (hK : ∀ x, (cs x).length = K) (hK0 : 0 < K) (hone : ∀ x, ∀ u ∈ cs x, u.oneCell' = true)
    {ops : Array Oper} {rest : List Oper} {o : Oper} {a : Act} {Q : Exit → Act → World → Prop} (hgd : o.guard = none) (s x : Operand) (t : TypeId)
    (ho : o.op = .call { callee := .builtin .append, args := #[s, x], argTypes := #[t, t] })
    (base : Nat) (e : TypeId) (i : TypeInfo) (z : Value) (bytes : Nat) (ht : P.underlying t = some (.slice e)) (hi : P.info? e = some i) (hz : i.zero = some z) (hsize : i.size = K) (hby : i.bytes = bytes) (hzs : z.cells.size = K)
    (v : Value) (l1 : List α) (hs : a.eval s = v) (hown : OwnR w base e K cs v l1) (va : Value) (l : List α) (hx : a.eval x = va) (hp : RowsAt w K cs va l) (h63 : l1.length + l.length ≤ maxLen) (hbytes : (l1.length + l.length) * bytes ≤ 140737488355328) (hbase : base ≤ w.heap.size)
    (h : ∀ v' w', OwnR w' base e K cs v' (l1 ++ l) → w.grownBy w' v.ownBlock → wpList P ops Q rest (a.put o.dst v') w') : wpList P ops Q (o :: rest) a w := by
  obtain ⟨ad, cap, rfl, hcap, hc⟩ := hp
  cases ad with
  | none =>
    have hl0 : l.length = 0 := by
      rcases Nat.eq_zero_or_pos l.length with h0 | h0
      · exact h0
      · obtain ⟨g, o', e', _⟩ := hc h0
        cases e'
    have : l = [] := List.eq_nil_of_length_eq_zero hl0
    subst this
    refine wpList_plain hgd fun K' hK' => ?_
    have hrun := run_append_nil' (P := P) (w := w) base t o.type e i K cap ht hi v _ _ hown
    unfold Oper.wp
    simp only [List.length_nil] at hx
    simp [execOp, ho, resolve, invoke, builtin, hs, hx, hrun, Result.andThen]
    exact hK' _ _ (h v w (by simpa using hown) ⟨rfl, rfl, rfl, Nat.le_refl _, fun _ _ _ => rfl⟩)
  | some ad =>
    refine wpList_append_own w hgd s x t ho base e i z K bytes ht hi hz hsize hby hzs hK0 v l1.length (flats cs l1) hs hown ad l.length cap (flats cs l) hx (flats_length hK l) ?_ ?_ h63 hbytes hbase fun v' w' h1 h2 _ => h v' w' ?_ h2
    · intro j u hu
      obtain ⟨q, i', y, e1, e2, e3⟩ := flats_inv hK l j u hu
      obtain ⟨g, o', e', hg, hcell⟩ := hc (by have := (List.getElem?_eq_some_iff.1 e2).1; omega)
      cases e'
      have := hcell q y e2 i' u e3
      subst e1
      rw [add_plain]
      rw [← this]
      congr 2
      omega
    · intro u hu
      obtain ⟨j, hj, rfl⟩ := List.getElem_of_mem hu
      obtain ⟨q, i', y, e1, e2, e3⟩ := flats_inv hK l j _ (List.getElem?_eq_getElem hj)
      exact hone y _ (List.mem_of_getElem? e3)
    · unfold OwnR
      rw [List.length_append, flats_append]
      exact h1
end
theorem csB_one (b : UInt8) : ∀ u ∈ csB b, u.oneCell' = true := by
  intro u hu
  simp [csB] at hu
  subst hu
  rfl
/-- a new row of nothing -/
theorem ownb_empty (w : World) : OwnB (w.alloc (.cells #[] 5)) w.heap.size (.slice (some ⟨w.heap.size, 0, none⟩) 0 0) [] :=
  ⟨rfl, .inr ⟨w.heap.size, 0, #[], rfl, Nat.le_refl _, Array.getElem?_push_size, Nat.le_refl _, by simp [maxLen], rfl, rfl⟩⟩

/-! ### As a string -/
theorem str_eq (l r : List UInt8) : (decide ((⟨l.toArray⟩ : ByteArray) = ⟨r.toArray⟩)) = decide (l = r) := by
  apply decide_eq_decide.2
  constructor
  · intro h
    have := congrArg ByteArray.data h
    simpa using this
  · rintro rfl
    rfl

/-- what fits -/
theorem u64_bd {n : Int} (h : (Lit.int .u64 n).wf = true) : 0 ≤ n ∧ n < 18446744073709551616 := by
  have k1 : IntKind.u64.min = 0 := rfl
  have k2 : IntKind.u64.max = 18446744073709551615 := rfl
  simp only [Lit.wf, Bool.and_eq_true, decide_eq_true_eq, k1, k2] at h
  omega
theorem u8_bd {n : Int} (h : (Lit.int .u8 n).wf = true) : 0 ≤ n ∧ n < 256 := by
  have k1 : IntKind.u8.min = 0 := rfl
  have k2 : IntKind.u8.max = 255 := rfl
  simp only [Lit.wf, Bool.and_eq_true, decide_eq_true_eq, k1, k2] at h
  omega
theorem u32_bd {n : Int} (h : (Lit.int .u32 n).wf = true) : 0 ≤ n ∧ n < 4294967296 := by
  have k1 : IntKind.u32.min = 0 := rfl
  have k2 : IntKind.u32.max = 4294967295 := rfl
  simp only [Lit.wf, Bool.and_eq_true, decide_eq_true_eq, k1, k2] at h
  omega
theorem u16_bd {n : Int} (h : (Lit.int .u16 n).wf = true) : 0 ≤ n ∧ n < 65536 := by
  have k1 : IntKind.u16.min = 0 := rfl
  have k2 : IntKind.u16.max = 65535 := rfl
  simp only [Lit.wf, Bool.and_eq_true, decide_eq_true_eq, k1, k2] at h
  omega
end Go.Proofs.Ytlgemfgikdaelaa
