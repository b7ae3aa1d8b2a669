/- Texts of this proof, joined: MapI; WpE; WpF; WpG; WpH. -/
import Derived.Test.YtjmgokjljmmmgaaGreatBun11
import Derived.Deep.DeepCutAuto
/- Maps from ints to ints, to bools, to lists of numbers (their headers alone): XMapG's laws in plain words. FOR ALL LATER STAGES. -/
namespace Go.Proofs.YtjmgokjljmmmgaaGreat
open Go.RowKit Go.Maps

/-- what a store does, as an equation of its run -/
theorem MapG.store {P : Program} {kt e : TypeId} {E : Elt P e} {w : World} {b m : Nat} {g : Int → Option E.α} (h : MapG E kt w b m g) (hk : P.underlying kt = some (.int .i64)) {t : TypeId} (ht : P.underlying t = some (.map kt e)) (hn : m < maxLen) {id : Int} (hi : I64 id) (y : E.α) (hy : E.ok y) :
    ∃ w', (Instr.mapUpdate t (.map (some b)) (.int .i64 id) (E.val y)).run P w = .ok () w' ∧ MapG E kt w' b (if (g id).isSome then m else m + 1) (updG g id (some y)) ∧ w.grownBy w' (some b) := by
  obtain ⟨D, h1, h2, h3⟩ := h
  obtain ⟨w', hrun, h4, h5⟩ := h1.store (int_keyed hk) ht hn (keyOf_int_mk hk hi.wf) (E.out y hy)
  have htidy := h1.tidy (int_keyed hk)
  have hsz := Maps.size_put (k := Lit.int .i64 id) htidy (E.enc y)
  have hh : Maps.has D (.int .i64 id) = (g id).isSome := by
    have := h3 id hi
    cases hgi : g id with
    | none => rw [hgi] at this; exact this
    | some y => rw [hgi] at this; exact this.1
  rw [hh, h2] at hsz
  refine ⟨w', hrun, ⟨D.put (.int .i64 id) (E.enc y), ?_, hsz, fun k hkk => ?_⟩, h5.grown⟩
  · obtain ⟨es, clock, r1, r2, r3, r4⟩ := h4
    refine ⟨es, clock, r1, r2, ?_, r4⟩
    rw [← hsz, r4]
    simp [Maps.size, length_sorted]
  · by_cases ek : k = id
    · subst ek
      rw [updG_same]
      exact ⟨Maps.has_put_same (k := Lit.int .i64 k) htidy.isMap trivial _, fun z => Maps.atKey_put_same (k := Lit.int .i64 k) htidy.isMap trivial _ z⟩
    · rw [updG_other _ _ ek]
      have := h3 k hkk
      cases hgk : g k with
      | none =>
        rw [hgk] at this
        show Maps.has _ _ = false
        rw [Maps.has_put_other (kl_ne ek)]
        exact this
      | some y2 =>
        rw [hgk] at this
        refine ⟨?_, fun z => ?_⟩
        · rw [Maps.has_put_other (kl_ne ek)]; exact this.1
        · rw [Maps.atKey_put_other (kl_ne ek)]; exact this.2 z

/-! ### Ints -/
def MapI (w : World) (b m : Nat) (g : Int → Option Int) : Prop := MapG EI 3 w b m g
section
variable {w w' : World} {b m : Nat} {g : Int → Option Int}
theorem MapI.lt (h : MapI w b m g) : b < w.heap.size := MapG.lt h
theorem MapI.same (h : MapI w b m g) (he : w'.heap[b]? = w.heap[b]?) : MapI w' b m g := MapG.same h he
theorem MapI.kept (h : MapI w b m g) (hb : Below w.heap.size w w') : MapI w' b m g := MapG.kept h hb
theorem MapI.new (w : World) : MapI (w.alloc (.map #[] 0)) w.heap.size 0 (fun _ => none) := MapG.new w
theorem MapI.ne_cell {a : Addr} {u : Value} (h : MapI w b m g) (hk : w.cell? a = some u) : b ≠ a.block := MapG.ne_cell h hk
theorem MapI.look (h : MapI w b m g) {id : Int} (hi : I64 id) : (Instr.lookup 90 (.map (some b)) (.int .i64 id) true).run Tryz.prog w = .ok (.tuple #[.int .i64 ((g id).getD 0), .bool (g id).isSome]) w :=
  MapG.look (E := EI) h Tryz.underlying3 Tryz.underlying90 hi
theorem MapI.look1 (h : MapI w b m g) {id : Int} (hi : I64 id) : (Instr.lookup 90 (.map (some b)) (.int .i64 id) false).run Tryz.prog w = .ok (.int .i64 ((g id).getD 0)) w :=
  MapG.look1 (E := EI) h Tryz.underlying3 Tryz.underlying90 hi
theorem MapI.put (h : MapI w b m g) (hn : m ≤ 1000000) {id : Int} (hi : I64 id) (y : Int) (hy : I64 y) :
    ∃ w', (Instr.mapUpdate 90 (.map (some b)) (.int .i64 id) (.int .i64 y)).run Tryz.prog w = .ok () w' ∧ MapI w' b (if (g id).isSome then m else m + 1) (updG g id (some y)) ∧ w.grownBy w' (some b) :=
  MapG.store (E := EI) h Tryz.underlying3 Tryz.underlying90 (by unfold maxLen; omega) hi y hy
variable {ops : Array Oper} {rest : List Oper} {o : Oper} {a : Act} {Q : Exit → Act → World → Prop}
theorem wpList_putI (hg : o.guard = none) (hd : o.dst = none) (mo x vo : Operand) (hop : o.op = Op.mapUpdate 90 mo x vo)
    (hm : a.eval mo = .map (some b)) (h : MapI w b m g) (hn : m ≤ 1000000) (id : Int) (hi : I64 id) (hx : a.eval x = .int .i64 id) (y : Int) (hy : I64 y) (hv : a.eval vo = .int .i64 y)
    (hK : ∀ w', MapI w' b (if (g id).isSome then m else m + 1) (updG g id (some y)) → w.grownBy w' (some b) → wpList Tryz.prog ops Q rest a w') : wpList Tryz.prog ops Q (o :: rest) a w := by
  refine wpList_putG (E := EI) hg mo x vo 90 hop Tryz.underlying3 Tryz.underlying90 hm h (by unfold maxLen; omega) id hi hx (show EI.α from y) hy hv fun w' h1 h2 => by
    rw [hd]
    exact hK w' h1 h2
end

/-! ### Bools -/
section
variable {w w' : World} {b m : Nat} {g : Int → Option Bool}
variable {ops : Array Oper} {rest : List Oper} {o : Oper} {a : Act} {Q : Exit → Act → World → Prop}
theorem wpList_putB (hg : o.guard = none) (hd : o.dst = none) (mo x vo : Operand) (hop : o.op = Op.mapUpdate 105 mo x vo)
    (hm : a.eval mo = .map (some b)) (h : MapB w b m g) (hn : m ≤ 1000000) (id : Int) (hi : I64 id) (hx : a.eval x = .int .i64 id) (y : Bool) (hv : a.eval vo = .bool y)
    (hK : ∀ w', MapB w' b (if (g id).isSome then m else m + 1) (updG g id (some y)) → w.grownBy w' (some b) → wpList Tryz.prog ops Q rest a w') : wpList Tryz.prog ops Q (o :: rest) a w := by
  refine wpList_putG (E := EB) hg mo x vo 105 hop Tryz.underlying3 Tryz.underlying105 hm h (by unfold maxLen; omega) id hi hx (show EB.α from y) trivial hv fun w' h1 h2 => by
    rw [hd]
    exact hK w' h1 h2
end

/-! ### Lists of numbers -/
/-- a list's header -/
structure Hd where
  g : Option Nat
  n : Nat
  c : Nat
def hdv (x : Hd) : Value := .slice (x.g.map fun b => ⟨b, 0, none⟩) x.n x.c
def hd0 : Hd := ⟨none, 0, 0⟩
def encH (x : Hd) : DataW Unit := .agg [.lit (.int .i64 (match x.g with | none => -1 | some b => (b : Int))), .lit (.int .i64 (x.n : Int)), .lit (.int .i64 (x.c : Int))]
def readH : Value → Option (DataW Unit × List MemPlace)
  | .slice none n c => some (encH ⟨none, n, c⟩, [])
  | .slice (some ⟨b, 0, none⟩) n c => some (encH ⟨some b, n, c⟩, [])
  | _ => none
theorem encH_inj {x y : Hd} (h : encH x = encH y) : x = y := by
  obtain ⟨a, n, c⟩ := x
  obtain ⟨a', n', c'⟩ := y
  simp only [encH, DataW.agg.injEq, List.cons.injEq, DataW.lit.injEq, Lit.int.injEq, true_and, and_true] at h
  obtain ⟨h1, h2, h3⟩ := h
  have e2 : n = n' := by omega
  have e3 : c = c' := by omega
  subst e2 e3
  cases a <;> cases a' <;> simp only at h1
  · rfl
  · omega
  · omega
  · have : (_ : Nat) = _ := Int.ofNat.inj h1
    rw [this]
theorem readH_inv (v : Value) (x : Hd) (ps : List MemPlace) (h : readH v = some (encH x, ps)) : v = hdv x := by
  unfold readH at h
  split at h
  · simp only [Option.some.injEq, Prod.mk.injEq] at h
    rw [← encH_inj h.1]
    rfl
  · simp only [Option.some.injEq, Prod.mk.injEq] at h
    rw [← encH_inj h.1]
    rfl
  · cases h
noncomputable def EH : Elt Tryz.prog 22 where
  α := Hd
  val := hdv
  enc := encH
  ok := fun _ => True
  z := hd0
  R := readH
  out := fun x _ => by
    obtain ⟨a, n, c⟩ := x
    cases a <;> rfl
  inv := readH_inv
  okz := trivial
  hz := fun w => by kernel_rfl
def MapH (w : World) (b m : Nat) (g : Int → Option Hd) : Prop := MapG EH 3 w b m g
/-- the list at a key -/
def hat (g : Int → Option Hd) (n : Int) : Value := hdv ((g n).getD hd0)
section
variable {w w' : World} {b m : Nat} {g : Int → Option Hd}
theorem MapH.lt (h : MapH w b m g) : b < w.heap.size := MapG.lt h
theorem MapH.same (h : MapH w b m g) (he : w'.heap[b]? = w.heap[b]?) : MapH w' b m g := MapG.same h he
theorem MapH.kept (h : MapH w b m g) (hb : Below w.heap.size w w') : MapH w' b m g := MapG.kept h hb
theorem MapH.new (w : World) : MapH (w.alloc (.map #[] 0)) w.heap.size 0 (fun _ => none) := MapG.new w
theorem MapH.ne_cell {a : Addr} {u : Value} (h : MapH w b m g) (hk : w.cell? a = some u) : b ≠ a.block := MapG.ne_cell h hk
theorem MapH.look1 (h : MapH w b m g) {id : Int} (hi : I64 id) : (Instr.lookup 31 (.map (some b)) (.int .i64 id) false).run Tryz.prog w = .ok (hat g id) w :=
  MapG.look1 (E := EH) h Tryz.underlying3 Tryz.underlying31 hi
variable {ops : Array Oper} {rest : List Oper} {o : Oper} {a : Act} {Q : Exit → Act → World → Prop}
theorem wpList_putH (hg : o.guard = none) (hd : o.dst = none) (mo x vo : Operand) (hop : o.op = Op.mapUpdate 31 mo x vo)
    (hm : a.eval mo = .map (some b)) (h : MapH w b m g) (hn : m ≤ 1000000) (id : Int) (hi : I64 id) (hx : a.eval x = .int .i64 id) (y : Hd) (hv : a.eval vo = hdv y)
    (hK : ∀ w', MapH w' b (if (g id).isSome then m else m + 1) (updG g id (some y)) → w.grownBy w' (some b) → wpList Tryz.prog ops Q rest a w') : wpList Tryz.prog ops Q (o :: rest) a w := by
  refine wpList_putG (E := EH) hg mo x vo 31 hop Tryz.underlying3 Tryz.underlying31 hm h (by unfold maxLen; omega) id hi hx (show EH.α from y) trivial hv fun w' h1 h2 => by
    rw [hd]
    exact hK w' h1 h2
end
theorem MapH.put {w : World} {b m : Nat} {g : Int → Option Hd} (h : MapH w b m g) (hn : m ≤ 1000000) {id : Int} (hi : I64 id) (y : Hd) :
    ∃ w', (Instr.mapUpdate 31 (.map (some b)) (.int .i64 id) (hdv y)).run Tryz.prog w = .ok () w' ∧ MapH w' b (if (g id).isSome then m else m + 1) (updG g id (some y)) ∧ w.grownBy w' (some b) :=
  MapG.store (E := EH) h Tryz.underlying3 Tryz.underlying31 (by unfold maxLen; omega) hi y trivial
theorem OwnI.hd {w : World} {B : Nat} {v : Value} {l : List Int} (h : OwnI w B v l) : ∃ x : Hd, v = hdv x ∧ x.n = l.length := by
  rcases h.2 with ⟨rfl, h0⟩ | ⟨g, cap, cur, rfl, _⟩
  · exact ⟨hd0, rfl, h0.symm⟩
  · exact ⟨⟨some g, l.length, cap⟩, rfl, rfl⟩
end Go.Proofs.YtjmgokjljmmmgaaGreat
/- Stage 21's program: leasesFit. -/
namespace Go.Proofs.YtjmgokjljmmmgaaGreat
open Go.RowKit Go.Maps

def hG (Ls : List Lr) : Int → Option Int := fun id => (Ls.find? fun x => x.id == id).map Lr.holder
theorem findK_snoc {Ls : List Lr} {x : Lr} {t : Int} (h : x.id ≠ t) : (Ls ++ [x]).find? (fun y => y.id == t) = Ls.find? (fun y => y.id == t) := by
  rw [List.find?_append, List.find?_cons_of_neg (by simpa using h)]
  simp
theorem findK_last {Ls : List Lr} {x : Lr} (h : x.id ∉ idsL Ls) : (Ls ++ [x]).find? (fun y => y.id == x.id) = some x := by
  rw [List.find?_append, List.find?_eq_none.2 fun y hy => by
    simp only [beq_iff_eq]
    exact fun e => h (e ▸ List.mem_map_of_mem hy)]
  simp
theorem hG_next {Ls : List Lr} {x : Lr} (h : x.id ∉ idsL Ls) : updG (hG Ls) x.id (some x.holder) = hG (Ls ++ [x]) := by
  funext t
  unfold hG
  by_cases e : t = x.id
  · subst e
    rw [updG_same, findK_last h]
    rfl
  · rw [updG_other _ _ e, findK_snoc (fun h => e h.symm)]
theorem hG_hd (Ls : List Lr) (id : Int) : (hG Ls id).getD 0 = hdL Ls id := rfl
/-- who waits at all waits where it must, if the locks fit -/
theorem seen_iff {Xs : List Le} {Ls : List Lr} (hni : (idsL Ls).Nodup) (hnt : (Xs.map Le.token).Nodup) (hlo : locksW Xs Ls = true) {x : Le} (hx : x ∈ Xs) {j : Nat} (hj : x.got = (j : Int)) (hjl : j < x.want.length) : decide (x.token ∈ waitsOf Ls) = inL (wtL Ls x.want[j]) x.token := by
  rw [Bool.eq_iff_iff, decide_eq_true_eq, inL_iff20, mem_waitsOf]
  obtain ⟨h1, h2⟩ := mk_seat (Ls := Ls) hnt hx
  have hnx : (mkT Ls Xs).nx x.token = some x.want[j] := by
    rw [nx_mk h1 h2, hj, Int.toNat_natCast, List.getElem?_eq_getElem hjl]
  constructor
  · rintro ⟨l, hl, htl⟩
    have h3 := (lockB_wait (List.all_eq_true.1 hlo l hl) _ htl).2
    rw [hnx] at h3
    rw [Option.some.inj h3]
    have h4 : lkF Ls l.id = some l := find_id hni hl
    rw [(hdL_of h4).2]
    exact htl
  · intro h
    cases hf : lkF Ls x.want[j] with
    | none =>
      rw [(hdL_no hf).2] at h
      cases h
    | some k =>
      rw [(hdL_of hf).2] at h
      exact ⟨k, List.mem_of_find?_eq_some hf, h⟩
set_option maxHeartbeats 16000000 in
set_option maxRecDepth 100000 in
theorem pLeasesFit_any (vx vl : Value) (Xs : List Le) (Ls : List Lr) (W : World) (hx : LeasesAt W vx Xs) (hl : LocksAt W vl Ls) (hle : lesW 0 Xs = true) (hids : rightB (idsL Ls) = true) (hlo : locksW Xs Ls = true) (hxl : Xs.length ≤ 1000) (hll : Ls.length ≤ 1000) (hxw : ∀ x ∈ Xs, x.want.length ≤ 1000) (hlw : ∀ x ∈ Ls, x.wait.length ≤ 1000) (hx64 : ∀ x ∈ Xs, I64 x.token ∧ ∀ t ∈ x.want, I64 t) (hl64 : ∀ x ∈ Ls, I64 x.id ∧ I64 x.holder ∧ ∀ t ∈ x.wait, I64 t) :
    Calls Tryz.prog 41 #[vx, vl] W fun e w' => e = .returned (.bool (seatsW Xs Ls)) ∧ Below W.heap.size W w' := by
  obtain ⟨r, hr⟩ : ∃ r, seatsW Xs Ls = r := ⟨_, rfl⟩
  rw [hr]
  have HNT := Lib.hid (ris_nodup (lesW_ris Xs 0 hle).2)
  have HNI := Lib.hid (show (idsL Ls).Nodup from ris_nodup (of_decide_eq_true hids))
  have HRR := Lib.hid (show r = Xs.all fun x => seatV Ls x.token x.got.toNat x.want by
    rw [← hr]
    unfold seatsW
    rw [Bool.eq_iff_iff, List.all_eq_true, List.all_eq_true]
    constructor
    · intro h x hxm
      rw [← seatB_mk2 HNT.out hxm]
      exact h _ (List.mem_map_of_mem hxm)
    · intro h t ht
      obtain ⟨x, hxm, rfl⟩ := List.mem_map.1 ht
      rw [seatB_mk2 HNT.out hxm]
      exact h x hxm)
  have HX := Lib.hid hx
  have HL := Lib.hid hl
  have HLO := Lib.hid hlo
  have HEA := Lib.hid (lesW_each Xs 0 hle)
  have HXL := Lib.hid hxl
  have HLL := Lib.hid hll
  have HXW := Lib.hid hxw
  have HLW := Lib.hid hlw
  have HX64 := Lib.hid hx64
  have HL64 := Lib.hid hl64
  obtain ⟨ax, cx, rfl⟩ := RowsAt.form hx.rows
  obtain ⟨al, cl, rfl⟩ := RowsAt.form hl.rows
  have hmk : (Instr.makeMap 90 none).run Tryz.prog W = .ok (.map (some W.heap.size)) (W.alloc (.map #[] 0)) := by kernel_rfl
  have hmk2 : (Instr.makeMap 105 none).run Tryz.prog (W.alloc (.map #[] 0)) = .ok (.map (some (W.alloc (.map #[] 0)).heap.size)) ((W.alloc (.map #[] 0)).alloc (.map #[] 0)) := by kernel_rfl
  have hz : (W.alloc (.map #[] 0)).heap.size = W.heap.size + 1 := by simp
  have hal1 := (Below.refl W.heap.size W).alloc (Nat.le_refl _) (.map #[] 0)
  have hal2 := (Below.refl (W.alloc (.map #[] 0)).heap.size (W.alloc (.map #[] 0))).alloc (Nat.le_refl _) (.map #[] 0)
  have hmi := (MapI.new W).kept hal2
  have hmb := MapB.new (W.alloc (.map #[] 0))
  have hb0 := hal1.trans (hal2.mono hal1.size)
  rw [hz] at hmb hmk2
  clear hr hx hl hle hids hlo hxl hll hxw hlw hx64 hl64 hal1 hal2 hz
  go_enter Tryz.func41, Tryz.ntmps41
  go_wp2
  clear hmk hmk2
  generalize (W.alloc (.map #[] 0)).alloc (.map #[] 0) = w1 at *
  have HI0 := Lib.hid hmi
  have HS0 := Lib.hid hmb
  have HB0 := Lib.hid hb0
  clear hmi hmb hb0
  go_loopg [19] Ls.length (fun kx iv ws => ∃ (k m q : Nat), k ≤ Ls.length ∧ Ls.length - k ≤ kx ∧ iv = .int .i64 k ∧ Hid (m ≤ k) ∧ Hid (q ≤ 1000 * k) ∧ Hid (MapI ws W.heap.size m (hG (Ls.take k))) ∧ Hid (MapB ws (W.heap.size + 1) q (seenG (waitsOf (Ls.take k)))) ∧ Hid (Below W.heap.size W ws))
  case atStart => exact ⟨0, 0, 0, Nat.zero_le _, Nat.le_refl _, rfl, Nat.le_refl _, Nat.le_refl _, HI0.out, HS0.out, HB0.out⟩
  case round =>
    clear HI0 HS0 HB0
    obtain ⟨k, m, q, hk, hkx, rfl, HM, HQ, HMI, HMS, HB⟩ := hrel
    by_cases hlt : k < Ls.length
    · have HLT := Lib.hid (And.intro hlt hkx)
      have k0 : (0 : Int) ≤ (k : Int) := by omega
      have k1 : (k : Int) < (Ls.length : Int) := by omega
      have k2 : (k : Int) ≤ 1000 := by have := HLL.out; omega
      have hla := LocksAt.below HL.out HB.out
      obtain ⟨g, o, cc, e, z0, z1, p0, p1, p2⟩ := RowsAt.atL hla.rows k hlt
      cases e
      clear z0 z1
      have hm := List.getElem_mem hlt
      have hl64 := HL64.out _ hm
      have hlw := HLW.out _ hm
      have hxi := HL.out.each _ hm
      have hwn := waitsOf_next Ls k hlt
      have hsn : Ls.take (k + 1) = Ls.take k ++ [Ls[k]] := List.take_succ_eq_append_getElem hlt
      have hno : (Ls[k]'hlt).id ∉ idsL (Ls.take k) := by
        have := not_take HNI.out k (by simpa [idsL] using hlt)
        simpa [idsL, List.map_take] using this
      obtain ⟨⟨id, hh, xa, xc, L⟩, hx⟩ : ∃ x, Ls[k]'hlt = x := ⟨_, rfl⟩
      rw [hx] at p0 p1 p2 hl64 hlw hxi hsn hno hwn
      simp only at p0 p1 hl64 hlw hwn
      have hnx := hG_next hno
      rw [← hsn] at hnx
      simp only at hnx
      change _ = some (Value.slice xa L.length xc) at p2
      replace hxi : IntsAt W (.slice xa L.length xc) L := hxi
      obtain ⟨n, hn⟩ : ∃ n, L.length = n := ⟨_, rfl⟩
      rw [hn] at p2 hxi hlw
      have HN := Lib.hid hn
      have HWN := Lib.hid hwn
      have HXI := Lib.hid hxi
      have HLWN := Lib.hid hlw
      have HT64 := Lib.hid hl64.2.2
      have hbx := (Below.refl wr.heap.size wr).alloc (Nat.le_refl _) (.cells #[.int .i64 id, .int .i64 hh, .slice xa n xc] 50)
      have hX := Blk.new wr [.int .i64 id, .int .i64 hh, .slice xa n xc] 50
      obtain ⟨w4, hrun, hm4, hg4⟩ := MapI.put (HMI.out.kept hbx) (by have := HM.out; omega) hl64.1 hh hl64.2.1
      rw [hnx] at hm4
      have HM4 := Lib.hid hm4
      have HMS4 := Lib.hid (MapG.grown (HMS.out.kept hbx) hg4 (fun e => by have := Option.some.inj e; omega))
      have hx4 := Blk.grown (v := .int .i64 id) (vs := [.int .i64 hh, .slice xa n xc]) hX hg4 (fun e => by have := Option.some.inj e; have := HMI.out.lt; omega)
      have HB4 := Lib.hid ((HB.out.trans (hbx.mono HB.out.size)).grown hg4 (Nat.le_trans HB.out.size hbx.size) (fun k hk => by rw [← Option.some.inj hk]; exact Nat.le_refl _))
      have HMK := Lib.hid (show (if (hG (Ls.take k) id).isSome = true then m else m + 1) ≤ k + 1 by have := HM.out; split <;> omega)
      generalize (if (hG (Ls.take k) id).isSome = true then m else m + 1) = m4 at *
      clear hk hkx hlt hla hm hl64 hlw hxi hx hn hwn hsn hno hnx hbx hm4 hg4 HMI HMS
      go_upto_region 6 with fail
      generalize wr.alloc (.cells #[.int .i64 id, .int .i64 hh, .slice xa n xc] 50) = w3 at *
      generalize wr.heap.size = bx at *
      have x0 := Blk.cell (vs := [.int .i64 id, .int .i64 hh, .slice xa n xc]) hX 0 rfl
      have x1 := Blk.cell (vs := [.int .i64 id, .int .i64 hh, .slice xa n xc]) hX 1 rfl
      have y2 := Blk.cell (vs := [.int .i64 id, .int .i64 hh, .slice xa n xc]) hx4 2 rfl
      clear hX p0 p1 p2
      go_wp2
      clear hrun x0 x1 y2 hx4
      go_loopg [31] n (fun jx jv ws => ∃ (j p : Nat), j ≤ n ∧ n - j ≤ jx ∧ jv = .int .i64 j ∧ Hid (p ≤ 1000 * k + j) ∧ Hid (MapI ws W.heap.size m4 (hG (Ls.take (k + 1)))) ∧ Hid (MapB ws (W.heap.size + 1) p (seenG (waitsOf (Ls.take k) ++ L.take j))) ∧ Hid (Below W.heap.size W ws))
      case atStart => exact ⟨0, q, Nat.zero_le _, Nat.le_refl _, rfl, HQ.out, HM4.out, (by rw [List.take_zero, List.append_nil]; exact HMS4.out), HB4.out⟩
      case round =>
        clear HM4 HMS4 HB4
        obtain ⟨j, p, hj, hjx, rfl, HP, HMI, HMS, HB⟩ := hrel
        by_cases hjt : j < n
        · have HJT := Lib.hid (And.intro hjt hjx)
          have j0 : (0 : Int) ≤ (j : Int) := by omega
          have j1 : (j : Int) < (n : Int) := by omega
          have j2 : (j : Int) ≤ 1000 := by have := HLWN.out; omega
          have hjl : j < L.length := by rw [HN.out]; exact hjt
          obtain ⟨g2, o2, c2, e2, z0, z1, m0⟩ := (HXI.out.below HB.out).spot j hjl
          rw [HN.out] at e2
          cases e2
          clear z0 z1
          have h64 := HT64.out _ (List.getElem_mem hjl)
          have hsn := List.take_succ_eq_append_getElem hjl
          obtain ⟨t, ht⟩ : ∃ t, L[j]'hjl = t := ⟨_, rfl⟩
          rw [ht] at m0 h64 hsn
          obtain ⟨w5, hrun, hm5, hg5⟩ := MapB.put HMS.out (by have := HP.out; have := HLT.out; have := HLL.out; have := HLWN.out; have := HJT.out; omega) h64 true
          rw [seenG_next, List.append_assoc, ← hsn] at hm5
          have HM5 := Lib.hid hm5
          have HMI5 := Lib.hid (MapG.grown HMI.out hg5 (fun e => by have := Option.some.inj e; omega))
          have HB5 := Lib.hid (HB.out.grown hg5 HB.out.size (fun k hk => by rw [← Option.some.inj hk]; omega))
          have HPK := Lib.hid (show (if (seenG (waitsOf (Ls.take k) ++ L.take j) t).isSome = true then p else p + 1) ≤ 1000 * k + (j + 1) by have := HP.out; split <;> omega)
          clear hj hjx hjt hjl h64 hsn ht hm5 hg5
          go_wp2
          clear hrun
          go_roundg (n - (j + 1))
          case measure => have := HJT.out; omega
          case rel => exact ⟨j + 1, _, by have := HJT.out; omega, Nat.le_refl _, by go_num, HPK.out, HMI5.out, HM5.out, HB5.out⟩
        · have j1 : ¬ (j : Int) < (n : Int) := by omega
          have hms := HMS.out
          rw [show L.take j = L from List.take_of_length_le (by rw [HN.out]; omega), ← HWN.out] at hms
          have HMS2 := Lib.hid hms
          have HPK := Lib.hid (show p ≤ 1000 * (k + 1) by have := HP.out; have := HLWN.out; omega)
          clear hj hjx hjt hms HMS
          go_wp2
          go_roundg (Ls.length - (k + 1))
          case measure => have := HLT.out; omega
          case rel => exact ⟨k + 1, m4, p, by have := HLT.out; omega, Nat.le_refl _, by go_num, HMK.out, HPK.out, HMI.out, HMS2.out, HB.out⟩
    · have k1 : ¬ (k : Int) < (Ls.length : Int) := by omega
      have hke : Ls.take k = Ls := List.take_of_length_le (by omega)
      have hmi := HMI.out
      have hms := HMS.out
      rw [hke] at hmi hms
      have HI := Lib.hid hmi
      have HS := Lib.hid hms
      clear hk hkx hlt hke hmi hms HMI HMS
      generalize wr = w2 at *
      go_wp2
      have hb2 := Below.refl w2.heap.size w2
      go_loopg [41] Xs.length (fun kx iv ws => ∃ (k : Nat), k ≤ Xs.length ∧ Xs.length - k ≤ kx ∧ iv = .int .i64 k ∧ Hid ((Xs.take k).all (fun x => seatV Ls x.token x.got.toNat x.want) = true) ∧ Hid (Below w2.heap.size w2 ws))
      case atStart => exact ⟨0, Nat.zero_le _, Nat.le_refl _, rfl, rfl, hb2⟩
      case round =>
        clear hb2
        obtain ⟨k, hk, hkx, rfl, HAL, HB2⟩ := hrel
        have HBW := Lib.hid (HB.out.trans (HB2.out.mono HB.out.size))
        by_cases hlt : k < Xs.length
        · have HLT := Lib.hid (And.intro hlt hkx)
          have k0 : (0 : Int) ≤ (k : Int) := by omega
          have k1 : (k : Int) < (Xs.length : Int) := by omega
          have k2 : (k : Int) ≤ 1000 := by have := HXL.out; omega
          obtain ⟨g, o, cc, e, z0, z1, p0, p1, p2, p3, p4, p5, p6⟩ := leaseAt (RowsAt.kept HX.out.rows HBW.out) k hlt
          cases e
          clear z0 z1
          have hm := List.getElem_mem hlt
          obtain ⟨h64, hw64⟩ := HX64.out _ hm
          have hxi := (HX.out.each _ hm)
          have hxw := HXW.out _ hm
          obtain ⟨hrw, hg0, hg1⟩ := HEA.out _ hm
          have hsi : ∀ x, Xs[k]'hlt = x → ∀ (j : Nat) (hj : x.got = (j : Int)) (hjl : j < x.want.length), decide (x.token ∈ waitsOf Ls) = inL (wtL Ls x.want[j]) x.token := fun x hx j hj hjl => seen_iff HNI.out HNT.out HLO.out (hx ▸ hm) hj hjl
          have hbad : seatV Ls (Xs[k]'hlt).token (Xs[k]'hlt).got.toNat (Xs[k]'hlt).want = false → false = r := fun h => by
            rw [HRR.out]
            exact (List.all_eq_false.2 ⟨_, hm, by rw [h]; simp⟩).symm
          have hgood : seatV Ls (Xs[k]'hlt).token (Xs[k]'hlt).got.toNat (Xs[k]'hlt).want = true → (Xs.take (k + 1)).all (fun x => seatV Ls x.token x.got.toNat x.want) = true := fun h => by
            rw [List.take_succ_eq_append_getElem hlt, List.all_append, HAL.out]
            simp [h]
          obtain ⟨⟨tk, ta, wo, un, du, go, xa, xc, xw⟩, hx⟩ : ∃ x, Xs[k]'hlt = x := ⟨_, rfl⟩
          rw [hx] at p0 p1 p2 p3 p4 p5 p6 h64 hw64 hxi hxw hrw hg0 hg1 hbad hgood
          replace hsi := hsi _ hx
          simp only at p0 p1 p2 p3 p4 p5 h64 hw64 hxw hg0 hg1 hbad hgood hsi
          change _ = some (Value.slice xa xw.length xc) at p6
          replace hxi : IntsAt W (.slice xa xw.length xc) xw := hxi
          obtain ⟨j, rfl⟩ : ∃ j : Nat, go = (j : Int) := ⟨go.toNat, by omega⟩
          rw [Int.toNat_natCast] at hbad hgood
          obtain ⟨a', c', ec, hcap, _⟩ := IntsAt.rows hxi
          cases ec
          obtain ⟨n, hn⟩ : ∃ n, xw.length = n := ⟨_, rfl⟩
          rw [hn] at p6 hxi hxw hg1 hcap
          have HN := Lib.hid hn
          have HSI := Lib.hid hsi
          have HBAD := Lib.hid hbad
          have HGOOD := Lib.hid hgood
          have HXI := Lib.hid hxi
          have HXN := Lib.hid hxw
          have H64 := Lib.hid h64
          have HW64 := Lib.hid hw64
          have HJ := Lib.hid (show j ≤ n by omega)
          have j0 : (0 : Int) ≤ (j : Int) := by omega
          have jc : j ≤ xc := by omega
          have j2 : (j : Int) ≤ 1000 := by omega
          have hbx := (Below.refl wr.heap.size wr).alloc (Nat.le_refl _) (.cells #[.int .i64 tk, .int .i64 ta, .int .i64 wo, .int .i64 un, .int .i64 du, .int .i64 (j : Int), .slice xa n xc] 43)
          have hX := Blk.new wr [.int .i64 tk, .int .i64 ta, .int .i64 wo, .int .i64 un, .int .i64 du, .int .i64 (j : Int), .slice xa n xc] 43
          have HB3 := Lib.hid (HB2.out.trans (hbx.mono HB2.out.size))
          clear hk hkx hlt hm h64 hw64 hxi hxw hrw hg0 hg1 hsi hbad hgood hx hn hcap hbx
          go_upto_region 16 with fail
          generalize wr.alloc (.cells #[.int .i64 tk, .int .i64 ta, .int .i64 wo, .int .i64 un, .int .i64 du, .int .i64 (j : Int), .slice xa n xc] 43) = w3 at *
          generalize wr.heap.size = bx at *
          replace hX : Blk w3 bx [.int .i64 tk, .int .i64 ta, .int .i64 wo, .int .i64 un, .int .i64 du, .int .i64 (j : Int), .slice xa n xc] := hX
          have HXB := Lib.hid hX
          have x5 := hX.cell 5 rfl
          have x6 := hX.cell 6 rfl
          clear hX p0 p1 p2 p3 p4 p5 p6
          go_wp2
          clear x5 x6
          have hb3 := Below.refl w3.heap.size w3
          go_loopg [51] j (fun ix iv ws => ∃ (i : Nat), i ≤ j ∧ j - i ≤ ix ∧ iv = .int .i64 i ∧ Hid ((xw.take i).all (fun id => hdL Ls id == tk) = true) ∧ Below w3.heap.size w3 ws)
          case atStart => exact ⟨0, Nat.zero_le _, Nat.le_refl _, rfl, rfl, hb3⟩
          case round =>
            clear hb3
            obtain ⟨i, hi, hix, rfl, HAI, hb4⟩ := hrel
            have HB4 := Lib.hid (HB3.out.trans (hb4.mono HB3.out.size))
            have HXB4 := Lib.hid (HXB.out.kept hb4)
            by_cases hit : i < j
            · have HIT := Lib.hid (And.intro hit hix)
              have i0 : (0 : Int) ≤ (i : Int) := by omega
              have i1 : (i : Int) < (j : Int) := by omega
              have i2 : (i : Int) < (n : Int) := by have := HJ.out; omega
              have hil : i < xw.length := by rw [HN.out]; have := HJ.out; omega
              obtain ⟨g2, o2, c2, e2, z0, z1, m0⟩ := (HXI.out.below (HB.out.trans (HB4.out.mono HB.out.size))).spot i hil
              rw [HN.out] at e2
              cases e2
              clear z0 z1
              have hid64 := HW64.out _ (List.getElem_mem hil)
              have hsn := List.take_succ_eq_append_getElem hil
              have hbad : (hdL Ls (xw[i]'hil) == tk) = false → false = r := fun h => HBAD.out (by
                unfold seatV
                rw [all_take_not hit hil h, Bool.false_and])
              obtain ⟨id, hid⟩ : ∃ id, xw[i]'hil = id := ⟨_, rfl⟩
              rw [hid] at m0 hid64 hsn hbad
              have hlk := MapI.look1 (HI.out.kept HB4.out) hid64
              rw [hG_hd] at hlk
              have x0 := HXB4.out.cell 0 rfl
              have HB5 := Lib.hid hb4
              by_cases he : hdL Ls id = tk
              · have HAN := Lib.hid (show (xw.take (i + 1)).all (fun id => hdL Ls id == tk) = true by
                  rw [hsn, List.all_append, HAI.out]
                  simp [he])
                rw [he] at hlk
                clear hi hix hit hil hid64 hsn hbad hid he hb4
                go_wp2
                go_roundg (j - (i + 1))
                case measure => have := HIT.out; omega
                case rel => exact ⟨i + 1, by have := HIT.out; omega, Nat.le_refl _, by go_num, HAN.out, HB5.out⟩
              · have HF := Lib.hid (hbad (beq_noI he))
                have he2 : (hdL Ls id == tk) = false := beq_noI he
                generalize hdL Ls id = hd at *
                clear hi hix hit hil hid64 hsn hbad hid hb4
                go_wp2
                go_ret
                exact ⟨ret_b HF.out, HB.out.trans (HB4.out.mono HB.out.size)⟩
            · have hij : i = j := by omega
              subst hij
              have i1 : ¬ (i : Int) < (i : Int) := by omega
              have hx4 := HXB4.out
              have x0 := hx4.cell 0 rfl
              have x1 := hx4.cell 1 rfl
              have x2 := hx4.cell 2 rfl
              have x3 := hx4.cell 3 rfl
              have x4 := hx4.cell 4 rfl
              have x5 := hx4.cell 5 rfl
              have x6 := hx4.cell 6 rfl
              have GW := Lib.hid (pWaiting_any tk ta wo un du (i : Int) xa n xc wr)
              have hlk := fun (w' : World) (h : Below wr.heap.size wr w') => MapB.look1 ((HS.out.kept HB4.out).kept h) H64.out
              simp only [seenG_at] at hlk
              have HLK := Lib.hid hlk
              clear hi hix hit hx4 hb4 hlk
              by_cases hin : i = n
              · have hq : (decide ((0 : Int) ≤ (i : Int)) && decide ((i : Int) < (n : Int))) = false := by rw [decide_eq_false (show ¬ (i : Int) < (n : Int) by omega), Bool.and_false]
                rw [hq] at GW
                have HG := Lib.hid (HGOOD.out (by
                  unfold seatV
                  rw [HAI.out, decide_eq_true (hin.trans HN.out.symm)]
                  rfl))
                clear hq hin
                go_wp2_with (go_at_call 61; (with_reducible refine GW.out.mono ?_); rintro e w5 ⟨rfl, b5⟩; have HB6 := Lib.hid (HB4.out.trans (b5.mono HB4.out.size)); clear b5)
                go_roundg (Xs.length - (k + 1))
                case measure => have := HLT.out; omega
                case rel => exact ⟨k + 1, by have := HLT.out; omega, Nat.le_refl _, by go_num, HG.out, HB6.out⟩
              · have hil : i < xw.length := by rw [HN.out]; have := HJ.out; omega
                have hq : (decide ((0 : Int) ≤ (i : Int)) && decide ((i : Int) < (n : Int))) = true := by rw [decide_eq_true (show (0 : Int) ≤ (i : Int) by omega), decide_eq_true (show (i : Int) < (n : Int) by have := HJ.out; omega)]; rfl
                rw [hq] at GW
                have hsi := HSI.out i rfl hil
                have hsv : seatV Ls tk i xw = decide (tk ∈ waitsOf Ls) := by
                  unfold seatV
                  rw [HAI.out, decide_eq_false (by rw [HN.out]; exact hin), List.getElem?_eq_getElem hil, hsi]
                  rfl
                obtain ⟨b, hb⟩ : ∃ b, decide (tk ∈ waitsOf Ls) = b := ⟨_, rfl⟩
                rw [hb] at hsv
                simp only [hb] at HLK
                have HSV := Lib.hid hsv
                clear hq hin hil hsi hsv hb
                cases b with
                | true =>
                  have HG := Lib.hid (HGOOD.out HSV.out)
                  go_wp2_with (go_at_call 61; (with_reducible refine GW.out.mono ?_); rintro e w5 ⟨rfl, b5⟩; have HB6 := Lib.hid (HB4.out.trans (b5.mono HB4.out.size)); have y0 := (HXB4.out.kept b5).cell 0 rfl; have hlk := HLK.out _ b5; clear b5)
                  clear hlk y0
                  go_roundg (Xs.length - (k + 1))
                  case measure => have := HLT.out; omega
                  case rel => exact ⟨k + 1, by have := HLT.out; omega, Nat.le_refl _, by go_num, HG.out, HB6.out⟩
                | false =>
                  have HF := Lib.hid (HBAD.out HSV.out)
                  go_wp2_with (go_at_call 61; (with_reducible refine GW.out.mono ?_); rintro e w5 ⟨rfl, b5⟩; have HB6 := Lib.hid (HB4.out.trans (b5.mono HB4.out.size)); have y0 := (HXB4.out.kept b5).cell 0 rfl; have hlk := HLK.out _ b5; clear b5)
                  go_ret
                  exact ⟨ret_b HF.out, HB.out.trans (HB6.out.mono HB.out.size)⟩
        · have k1 : ¬ (k : Int) < (Xs.length : Int) := by omega
          have HF := Lib.hid (show true = r by
            rw [HRR.out, ← HAL.out, List.take_of_length_le (by omega)])
          clear hk hkx hlt
          go_wp2
          go_ret
          exact ⟨ret_b HF.out, HBW.out⟩
end Go.Proofs.YtjmgokjljmmmgaaGreat
/- Stage 21's program: Right. -/
namespace Go.Proofs.YtjmgokjljmmmgaaGreat
open Go.RowKit Go.Maps

set_option maxHeartbeats 8000000 in
set_option maxRecDepth 100000 in
theorem pRight_any (vx vl : Value) (Xs : List Le) (Ls : List Lr) (W : World) (hx : LeasesAt W vx Xs) (hl : LocksAt W vl Ls) (hxl : Xs.length ≤ 1000) (hll : Ls.length ≤ 1000) (hxw : ∀ x ∈ Xs, x.want.length ≤ 1000) (hlw : ∀ x ∈ Ls, x.wait.length ≤ 1000) (hx64 : ∀ x ∈ Xs, I64 x.token ∧ ∀ t ∈ x.want, I64 t) (hl64 : ∀ x ∈ Ls, I64 x.id ∧ I64 x.holder ∧ ∀ t ∈ x.wait, I64 t) :
    Calls Tryz.prog 13 #[vx, vl] W fun e w' => e = .returned (.bool (rightW Xs Ls)) ∧ Below W.heap.size W w' := by
  obtain ⟨r, hr⟩ : ∃ r, rightW Xs Ls = r := ⟨_, rfl⟩
  rw [hr]
  have hrr : r = (rightB (idsL Ls) && (lesW 0 Xs && (seatsW Xs Ls && locksW Xs Ls))) := hr.symm
  have HI := Lib.hid (pIdsRise_any vl Ls W hl.rows hll)
  have HM := Lib.hid fun w' (hb : Below W.heap.size W w') => pMayBe_any vx Xs w' ⟨RowsAt.kept hx.rows hb, fun y hy => (hx.each y hy).below hb⟩ hxl hxw
  cases h1 : rightB (idsL Ls) with
  | false =>
    rw [h1, Bool.false_and] at hrr
    rw [h1] at HI
    subst hrr
    clear hr hx hl hxl hll hxw hlw hx64 hl64 h1 HM
    go_enter Tryz.func13, Tryz.ntmps13
    go_wp2_with (go_at_call 38; (with_reducible refine HI.out.mono ?_); rintro e w1 ⟨rfl, b1⟩; have HB1 := Lib.hid b1; clear b1)
    go_ret
    exact ⟨rfl, HB1.out⟩
  | true =>
    rw [h1, Bool.true_and] at hrr
    rw [h1] at HI
    cases h2 : lesW 0 Xs with
    | false =>
      rw [h2, Bool.false_and] at hrr
      simp only [h2] at HM
      subst hrr
      clear hr hx hl hxl hll hxw hlw hx64 hl64 h1 h2
      go_enter Tryz.func13, Tryz.ntmps13
      go_wp2_with (first
        | (go_at_call 38; (with_reducible refine HI.out.mono ?_); rintro e w1 ⟨rfl, b1⟩; have HB1 := Lib.hid b1; clear b1)
        | (go_at_call 39; (with_reducible refine (HM.out _ HB1.out).mono ?_); rintro e w2 ⟨rfl, b2⟩; have HB2 := Lib.hid (HB1.out.trans (b2.mono HB1.out.size)); clear b2))
      go_ret
      exact ⟨rfl, HB2.out⟩
    | true =>
      rw [h2, Bool.true_and] at hrr
      simp only [h2] at HM
      have HK := Lib.hid fun w' (hb : Below W.heap.size W w') => pLocksFit_any vx vl Xs Ls w' ⟨RowsAt.kept hx.rows hb, fun y hy => (hx.each y hy).below hb⟩ (hl.below hb) h2 h1 hxl hll hxw hlw (fun x h => (hx64 x h).1) (fun x h => (hl64 x h).2)
      cases h3 : locksW Xs Ls with
      | false =>
        rw [h3, Bool.and_false] at hrr
        simp only [h3] at HK
        subst hrr
        clear hr hx hl hxl hll hxw hlw hx64 hl64 h1 h2 h3
        go_enter Tryz.func13, Tryz.ntmps13
        go_wp2_with (first
          | (go_at_call 38; (with_reducible refine HI.out.mono ?_); rintro e w1 ⟨rfl, b1⟩; have HB1 := Lib.hid b1; clear b1)
          | (go_at_call 39; (with_reducible refine (HM.out _ HB1.out).mono ?_); rintro e w2 ⟨rfl, b2⟩; have HB2 := Lib.hid (HB1.out.trans (b2.mono HB1.out.size)); clear b2)
          | (go_at_call 40; (with_reducible refine (HK.out _ HB2.out).mono ?_); rintro e w3 ⟨rfl, b3⟩; have HB3 := Lib.hid (HB2.out.trans (b3.mono HB2.out.size)); clear b3))
        go_ret
        exact ⟨rfl, HB3.out⟩
      | true =>
        rw [h3, Bool.and_true] at hrr
        simp only [h3] at HK
        have HS := Lib.hid fun w' (hb : Below W.heap.size W w') => pLeasesFit_any vx vl Xs Ls w' ⟨RowsAt.kept hx.rows hb, fun y hy => (hx.each y hy).below hb⟩ (hl.below hb) h2 h1 h3 hxl hll hxw hlw hx64 hl64
        simp only [← hrr] at HS
        clear hr hx hl hxl hll hxw hlw hx64 hl64 h1 h2 h3 hrr
        go_enter Tryz.func13, Tryz.ntmps13
        go_wp2_with (first
          | (go_at_call 38; (with_reducible refine HI.out.mono ?_); rintro e w1 ⟨rfl, b1⟩; have HB1 := Lib.hid b1; clear b1)
          | (go_at_call 39; (with_reducible refine (HM.out _ HB1.out).mono ?_); rintro e w2 ⟨rfl, b2⟩; have HB2 := Lib.hid (HB1.out.trans (b2.mono HB1.out.size)); clear b2)
          | (go_at_call 40; (with_reducible refine (HK.out _ HB2.out).mono ?_); rintro e w3 ⟨rfl, b3⟩; have HB3 := Lib.hid (HB2.out.trans (b3.mono HB2.out.size)); clear b3)
          | (go_at_call 41; (with_reducible refine (HS.out _ HB3.out).mono ?_); rintro e w4 ⟨rfl, b4⟩; have HB4 := Lib.hid (HB3.out.trans (b4.mono HB3.out.size)); clear b4))
        go_ret
        exact ⟨rfl, HB4.out⟩
end Go.Proofs.YtjmgokjljmmmgaaGreat
/- Stage 21's program: awaitedAmong: a function that tells which lock a lease waits for. -/
namespace Go.Proofs.YtjmgokjljmmmgaaGreat
open Go.RowKit Go.Maps

def lrhW (x : Lr) : Kh := ⟨x.id, x.holder, ⟨x.a, x.wait.length, x.c⟩⟩
def firstG (Ls : List Lr) : Int → Option Kh := fun id => (lkF Ls id).map lrhW
theorem lkF_old {Ps : List Lr} {x : Lr} (h : x.id ∈ idsL Ps) : firstG (Ps ++ [x]) = firstG Ps := by
  funext id
  unfold firstG lkF
  rw [List.find?_append]
  by_cases e : x.id = id
  · subst e
    obtain ⟨k, hk, _⟩ := lkF_in h
    unfold lkF at hk
    rw [hk]
    rfl
  · rw [List.find?_cons_of_neg (by simpa using e)]
    simp
theorem lkF_new {Ps : List Lr} {x : Lr} (h : x.id ∉ idsL Ps) : updG (firstG Ps) x.id (some (lrhW x)) = firstG (Ps ++ [x]) := by
  funext id
  unfold firstG lkF
  rw [List.find?_append]
  by_cases e : id = x.id
  · subst e
    have := lkF_none h
    unfold lkF at this
    rw [updG_same, this]
    simp
  · rw [updG_other _ _ e, List.find?_cons_of_neg (by simpa using fun h => e h.symm)]
    simp
theorem firstG_is (Ps : List Lr) (id : Int) : (firstG Ps id).isSome = decide (id ∈ idsL Ps) := by
  unfold firstG
  by_cases h : id ∈ idsL Ps
  · obtain ⟨k, hk, _⟩ := lkF_in h
    rw [hk, decide_eq_true h]
    rfl
  · rw [lkF_none h, decide_eq_false h]
    rfl
theorem blkOf {w : World} {b : Nat} {vs : List Value} {t : TypeId} (hh : w.heap[b]? = some (.cells vs.toArray t)) : Blk w b vs := fun j u hu =>
  ⟨by unfold World.cell?; simp only [hh]; simpa using hu, by unfold World.frozen?; simp only [hh]; simp⟩
set_option maxHeartbeats 8000000 in
set_option maxRecDepth 100000 in
theorem pAwt1_any (x : Le) (Ls : List Lr) (b mb m : Nat) (w : World) (hB : Blk w b [.map (some mb)]) (hM : MapK w mb m (firstG Ls)) (hi : IntsAt w (.slice x.a x.want.length x.c) x.want) (hw : x.want.length ≤ 1000) (h64 : ∀ t ∈ x.want, I64 t) :
    Calls Tryz.prog 68 #[lv7 x.token x.task x.worker x.unit x.due x.got (.slice x.a x.want.length x.c), .pointer (some ⟨b, 0, none⟩)] w fun e w' => e = .returned (.tuple #[khv (((awX Ls x).map lrhW).getD kh0), .bool (awX Ls x).isSome]) ∧ Below w.heap.size w w' := by
  have hrr : awX Ls x = (nxX x).bind (lkF Ls) := rfl
  have hnone := fun h => nxX_none (x := x) h
  have hat := fun h0 h1 => nxX_at (x := x) h0 h1
  obtain ⟨r, hr⟩ : ∃ r, awX Ls x = r := ⟨_, rfl⟩
  obtain ⟨nx, hnx⟩ : ∃ nx, nxX x = nx := ⟨_, rfl⟩
  rw [hr, hnx] at hrr
  rw [hr]
  simp only [hnx] at hnone hat
  clear hr hnx
  obtain ⟨tk, ta, wo, un, du, go, xa, xc, xw⟩ := x
  simp only at hi hw h64 hnone hat ⊢
  obtain ⟨n, hn⟩ : ∃ n, xw.length = n := ⟨_, rfl⟩
  rw [hn] at hi hw hnone ⊢
  have hb1 := (Below.refl w.heap.size w).alloc (Nat.le_refl _) (.cells #[.int .i64 tk, .int .i64 ta, .int .i64 wo, .int .i64 un, .int .i64 du, .int .i64 go, .slice xa n xc] 43)
  have hX := Blk.new w [.int .i64 tk, .int .i64 ta, .int .i64 wo, .int .i64 un, .int .i64 du, .int .i64 go, .slice xa n xc] 43
  have hz1 : (w.alloc (.cells #[.int .i64 tk, .int .i64 ta, .int .i64 wo, .int .i64 un, .int .i64 du, .int .i64 go, .slice xa n xc] 43)).heap.size = w.heap.size + 1 := by simp
  obtain ⟨w1, hw1⟩ : ∃ w1, w.alloc (.cells #[.int .i64 tk, .int .i64 ta, .int .i64 wo, .int .i64 un, .int .i64 du, .int .i64 go, .slice xa n xc] 43) = w1 := ⟨_, rfl⟩
  replace hX : Blk w1 w.heap.size [.int .i64 tk, .int .i64 ta, .int .i64 wo, .int .i64 un, .int .i64 du, .int .i64 go, .slice xa n xc] := by rw [← hw1]; exact hX
  rw [hw1] at hb1 hz1
  have hb2 := (Below.refl w1.heap.size w1).alloc (Nat.le_refl _) (.cells #[.int .i64 0, .int .i64 0, .slice none 0 0] 50)
  have hY := Blk.new w1 [.int .i64 0, .int .i64 0, .slice none 0 0] 50
  rw [hz1] at hY
  have hX2 := hX.kept hb2
  have hB2 := hb1.trans (hb2.mono hb1.size)
  have HBK := Lib.hid (hB.kept hB2)
  have HMK := Lib.hid (MapG.kept hM hB2)
  have HIK := Lib.hid (hi.below hB2)
  have GW := Lib.hid fun w' => pWaiting_any tk ta wo un du go xa n xc w'
  have HB := Lib.hid hB2
  have hx0 := hX2.cell 0 rfl
  have hx1 := hX2.cell 1 rfl
  have hx2 := hX2.cell 2 rfl
  have hx3 := hX2.cell 3 rfl
  have hx4 := hX2.cell 4 rfl
  have hx5 := hX2.cell 5 rfl
  have hx6 := hX2.cell 6 rfl
  have HX := Lib.hid hX2
  have HY := Lib.hid hY
  clear hX hX2 hY hB2 hb1 hb2 hz1 hB hM hi
  by_cases h : 0 ≤ go ∧ go < (n : Int)
  · have hjl : go.toNat < xw.length := by omega
    have hx := hat h.1 (by rw [hn]; exact h.2)
    have hg64 := h64 _ (List.getElem_mem hjl)
    obtain ⟨g2, o2, c2, e2, z0, z1, m0⟩ := HIK.out.spot go.toNat hjl
    obtain ⟨id, hid⟩ : ∃ id, xw[go.toNat]'hjl = id := ⟨_, rfl⟩
    rw [hid] at hx hg64 m0
    rw [hn] at e2
    cases e2
    have HM0 := Lib.hid m0
    have hlk := fun w' (hb : Below (w1.alloc (.cells #[.int .i64 0, .int .i64 0, .slice none 0 0] 50)).heap.size (w1.alloc (.cells #[.int .i64 0, .int .i64 0, .slice none 0 0] 50)) w') => MapK.look (MapG.kept HMK.out hb) hg64
    have hrs : r = lkF Ls id := by rw [hrr, hx]; rfl
    subst hrs
    have he : firstG Ls id = (lkF Ls id).map lrhW := rfl
    simp only [he, Option.isSome_map] at hlk
    obtain ⟨y, hy⟩ : ∃ y, ((lkF Ls id).map lrhW).getD kh0 = y := ⟨_, rfl⟩
    obtain ⟨q, hq2⟩ : ∃ q, (lkF Ls id).isSome = q := ⟨_, rfl⟩
    simp only [hy, hq2] at hlk ⊢
    obtain ⟨y1, y2, ⟨ya, yn, yc⟩⟩ := y
    replace hlk : ∀ w', Below (w1.alloc (.cells #[.int .i64 0, .int .i64 0, .slice none 0 0] 50)).heap.size (w1.alloc (.cells #[.int .i64 0, .int .i64 0, .slice none 0 0] 50)) w' → (Instr.lookup 112 (.map (some mb)) (.int .i64 id) true).run Tryz.prog w' = .ok (.tuple #[.agg #[.int .i64 y1, .int .i64 y2, .slice ya yn yc], .bool q]) w' := hlk
    have HLK := Lib.hid hlk
    show Calls _ _ _ _ fun e w' => e = .returned (.tuple #[.agg #[.int .i64 y1, .int .i64 y2, .slice ya yn yc], .bool q]) ∧ _
    obtain ⟨j, rfl⟩ : ∃ j : Nat, go = (j : Int) := ⟨go.toNat, by omega⟩
    rw [Int.toNat_natCast] at HM0
    have hq : (decide ((0 : Int) ≤ (j : Int)) && decide ((j : Int) < (n : Int))) = true := by rw [decide_eq_true h.1, decide_eq_true h.2]; rfl
    rw [hq] at GW
    have j0 : (0 : Int) ≤ (j : Int) := by omega
    have j1 : (j : Int) < (n : Int) := h.2
    have j2 : (j : Int) ≤ 1000 := by omega
    subst hw1
    clear hjl h hx hg64 z0 z1 hid m0 hlk hrr he hy hq2 hnone hat h64 hn hw hq HIK HMK
    go_enter Tryz.func68, Tryz.ntmps68
    go_upto_region 1 with fail
    generalize (w.alloc (.cells #[.int .i64 tk, .int .i64 ta, .int .i64 wo, .int .i64 un, .int .i64 du, .int .i64 (j : Int), .slice (some ⟨g2, o2, none⟩) n xc] 43)).alloc (.cells #[.int .i64 0, .int .i64 0, .slice none 0 0] 50) = w2 at *
    go_upto_region 3 with (go_at_call 61; (with_reducible refine (GW.out _).mono ?_); rintro e w3 ⟨rfl, b3⟩; have HB3 := Lib.hid b3; clear b3)
    have HY3 := Lib.hid (HY.out.kept HB3.out)
    clear hx0 hx1 hx2 hx3 hx4 hx5 hx6
    have hP0 := Blk.new w3 [.int .i64 0, .int .i64 0, .slice none 0 0] 50
    have hbA : Below w3.heap.size w3 w3 := (Below.refl w3.heap.size w3)
    have c0A := ((HBK.out.kept HB3.out).kept hbA).cell 0 rfl
    have x5A := ((HX.out.kept HB3.out).kept hbA).cell 5 rfl
    have x6A := ((HX.out.kept HB3.out).kept hbA).cell 6 rfl
    have m0A := ((HB3.out.trans (hbA.mono HB3.out.size)).cell (World.block_lt_of_cell? _ _ HM0.out)).trans HM0.out
    have flA := HLK.out _ (HB3.out.trans (hbA.mono HB3.out.size))
    have hbB : Below w3.heap.size w3 w3.drew := (Below.refl w3.heap.size w3).drew
    have c0B := ((HBK.out.kept HB3.out).kept hbB).cell 0 rfl
    have x5B := ((HX.out.kept HB3.out).kept hbB).cell 5 rfl
    have x6B := ((HX.out.kept HB3.out).kept hbB).cell 6 rfl
    have m0B := ((HB3.out.trans (hbB.mono HB3.out.size)).cell (World.block_lt_of_cell? _ _ HM0.out)).trans HM0.out
    have flB := HLK.out _ (HB3.out.trans (hbB.mono HB3.out.size))
    have hbC : Below w3.heap.size w3 (w3.alloc (.cells #[.int .i64 0, .int .i64 0, .slice none 0 0] 50)) := ((Below.refl w3.heap.size w3).alloc (Nat.le_refl _) (.cells #[.int .i64 0, .int .i64 0, .slice none 0 0] 50))
    have c0C := ((HBK.out.kept HB3.out).kept hbC).cell 0 rfl
    have x5C := ((HX.out.kept HB3.out).kept hbC).cell 5 rfl
    have x6C := ((HX.out.kept HB3.out).kept hbC).cell 6 rfl
    have m0C := ((HB3.out.trans (hbC.mono HB3.out.size)).cell (World.block_lt_of_cell? _ _ HM0.out)).trans HM0.out
    have flC := HLK.out _ (HB3.out.trans (hbC.mono HB3.out.size))
    have hbD : Below w3.heap.size w3 (w3.alloc (.cells #[.int .i64 0, .int .i64 0, .slice none 0 0] 50)).drew := ((Below.refl w3.heap.size w3).alloc (Nat.le_refl _) (.cells #[.int .i64 0, .int .i64 0, .slice none 0 0] 50)).drew
    have c0D := ((HBK.out.kept HB3.out).kept hbD).cell 0 rfl
    have x5D := ((HX.out.kept HB3.out).kept hbD).cell 5 rfl
    have x6D := ((HX.out.kept HB3.out).kept hbD).cell 6 rfl
    have m0D := ((HB3.out.trans (hbD.mono HB3.out.size)).cell (World.block_lt_of_cell? _ _ HM0.out)).trans HM0.out
    have flD := HLK.out _ (HB3.out.trans (hbD.mono HB3.out.size))
    have hPC : Blk (w3.alloc (.cells #[.int .i64 0, .int .i64 0, .slice none 0 0] 50)) w3.heap.size [.int .i64 0, .int .i64 0, .slice none 0 0] := hP0
    have p0C := hPC.cell 0 rfl
    have z0C := hPC.free 0 rfl
    have p1C := hPC.cell 1 rfl
    have z1C := hPC.free 1 rfl
    have p2C := hPC.cell 2 rfl
    have z2C := hPC.free 2 rfl
    have hPD : Blk (w3.alloc (.cells #[.int .i64 0, .int .i64 0, .slice none 0 0] 50)).drew w3.heap.size [.int .i64 0, .int .i64 0, .slice none 0 0] := hP0
    have p0D := hPD.cell 0 rfl
    have z0D := hPD.free 0 rfl
    have p1D := hPD.cell 1 rfl
    have z1D := hPD.free 1 rfl
    have p2D := hPD.cell 2 rfl
    have z2D := hPD.free 2 rfl
    clear hP0 hbA hbB hbC hbD
    go_cut [5, 6] (fun a5 a6 wx => a5 = .pointer (some ⟨w3.heap.size, 0, none⟩) ∧ a6 = .bool q ∧ Hid (Blk wx w3.heap.size [.int .i64 y1, .int .i64 y2, .slice ya yn yc]) ∧ Below w3.heap.size w3 wx)
    case first =>
      have hbE : Below w3.heap.size w3 (w3.alloc (.cells #[.int .i64 y1, .int .i64 y2, .slice ya yn yc] 50)).drew := ((Below.refl w3.heap.size w3).alloc (Nat.le_refl _) (.cells #[.int .i64 y1, .int .i64 y2, .slice ya yn yc] 50)).drew
      have hPE : Blk (w3.alloc (.cells #[.int .i64 y1, .int .i64 y2, .slice ya yn yc] 50)).drew w3.heap.size [.int .i64 y1, .int .i64 y2, .slice ya yn yc] := Blk.new w3 [.int .i64 y1, .int .i64 y2, .slice ya yn yc] 50
      have HPE := Lib.hid hPE
      clear hPE
      go_region
      all_goals (
        go_wp2
        go_meet
        exact ⟨rfl, rfl, HPE.out, hbE⟩)
    case rest =>
      obtain ⟨rfl, rfl, hP5, hb5⟩ := hcut
      clear c0A x5A x6A m0A flA c0B x5B x6B m0B flB c0C x5C x6C m0C flC c0D x5D x6D m0D flD p0C z0C p1C z1C p2C z2C p0D z0D p1D z1D p2D z2D hPC hPD
      have hP5 := hP5.out
      have hY5 := HY3.out.kept hb5
      have hB5 := HB.out.trans ((HB3.out.trans (hb5.mono HB3.out.size)).mono HB.out.size)
      have q0 := hP5.cell 0 rfl
      have q1 := hP5.cell 1 rfl
      have q2 := hP5.cell 2 rfl
      have c0 := hY5.cell 0 rfl
      have c1 := hY5.cell 1 rfl
      have c2 := hY5.cell 2 rfl
      have z0 := hY5.free 0 rfl
      have z1 := hY5.free 1 rfl
      have z2 := hY5.free 2 rfl
      have hY6 := ((hY5.set 0 (.int .i64 y1)).set 1 (.int .i64 y2)).set 2 (.slice ya yn yc)
      have r0 := hY6.cell 0 rfl
      have r1 := hY6.cell 1 rfl
      have r2 := hY6.cell 2 rfl
      have HB6 := Lib.hid (((hB5.setCell (p := ⟨w.heap.size + 1, 0, none⟩) (by simp) (.int .i64 y1)).setCell (p := ⟨w.heap.size + 1, 1, none⟩) (by simp) (.int .i64 y2)).setCell (p := ⟨w.heap.size + 1, 2, none⟩) (by simp) (.slice ya yn yc))
      clear hP5 hY5 hY6 hB5 hb5
      go_wp2
      exact bodyPost_ret (v := .tuple #[.agg #[.int .i64 y1, .int .i64 y2, .slice ya yn yc], .bool q]) (by simp [results, Tryz.results68, go_sem, r0, r1, r2]) rfl ⟨rfl, HB6.out⟩
  · have hx := hnone h
    subst hx
    have hq : (decide (0 ≤ go) && decide (go < (n : Int))) = false := by
      rw [Bool.eq_false_iff]
      intro h2
      rw [Bool.and_eq_true, decide_eq_true_eq, decide_eq_true_eq] at h2
      exact h h2
    rw [hq] at GW
    have hrs : r = none := hrr
    subst hrs
    show Calls _ _ _ _ fun e w' => e = .returned (.tuple #[.agg #[.int .i64 0, .int .i64 0, .slice none 0 0], .bool false]) ∧ _
    subst hw1
    clear h hat hnone h64 hq hrr HIK HMK hn hw
    go_enter Tryz.func68, Tryz.ntmps68
    go_upto_region 1 with fail
    generalize (w.alloc (.cells #[.int .i64 tk, .int .i64 ta, .int .i64 wo, .int .i64 un, .int .i64 du, .int .i64 go, .slice xa n xc] 43)).alloc (.cells #[.int .i64 0, .int .i64 0, .slice none 0 0] 50) = w2 at *
    go_upto_region 2 with (go_at_call 61; (with_reducible refine (GW.out _).mono ?_); rintro e w3 ⟨rfl, b3⟩; have HB3 := Lib.hid b3; clear b3)
    clear hx0 hx1 hx2 hx3 hx4 hx5 hx6
    have hY3 := HY.out.kept HB3.out
    have c0 := hY3.cell 0 rfl
    have c1 := hY3.cell 1 rfl
    have c2 := hY3.cell 2 rfl
    have z0 := hY3.free 0 rfl
    have z1 := hY3.free 1 rfl
    have z2 := hY3.free 2 rfl
    have hY6 := ((hY3.set 0 (.int .i64 0)).set 1 (.int .i64 0)).set 2 (.slice none 0 0)
    have r0 := hY6.cell 0 rfl
    have r1 := hY6.cell 1 rfl
    have r2 := hY6.cell 2 rfl
    have HB6 := Lib.hid ((((HB.out.trans (HB3.out.mono HB.out.size)).setCell (p := ⟨w.heap.size + 1, 0, none⟩) (by simp) (.int .i64 0)).setCell (p := ⟨w.heap.size + 1, 1, none⟩) (by simp) (.int .i64 0)).setCell (p := ⟨w.heap.size + 1, 2, none⟩) (by simp) (.slice none 0 0))
    clear hY3 hY6
    go_wp2
    exact bodyPost_ret (v := .tuple #[.agg #[.int .i64 0, .int .i64 0, .slice none 0 0], .bool false]) (by simp [results, Tryz.results68, go_sem, r0, r1, r2]) rfl ⟨rfl, HB6.out⟩
end Go.Proofs.YtjmgokjljmmmgaaGreat
/- Stage 21's program: awaitedAmong, Arcs. -/
namespace Go.Proofs.YtjmgokjljmmmgaaGreat
open Go.RowKit Go.Maps

/-- what awaitedAmong leaves behind its function -/
def AwtAt (B : Nat) (w : World) (b : Nat) (Ls : List Lr) : Prop := ∃ mb n, Blk w b [.map (some mb)] ∧ MapK w mb n (firstG Ls) ∧ B ≤ b ∧ B ≤ mb
theorem AwtAt.kept {B b : Nat} {w w' : World} {Ls : List Lr} (h : AwtAt B w b Ls) (hb : Below w.heap.size w w') : AwtAt B w' b Ls := by
  obtain ⟨mb, n, h1, h2, h3, h4⟩ := h
  exact ⟨mb, n, h1.kept hb, MapG.kept h2 hb, h3, h4⟩
theorem pAwtC_any {B b : Nat} {w : World} {Ls : List Lr} (h : AwtAt B w b Ls) (x : Le) (hi : IntsAt w (.slice x.a x.want.length x.c) x.want) (hw : x.want.length ≤ 1000) (h64 : ∀ t ∈ x.want, I64 t) :
    Calls Tryz.prog 68 #[lv7 x.token x.task x.worker x.unit x.due x.got (.slice x.a x.want.length x.c), .pointer (some ⟨b, 0, none⟩)] w fun e w' => e = .returned (.tuple #[khv (((awX Ls x).map lrhW).getD kh0), .bool (awX Ls x).isSome]) ∧ Below w.heap.size w w' := by
  obtain ⟨mb, n, h1, h2, _⟩ := h
  exact pAwt1_any x Ls b mb n w h1 h2 hi hw h64
set_option maxHeartbeats 8000000 in
set_option maxRecDepth 100000 in
theorem pAwaited_any (vl : Value) (Ls : List Lr) (W : World) (hl : RowsAt W 3 csL vl Ls) (hll : Ls.length ≤ 1000) (h64 : ∀ x ∈ Ls, I64 x.id) :
    Calls Tryz.prog 45 #[vl] W fun e w' => ∃ b, e = .returned (.func (.func 68) #[] #[.pointer (some ⟨b, 0, none⟩)]) ∧ AwtAt W.heap.size w' b Ls ∧ Below W.heap.size W w' := by
  have hmf : ∀ (fn : Fn) (first cap : Array Value) (w : World), (Instr.makeFunc fn first cap).run Tryz.prog w = .ok (.func fn first cap) w := fun _ _ _ _ => rfl
  have HL := Lib.hid hl
  have HLL := Lib.hid hll
  have H64 := Lib.hid h64
  obtain ⟨al, cl, rfl⟩ := RowsAt.form hl
  obtain ⟨P, hP⟩ : ∃ P : World → Nat → Prop, (fun w b => AwtAt W.heap.size w b Ls) = P := ⟨_, rfl⟩
  have HP := Lib.hid (show ∀ w b, AwtAt W.heap.size w b Ls → P w b from fun w b h => by rw [← hP]; exact h)
  suffices hs : Calls Tryz.prog 45 #[.slice al Ls.length cl] W fun e w' => ∃ b, e = .returned (.func (.func 68) #[] #[.pointer (some ⟨b, 0, none⟩)]) ∧ P w' b ∧ Below W.heap.size W w' by
    rw [← hP] at hs
    exact hs
  have hmk : (Instr.makeMap 112 none).run Tryz.prog W = .ok (.map (some W.heap.size)) (W.alloc (.map #[] 0)) := by kernel_rfl
  have hz : (W.alloc (.map #[] 0)).heap.size = W.heap.size + 1 := by simp
  have hal1 := (Below.refl W.heap.size W).alloc (Nat.le_refl _) (.map #[] 0)
  have hal2 := (Below.refl (W.alloc (.map #[] 0)).heap.size (W.alloc (.map #[] 0))).alloc (Nat.le_refl _) (.cells #[.map (some W.heap.size)] 112)
  have hX := Blk.new (W.alloc (.map #[] 0)) [.map (some W.heap.size)] 112
  rw [hz] at hX
  have hm0 := MapG.kept (MapK.new W) hal2
  have hb0 := hal1.trans (hal2.mono hal1.size)
  clear hl hll h64 hP hal1 hal2 hz
  go_enter Tryz.func45, Tryz.ntmps45
  go_wp2
  clear hmk
  generalize (W.alloc (.map #[] 0)).alloc (.cells #[.map (some W.heap.size)] 112) = w1 at *
  replace hX : Blk w1 (W.heap.size + 1) [.map (some W.heap.size)] := hX
  go_loopg [11] Ls.length (fun kx iv ws => ∃ (k m : Nat), k ≤ Ls.length ∧ Ls.length - k ≤ kx ∧ iv = .int .i64 k ∧ Hid (m ≤ k) ∧ Hid (MapK ws W.heap.size m (firstG (Ls.take k))) ∧ Hid (Blk ws (W.heap.size + 1) [.map (some W.heap.size)]) ∧ Hid (Below W.heap.size W ws))
  case atStart => exact ⟨0, 0, Nat.zero_le _, Nat.le_refl _, rfl, Nat.le_refl _, hm0, hX, hb0⟩
  case round =>
    clear hm0 hX hb0
    obtain ⟨k, m, hk, hkx, rfl, HM, HMK, HBK, HB⟩ := hrel
    by_cases hlt : k < Ls.length
    · have HLT := Lib.hid (And.intro hlt hkx)
      have k0 : (0 : Int) ≤ (k : Int) := by omega
      have k1 : (k : Int) < (Ls.length : Int) := by omega
      have k2 : (k : Int) ≤ 1000 := by have := HLL.out; omega
      obtain ⟨g, o, cc, e, z0, z1, p0, p1, p2⟩ := RowsAt.atL (RowsAt.kept HL.out HB.out) k hlt
      cases e
      clear z0 z1
      have hsn : Ls.take (k + 1) = Ls.take k ++ [Ls[k]] := List.take_succ_eq_append_getElem hlt
      have h64 := H64.out _ (List.getElem_mem hlt)
      obtain ⟨x, hx⟩ : ∃ x, Ls[k]'hlt = x := ⟨_, rfl⟩
      rw [hx] at p0 p1 p2 hsn h64
      have hold := fun h => lkF_old (Ps := Ls.take k) (x := x) h
      have hnew := fun h => lkF_new (Ps := Ls.take k) (x := x) h
      rw [← hsn] at hold hnew
      have hbx := (Below.refl wr.heap.size wr).alloc (Nat.le_refl _) (.cells #[.int .i64 x.id, .int .i64 x.holder, .slice x.a x.wait.length x.c] 50)
      have hX := Blk.new wr [.int .i64 x.id, .int .i64 x.holder, .slice x.a x.wait.length x.c] 50
      have hlk := MapK.look (MapG.kept HMK.out hbx) h64
      rw [firstG_is] at hlk
      have hnh : khv (lrhW x) = .agg #[.int .i64 x.id, .int .i64 x.holder, .slice x.a x.wait.length x.c] := rfl
      obtain ⟨q, hq⟩ : ∃ q, decide (x.id ∈ idsL (Ls.take k)) = q := ⟨_, rfl⟩
      rw [hq] at hlk
      obtain ⟨y, hy⟩ : ∃ y, ((firstG (Ls.take k)) x.id).getD kh0 = y := ⟨_, rfl⟩
      rw [hy] at hlk
      obtain ⟨y1, y2, ⟨ya, yn, yc⟩⟩ := y
      have HOLD := Lib.hid (show q = true → firstG (Ls.take (k + 1)) = firstG (Ls.take k) from fun h => hold (of_decide_eq_true (hq.trans h)))
      have HNEW := Lib.hid (show q = false → updG (firstG (Ls.take k)) x.id (some (lrhW x)) = firstG (Ls.take (k + 1)) from fun h => hnew (of_decide_eq_false (hq.trans h)))
      have HX64 := Lib.hid h64
      have HBX := Lib.hid hbx
      obtain ⟨z, hz⟩ : ∃ z, lrhW x = z := ⟨_, rfl⟩
      rw [hz] at HNEW hnh
      obtain ⟨id, hh, xa, xc, xw⟩ := x
      simp only at p0 p1 hX hlk hnh HNEW HX64 HBX
      change _ = some (Value.slice xa xw.length xc) at p2
      replace hlk : (Instr.lookup 112 (.map (some W.heap.size)) (.int .i64 id) true).run Tryz.prog _ = .ok (.tuple #[.agg #[.int .i64 y1, .int .i64 y2, .slice ya yn yc], .bool q]) _ := hlk
      generalize xw.length = xn at *
      have HNH := Lib.hid hnh
      have HXB := Lib.hid hX
      have HBK3 := Lib.hid (HBK.out.kept hbx)
      have HMK3 := Lib.hid (MapG.kept HMK.out hbx)
      have HB3 := Lib.hid (HB.out.trans (hbx.mono HB.out.size))
      clear hk hkx hlt hsn h64 hold hnew hq hy hz hx hnh hbx
      go_upto_region 5 with fail
      generalize wr.alloc (.cells #[.int .i64 id, .int .i64 hh, .slice xa xn xc] 50) = w3 at *
      generalize wr.heap.size = bx at *
      replace hX : Blk w3 bx [.int .i64 id, .int .i64 hh, .slice xa xn xc] := hX
      have x0 := hX.cell 0 rfl
      have c0 := HBK3.out.cell 0 rfl
      have hb4 := (Below.refl w3.heap.size w3).alloc (Nat.le_refl _) (.cells #[.int .i64 y1, .int .i64 y2, .slice ya yn yc] 50)
      have HM4 := Lib.hid (MapG.kept HMK3.out hb4)
      have HBK4 := Lib.hid (HBK3.out.kept hb4)
      have HB4 := Lib.hid (HB3.out.trans (hb4.mono HB3.out.size))
      have HX4 := Lib.hid (HXB.out.kept hb4)
      clear hX p0 p1 p2 hb4
      go_upto_region 6 with fail
      clear x0 c0 hlk
      generalize w3.alloc (.cells #[.int .i64 y1, .int .i64 y2, .slice ya yn yc] 50) = w4 at *
      cases q with
      | true =>
        have hmk := HM4.out
        rw [← HOLD.out rfl] at hmk
        have HM5 := Lib.hid hmk
        clear hmk
        go_wp2
        go_roundg (Ls.length - (k + 1))
        case measure => have := HLT.out; omega
        case rel => exact ⟨k + 1, m, by have := HLT.out; omega, Nat.le_refl _, by go_num, (by show m ≤ k + 1; have := HM.out; omega), HM5.out, HBK4.out, HB4.out⟩
      | false =>
        obtain ⟨w5, hrun, hm5, hg5⟩ := MapK.put HM4.out (by have := HM.out; omega) HX64.out z
        rw [HNEW.out rfl] at hm5
        rw [HNH.out] at hrun
        have HM5 := Lib.hid hm5
        have HBK5 := Lib.hid (Blk.grown HBK4.out hg5 (fun e => by have := Option.some.inj e; omega))
        have HB5 := Lib.hid (HB4.out.grown hg5 HB4.out.size (fun k hk => by rw [← Option.some.inj hk]; exact Nat.le_refl _))
        have HMM := Lib.hid (show (if (firstG (Ls.take k) id).isSome = true then m else m + 1) ≤ k + 1 by have := HM.out; split <;> omega)
        have x0 := HX4.out.cell 0 rfl
        have x1 := HX4.out.cell 1 rfl
        have x2 := HX4.out.cell 2 rfl
        have c0 := HBK4.out.cell 0 rfl
        clear hm5 hg5
        go_wp2
        clear hrun x0 x1 x2 c0
        go_roundg (Ls.length - (k + 1))
        case measure => have := HLT.out; omega
        case rel => exact ⟨k + 1, _, by have := HLT.out; omega, Nat.le_refl _, by go_num, HMM.out, HM5.out, HBK5.out, HB5.out⟩
    · have k1 : ¬ (k : Int) < (Ls.length : Int) := by omega
      have hmk := HMK.out
      rw [show Ls.take k = Ls from List.take_of_length_le (by omega)] at hmk
      have HM2 := Lib.hid hmk
      clear hk hkx hlt hmk HMK
      go_wp2
      go_ret
      exact ⟨_, rfl, HP.out _ _ ⟨_, _, HBK.out, HM2.out, by omega, Nat.le_refl _⟩, HB.out⟩
end Go.Proofs.YtjmgokjljmmmgaaGreat
