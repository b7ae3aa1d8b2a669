/- Texts of this proof, joined: Lks; GraphRefA; App1; RefSet; IdRef; PlanRefE; PlanRefF; PlanRefG; PlanRefH. -/
import Derived.Test.YtmkepmjdckdpgaaBun7
/- Links of a chain (XChain): lists of numbers that a call hands back, answers that are settled. FOR ALL LATER STAGES. -/
namespace Go.Proofs.Ytmkepmjdckdpgaa
open Go.RowKit

/-- a list of numbers somewhere in memory -/
def lkIL (L : List Int) (n : Nat) : Lk := ⟨Option Addr × Nat, ⟨(none, 0)⟩, fun x => .slice x.1 n x.2, fun x w => IntsAt w (.slice x.1 n x.2) L⟩
theorem lkIL_at {P : Program} {o : Oper} {a : Act} {W : World} {G : World → Prop} {L : List Int} {n : Nat} {f : FuncId} {args : Array Value} (hn : n = L.length) (he : ∀ k : In W, (execOp a.eval o).run P k.w = .ok (.enter f args) k.w)
    (hc : ∀ k : In W, Calls P f args k.w fun e w' => ∃ v, e = .returned v ∧ IntsAt w' v L ∧ Below k.w.heap.size k.w w') : (lkIL L n).at P o a W G :=
  ⟨fun _ _ _ h hb => IntsAt.below h hb, fun k _ => by
    subst hn
    rw [he k]
    refine ⟨rfl, (hc k).mono ?_⟩
    rintro e w' ⟨v, rfl, h1, h2⟩
    obtain ⟨b, c, rfl⟩ := h1.form
    exact ⟨(b, c), rfl, h1, h2.mono k.h.size⟩⟩
/-- a call whose answer is settled, over what the link ahead has left -/
theorem lkSure_at {P : Program} {o : Oper} {a : Act} {W : World} {G : World → Prop} {v : Value} {f : FuncId} {args : Array Value} (he : ∀ k : In W, (execOp a.eval o).run P k.w = .ok (.enter f args) k.w)
    (hc : ∀ k : In W, G k.w → Calls P f args k.w fun e w' => e = .returned v ∧ Below k.w.heap.size k.w w') : (Lk.val1 v).at P o a W G :=
  ⟨fun _ _ _ _ _ => trivial, fun k hk => by
    rw [he k]
    refine ⟨rfl, (hc k hk).mono ?_⟩
    rintro e w' ⟨rfl, hb⟩
    exact ⟨(), rfl, trivial, hb.mono k.h.size⟩⟩
/-- two links, the one ahead of the other: asked one way round only (the other way 'beforeB' goes through every path: a great region then outgrows the kernel's memory) -/
theorem chainOf_two {md : Region.Mode} {ops : Array Oper} {i j : Nat} (h : beforeB md ops ops.size i j = true) : chainOf md ops [i, j] = true := by
  simp [chainOf, h]
end Go.Proofs.Ytmkepmjdckdpgaa
/- Stage 16: the document's In, Set, free. -/
namespace Go.Proofs.Ytmkepmjdckdpgaa
open Go.RowKit

def csArc (a : Arc16) : List Value := [.int .i64 a.src, .int .i64 a.dst]
theorem csArc_len (a : Arc16) : (csArc a).length = 2 := rfl
abbrev ArcsAt (w : World) (v : Value) (l : List Arc16) : Prop := RowsAt w 2 csArc v l
theorem ArcsAt.at {w : World} {v : Value} {l : List Arc16} (h : ArcsAt w v l) (k : Nat) (hk : k < l.length) :
    ∃ g o c, v = .slice (some ⟨g, o, none⟩) l.length c ∧ l.length ≤ c ∧ g < w.heap.size ∧ w.cell? ⟨g, o + k * 2, none⟩ = some (.int .i64 l[k].src) ∧ w.cell? ⟨g, o + k * 2 + 1, none⟩ = some (.int .i64 l[k].dst) := by
  obtain ⟨a, c, rfl, hc, hx⟩ := h
  obtain ⟨g, o, rfl, hg, hcell⟩ := hx (by omega)
  exact ⟨g, o, c, rfl, hc, hg, hcell k _ (List.getElem?_eq_getElem hk) 0 _ rfl, hcell k _ (List.getElem?_eq_getElem hk) 1 _ rfl⟩
theorem inL_take (l : List Int) (n : Int) (k : Nat) (hk : k < l.length) (h : l[k] ≠ n) (h0 : n ∉ l.take k) : n ∉ l.take (k + 1) := by
  rw [List.take_succ_eq_append_getElem hk, List.mem_append, List.mem_singleton]
  rintro (h1 | h1)
  · exact h0 h1
  · exact h h1.symm

set_option maxHeartbeats 2000000 in
theorem refIn_any (va : Value) (l : List Int) (n : Int) (W : World) (ha : IntsAt W va l) (hl : l.length ≤ 1000000) :
    Calls Try.prog 30 #[va, .int .i64 n] W fun e w' => e = .returned (.bool (inL l n)) ∧ W = w' := by
  have HA := Lib.hid ha
  obtain ⟨a, c, rfl⟩ := IntsAt.form ha
  clear ha
  go_enter Try.func30, Try.ntmps30
  go_wp2
  go_loopw [5] (fun iv wr => ∃ k : Nat, k ≤ l.length ∧ iv = .int .i64 k ∧ n ∉ l.take k ∧ W = wr) (fun iv _ => l.length - (intOf iv).toNat)
  case atStart => exact ⟨0, by omega, rfl, by simp, rfl⟩
  case round =>
    obtain ⟨k, hk, rfl, hno, rfl⟩ := hrel
    by_cases hlt : k < l.length
    · obtain ⟨g, o, cc, e, hlc, _, p0⟩ := IntsAt.spot HA.out k hlt
      cases e
      have j1 : (k : Int) < (l.length : Int) := by omega
      have j0 : (0 : Int) ≤ (k : Int) := by omega
      by_cases hx : l[k] = n
      · have HIN := Lib.hid (show inL l n = true from decide_eq_true (hx ▸ List.getElem_mem hlt))
        rw [hx] at p0
        clear hx hno hlt
        go_wp2
        go_ret
        exact ⟨ret_b HIN.out.symm, rfl⟩
      · have HNO := Lib.hid (inL_take l n k hlt hx hno)
        have hx2 : (l[k] == n) = false := beq_noI hx
        generalize l[k] = x at *
        clear hx hno hlt
        go_wp2
        go_roundw
        case rel => exact ⟨k + 1, by omega, by go_num, HNO.out, by trivial⟩
        case measure => simp [intOf] <;> omega
    · have hke : k = l.length := by omega
      subst hke
      rw [List.take_length] at hno
      have HIN := Lib.hid (show inL l n = false from decide_eq_false hno)
      clear hno hlt
      go_wp2
      go_ret
      exact ⟨ret_b HIN.out.symm, rfl⟩

end Go.Proofs.Ytmkepmjdckdpgaa
/- One number behind a list of one's own: the builtin's law with all its side conditions met. FOR ALL LATER STAGES. -/
namespace Go.Proofs.Ytmkepmjdckdpgaa
open Go.RowKit

theorem app1 {ops : Array Oper} {rest : List Oper} {o : Oper} {a : Act} {Q : Exit → Act → World → Prop} {B : Nat} {w : World} {n : Int} {v : Value} {l : List Int} (hown : OwnI w B v l) (hB : B ≤ w.heap.size) (hl : l.length ≤ 1000000)
    (hgd : o.guard = none) (s x : Operand) (ho : o.op = .call { callee := .builtin .append, args := #[s, x], argTypes := #[25, 25] }) (hs : a.eval s = v) (hx : a.eval x = .slice (some ⟨w.heap.size, 0, none⟩) 1 1)
    (hK : ∀ v' w', OwnI w' B v' (l ++ [n]) → Below B w w' → wpList Try.prog ops Q rest (a.put o.dst v') w') : wpList Try.prog ops Q (o :: rest) a (w.alloc (.cells #[.int .i64 n] 3)) := by
  obtain ⟨i0, hi, hz0, hz1, hz2⟩ := info_parts info_int
  have ha := (Below.refl B w).alloc hB (.cells #[.int .i64 n] 3)
  have h1 := OwnR.alloc hown (.cells #[.int .i64 n] 3)
  have h2 : B ≤ (w.alloc (.cells #[.int .i64 n] 3)).heap.size := Nat.le_trans hB ha.size
  refine wpList_append_rows csI_len (by decide) csI_one13 hgd s x 25 ho B 3 i0 (.int .i64 0) 8 Try.underlying25 hi hz0 hz1 hz2 rfl v l hs h1 _ [n] hx (oneI13 w n) (by unfold maxLen; simp; omega) (by simp; omega) h2 fun v' w' k1 k2 => ?_
  exact hK v' w' k1 (OwnR.below h1 ha h2 k2)
end Go.Proofs.Ytmkepmjdckdpgaa
/- The document's Set (tallymanref16): the numbers of a list, rising, each once. FOR ALL LATER STAGES. (Written by wip/tools/gen_refset.py.) -/
namespace Go.Proofs.Ytmkepmjdckdpgaa
open Go.RowKit

end Go.Proofs.Ytmkepmjdckdpgaa
/- Stage 17: the document's Right, Or, And, Less, Above. -/
namespace Go.Proofs.Ytmkepmjdckdpgaa
open Go.RowKit

set_option maxHeartbeats 4000000 in
set_option maxRecDepth 100000 in
theorem refRight_any (va : Value) (l : List Int) (W : World) (ha : IntsAt W va l) (hl : l.length ≤ 1000) :
    Calls Try.prog 29 #[va] W fun e w' => e = .returned (.bool (rightB l)) ∧ Below W.heap.size W w' := by
  have HA := Lib.hid ha
  obtain ⟨a, c, rfl⟩ := IntsAt.form ha
  obtain ⟨t, ht⟩ : ∃ t, rightB l = t := ⟨_, rfl⟩
  rw [ht]
  have HT := Lib.hid ht
  have HL := Lib.hid hl
  clear ha ht
  go_enter Try.func29, Try.ntmps29
  go_wp2
  go_loopw [3] (fun iv wr => ∃ k : Nat, iv = .int .i64 ((k : Int) + 1) ∧ k + 1 ≤ max 1 l.length ∧ (∀ i (h : i + 1 < l.length), i < k → l[i] < l[i + 1]) ∧ Below W.heap.size W wr) (fun iv _ => l.length + 1 - (intOf iv).toNat)
  case atStart => exact ⟨0, rfl, by omega, fun i _ h => absurd h (by omega), Below.refl _ _⟩
  case round =>
    obtain ⟨k, rfl, hk, hup, hB⟩ := hrel
    have HUP := Lib.hid hup
    have HB := Lib.hid hB
    by_cases hlt : k + 1 < l.length
    · obtain ⟨g, o, _, e, hlc, _, p1⟩ := (IntsAt.below HA.out hB).spot (k + 1) hlt
      cases e
      obtain ⟨_, _, _, e, _, _, p0⟩ := (IntsAt.below HA.out hB).spot k (by omega)
      cases e
      have HLT := Lib.hid hlt
      have K0 : (0 : Int) ≤ (k : Int) := by omega
      have K1 : (k : Int) + 1 < (l.length : Int) := by omega
      have K2 : (k : Int) ≤ 1000 := by omega
      have K3 : (k : Int) < (l.length : Int) := by omega
      have hno := fun h => ris_no k hlt h
      obtain ⟨x, hx⟩ : ∃ x, l[k]'(by omega) = x := ⟨_, rfl⟩
      obtain ⟨y, hy⟩ : ∃ y, l[k + 1]'hlt = y := ⟨_, rfl⟩
      rw [hx] at p0 hno
      rw [hy] at p1 hno
      have hstep : x < y → ∀ i (h : i + 1 < l.length), i < k + 1 → l[i] < l[i + 1] := fun hxy i h hi => by
        by_cases e : i = k
        · subst e
          rw [hx, hy]
          exact hxy
        · exact hup i h (by omega)
      have HST := Lib.hid hstep
      have HNO := Lib.hid hno
      have N1 : ((k : Int) + 1).toNat = k + 1 := by omega
      clear hup hB hno hstep hx hy hk
      by_cases hle : y ≤ x
      · have HF := Lib.hid (show false = t by rw [← HT.out]; exact (decide_eq_false (HNO.out hle)).symm)
        have G := Lib.hid (show decide (y ≤ x) = true by simp; omega)
        clear hle
        go_wp2
        have g1 := G.out
        refine wp_region_calm0 (by kernel_rfl) (by kernel_rfl) fun M => ?_
        have e0 := fun n : In M.w => n.cell (M.cell p0)
        have e1 := fun n : In M.w => n.cell (M.cell p1)
        repeat (go_big_quiet_step (fail))
        refine wpQuiet_nil ?_
        clear e0 e1 M p0 p1
        intro w2 hb2
        go_wp2
        go_ret
        exact ⟨ret_b HF.out, HB.out.trans (hb2.mono HB.out.size)⟩
      · have G := Lib.hid (show decide (y ≤ x) = false by simp; omega)
        have HUP2 := Lib.hid (HST.out (by omega))
        clear hle
        go_wp2
        have g1 := G.out
        refine wp_region_calm0 (by kernel_rfl) (by kernel_rfl) fun M => ?_
        have e0 := fun n : In M.w => n.cell (M.cell p0)
        have e1 := fun n : In M.w => n.cell (M.cell p1)
        repeat (go_big_quiet_step (fail))
        refine wpQuiet_nil ?_
        clear e0 e1 M p0 p1
        intro w2 hb2
        have HB2 := Lib.hid (HB.out.trans (hb2.mono HB.out.size))
        clear hb2
        go_wp2
        go_roundw
        case rel => exact ⟨k + 1, by go_num, by have := HLT.out; omega, HUP2.out, HB2.out⟩
        case measure => have := HLT.out; simp [intOf]; omega
    · have hend : risL l := ris_adj fun i h => hup i h (by omega)
      have HF := Lib.hid (show true = t by rw [← HT.out]; exact (decide_eq_true hend).symm)
      have K1 : ¬ (k : Int) + 1 < (l.length : Int) := by omega
      clear hup hB hend hk
      go_wp2
      go_ret
      exact ⟨ret_b HF.out, HB.out⟩

end Go.Proofs.Ytmkepmjdckdpgaa
/- The walks of the document's answers for layer 7: the way. -/
namespace Go.Proofs.Ytmkepmjdckdpgaa
open Go.RowKit

def lenOf : Value → Nat
  | .slice _ n _ => n
  | _ => 0
theorem OwnP.len {w : World} {B : Nat} {e : TypeId} {v : Value} {l : List (Int × Int)} (h : OwnP w B e v l) : lenOf v = l.length := by
  rcases h.2 with ⟨rfl, h0⟩ | ⟨g, cap, cur, rfl, _⟩
  · simp [lenOf, h0]
  · rfl
theorem OwnP.not {w : World} {B : Nat} {e : TypeId} {v : Value} {l : List (Int × Int)} (h : OwnP w B e v l) {k : Nat} (hk : k < B) : v.ownBlock ≠ some k := by
  rcases h.2 with ⟨rfl, _⟩ | ⟨g, cap, cur, rfl, hg, _⟩
  · simp [Value.ownBlock]
  · simp [Value.ownBlock]
    omega
theorem hset0 {w : World} {b : Nat} {x y : Value} {t : TypeId} (h : w.heap[b]? = some (.cells #[x, y] t)) (x' : Value) : (w.setCell ⟨b, 0, none⟩ x').heap[b]? = some (.cells #[x', y] t) := by
  unfold World.setCell
  simp only [Array.getElem?_modify, if_pos, h, Option.map_some]
  rfl
theorem hset1 {w : World} {b : Nat} {x y : Value} {t : TypeId} (h : w.heap[b]? = some (.cells #[x, y] t)) (y' : Value) : (w.setCell ⟨b, 1, none⟩ y').heap[b]? = some (.cells #[x, y'] t) := by
  unfold World.setCell
  simp only [Array.getElem?_modify, if_pos, h, Option.map_some]
  rfl
theorem hkeep {w : World} {k j : Nat} {o : Obj} (h : w.heap[k]? = some o) (i : Nat) (u : Value) (hne : k ≠ j) : (w.setCell ⟨j, i, none⟩ u).heap[k]? = some o := by
  rw [Below.heap_setCell w ⟨j, i, none⟩ u k hne]
  exact h
theorem halloc {w : World} {k : Nat} {o : Obj} (h : w.heap[k]? = some o) (p : Obj) : (w.alloc p).heap[k]? = some o := (Below.heap_alloc w p k (lt_of_block h)).trans h
theorem gap_bd {a b : Int × Int} (ha : (-1000 ≤ a.1 ∧ a.1 ≤ 1000) ∧ (-1000 ≤ a.2 ∧ a.2 ≤ 1000)) (hb : (-1000 ≤ b.1 ∧ b.1 ≤ 1000) ∧ (-1000 ≤ b.2 ∧ b.2 ≤ 1000)) : gap a b ≤ 4000 := by unfold gap; omega

set_option maxHeartbeats 8000000 in
set_option maxRecDepth 100000 in
theorem refRoute_any (x1 y1 x2 y2 how : Int) (w : World) :
    Calls Try.prog 56 #[.agg #[.int .i64 x1, .int .i64 y1], .agg #[.int .i64 x2, .int .i64 y2], .int .i64 how] w fun e w' => ∃ v, e = .returned v ∧ PairsAt w' v (rway (wd x1, wd y1) (wd x2, wd y2) how) ∧ Below w.heap.size w w' := by
  obtain ⟨i0, hi, hz0, hz1, hz2⟩ := info_parts info_point
  have hn1 := fun w => refPNear_any x1 y1 w
  have hn2 := fun w => refPNear_any x2 y2 w
  have ha := wd_bd x1
  have hb := wd_bd y1
  have hc := wd_bd x2
  have hd := wd_bd y2
  generalize wd x1 = a1 at *
  generalize wd y1 = a2 at *
  generalize wd x2 = b1 at *
  generalize wd y2 = b2 at *
  have hgap := gap_bd (a := (a1, a2)) (b := (b1, b2)) ⟨ha, hb⟩ ⟨hc, hd⟩
  have hbd := rit_bd (a := (a1, a2)) (b := (b1, b2)) (how := how) (B := 1000) ⟨ha, hb⟩ ⟨hc, hd⟩
  have HN1 := Lib.hid hn1
  have HN2 := Lib.hid hn2
  have HBD := Lib.hid hbd
  have C0 := (Cell2.new w (.int .i64 x1) (.int .i64 y1) 24).alloc (.cells #[.int .i64 x2, .int .i64 y2] 24)
  have C1 := Cell2.new (w.alloc (.cells #[.int .i64 x1, .int .i64 y1] 24)) (.int .i64 x2) (.int .i64 y2) 24
  simp only [World.size_alloc] at C1
  have hB : Below w.heap.size w ((w.alloc (.cells #[.int .i64 x1, .int .i64 y1] 24)).alloc (.cells #[.int .i64 x2, .int .i64 y2] 24)) := ((Below.refl _ _).alloc (Nat.le_refl _) _).alloc (by simp) _
  clear hn1 hn2 hbd
  go_enter Try.func56, Try.ntmps56
  go_wp2
  have hsz0 : ((w.alloc (.cells #[.int .i64 x1, .int .i64 y1] 24)).alloc (.cells #[.int .i64 x2, .int .i64 y2] 24)).heap.size = w.heap.size + 1 + 1 := by simp
  generalize (w.alloc (.cells #[.int .i64 x1, .int .i64 y1] 24)).alloc (.cells #[.int .i64 x2, .int .i64 y2] 24) = w0 at *
  refine wp_region_calmN 4 6 [(.cells #[.int .i64 0, .int .i64 0] 24, fun b => .pointer (some ⟨b, 0, none⟩)), (.cells #[.int .i64 0, .int .i64 0] 24, fun b => .pointer (some ⟨b, 0, none⟩))] (by kernel_rfl) (by simp) (by simp) (by kernel_rfl) fun M => ?_
  simp only [List.take_succ_cons, List.take_zero, List.drop_succ_cons, List.drop_zero, List.length_cons, List.length_nil]
  have e0 := fun n : In M.w => n.cell (M.cell C0.c0)
  have e1 := fun n : In M.w => n.cell (M.cell C0.c1)
  have e2 := fun n : In M.w => n.cell (M.cell C1.c0)
  have e3 := fun n : In M.w => n.cell (M.cell C1.c1)
  repeat (go_big_quiet_step (first
    | (go_at_call 68; with_reducible exact In.call (HN1.out _))
    | (go_at_call 68; with_reducible exact In.call (HN2.out _))))
  refine wpQuiet_nil ?_
  clear e0 e1 e2 e3 M C0 C1 HN1 HN2
  refine ⟨rfl, fun n => by simp [go_sem], fun u hu _ => ⟨rfl, fun n => by simp [go_sem], fun v hv hvu w2 hw => ?_⟩⟩
  have hne : v ≠ u := fun e => by rw [e, Gh.set_self] at hvu; cases hvu
  have hne' : u ≠ v := Ne.symm hne
  have hbl := hw.below
  have h1 := hw.own u _ (by rw [Gh.set_ne _ (Ne.symm hne)]; exact Gh.set_self _ _ _)
  have h2 := hw.own v _ (Gh.set_self _ _ _)
  have hB2 := hB.trans (hbl.mono (by omega))
  have hu1 : w.heap.size ≤ u := by omega
  have hv1 : w.heap.size ≤ v := by omega
  have hsu : u < w2.heap.size := lt_of_block h1
  have hsv : v < w2.heap.size := lt_of_block h2
  have HU := Lib.hid (hkeep (hkeep (hset1 (hset0 h1 (.int .i64 a1)) (.int .i64 a2)) 0 (.int .i64 b1) hne') 1 (.int .i64 b2) hne')
  have HV := Lib.hid (hset1 (hset0 (hkeep (hkeep h2 0 (.int .i64 a1) hne) 1 (.int .i64 a2) hne) (.int .i64 b1)) (.int .i64 b2))
  have hB3 := Lib.hid ((((hB2.setCell (p := ⟨u, 0, none⟩) hu1 (.int .i64 a1)).setCell (p := ⟨u, 1, none⟩) hu1 (.int .i64 a2)).setCell (p := ⟨v, 0, none⟩) hv1 (.int .i64 b1)).setCell (p := ⟨v, 1, none⟩) hv1 (.int .i64 b2))
  have hs3 : ((((w2.setCell ⟨u, 0, none⟩ (.int .i64 a1)).setCell ⟨u, 1, none⟩ (.int .i64 a2)).setCell ⟨v, 0, none⟩ (.int .i64 b1)).setCell ⟨v, 1, none⟩ (.int .i64 b2)).heap.size = w2.heap.size := by simp
  obtain ⟨d0, d1, z0, z1⟩ := Cell2.of_heap h1
  obtain ⟨f0, f1, y0, y1⟩ := Cell2.of_heap h2
  obtain ⟨g0, g1, _, _⟩ := Cell2.of_heap HU.out
  clear hbl hw hvu h1 h2 hB2 hB hu hv
  go_wp2
  clear d0 d1 z0 z1 f0 f1 y0 y1 g0 g1
  obtain ⟨Bo, hBo⟩ : ∃ Bo, w2.heap.size = Bo := ⟨_, rfl⟩
  generalize ((((w2.setCell ⟨u, 0, none⟩ (.int .i64 a1)).setCell ⟨u, 1, none⟩ (.int .i64 a2)).setCell ⟨v, 0, none⟩ (.int .i64 b1)).setCell ⟨v, 1, none⟩ (.int .i64 b2)) = w3 at *
  rw [hBo] at hs3 hsu hsv ⊢
  clear hBo
  have hb3 : w.heap.size ≤ w3.heap.size := by omega
  go_loopw [9] (fun s wr => ∃ k : Nat, k ≤ gap (a1, a2) (b1, b2) ∧ OwnP wr Bo 24 s ((List.range (k + 1)).map (rit (b1, b2) how (a1, a2))) ∧ Below w.heap.size w wr ∧ Bo ≤ wr.heap.size ∧ wr.heap[u]? = some (.cells #[.int .i64 (rit (b1, b2) how (a1, a2) k).1, .int .i64 (rit (b1, b2) how (a1, a2) k).2] 24) ∧ wr.heap[v]? = some (.cells #[.int .i64 b1, .int .i64 b2] 24)) (fun s _ => gap (a1, a2) (b1, b2) + 1 - lenOf s)
  case atStart => exact ⟨0, Nat.zero_le _, ⟨rfl, .inr ⟨w3.heap.size, 1, #[.int .i64 a1, .int .i64 a2], by simp, by omega, heap_alloc_new w3 _, Nat.le_refl _, by decide, rfl, rfl⟩⟩, hB3.out.alloc hb3 _, by simp; omega, halloc HU.out _, halloc HV.out _⟩
  case round =>
    clear hB3 HU HV hs3 hb3
    obtain ⟨k, hk, hown, hB, hBz, hU, hV⟩ := hrel
    have hbk := HBD.out k
    have hgk := rit_gap (a1, a2) (b1, b2) how k hk
    have hnx : (List.range (k + 1 + 1)).map (rit (b1, b2) how (a1, a2)) = (List.range (k + 1)).map (rit (b1, b2) how (a1, a2)) ++ [rst (b1, b2) how (rit (b1, b2) how (a1, a2) k)] := rway_next (rit (b1, b2) how (a1, a2)) k
    have hrs : rit (b1, b2) how (a1, a2) (k + 1) = rst (b1, b2) how (rit (b1, b2) how (a1, a2) k) := rfl
    by_cases hlt : k < gap (a1, a2) (b1, b2)
    · obtain ⟨⟨x, y⟩, hxy⟩ : ∃ p, rit (b1, b2) how (a1, a2) k = p := ⟨_, rfl⟩
      rw [hxy] at hgk hbk hU hnx hrs
      simp only at hbk hU
      have hneq : ¬ (x = b1 ∧ y = b2) := fun ⟨e1, e2⟩ => by
        subst e1 e2
        have h0 : gap (x, y) (x, y) = 0 := by unfold gap; omega
        omega
      have hbx : -1000000 ≤ x ∧ x ≤ 1000000 := by omega
      have hby : -1000000 ≤ y ∧ y ≤ 1000000 := by omega
      have ht1 := fun w => refToward_any x b1 w hbx
      have ht2 := fun w => refToward_any y b2 w hby
      have hlen := hown.len
      rw [List.length_map, List.length_range] at hlen
      have hnu := hown.not hsu
      have hnv := hown.not hsv
      have hcl : ((List.range (k + 1)).map (rit (b1, b2) how (a1, a2))).length = k + 1 := by simp
      generalize (List.range (k + 1)).map (rit (b1, b2) how (a1, a2)) = L at *
      obtain ⟨L', hL'⟩ : ∃ L', (List.range (k + 1 + 1)).map (rit (b1, b2) how (a1, a2)) = L' := ⟨_, rfl⟩
      rw [hL'] at hnx
      have HL' := Lib.hid hL'
      clear hL'
      obtain ⟨c0, c1, z0, z1⟩ := Cell2.of_heap hU
      obtain ⟨d0, d1, _, _⟩ := Cell2.of_heap hV
      have HRS := Lib.hid hrs
      have HNX := Lib.hid hnx
      have HT1 := Lib.hid ht1
      have HT2 := Lib.hid ht2
      have HO := Lib.hid hown
      have HU := Lib.hid hU
      have HV := Lib.hid hV
      have HNU := Lib.hid hnu
      have HNV := Lib.hid hnv
      clear hgk hxy ht1 ht2 hown hU hV hnu hnv hrs hnx hbx hby hbk
      have hcase : (y = b2 ∧ (x == b1) = false) ∨ ((y == b2) = false ∧ (how == 1) = false ∧ (x == b1) = false) ∨ ((y == b2) = false ∧ how = 1) ∨ ((y == b2) = false ∧ (how == 1) = false ∧ x = b1) := by
        simp only [beq_eq_false_iff_ne]
        by_cases e1 : y = b2 <;> by_cases e2 : how = 1 <;> by_cases e3 : x = b1 <;> simp [e1, e2, e3] at hneq ⊢
      clear hneq
      rcases hcase with ⟨m1, m3⟩ | ⟨m1, m2, m3⟩ | ⟨m1, m2⟩ | ⟨m1, m2, m3⟩
      · subst m1
        have hr : rst (b1, y) how (x, y) = (tw x b1, y) := by unfold rst; rw [if_pos (.inl rfl)]
        obtain ⟨nn, hnn⟩ : ∃ nn, (tw x b1) = nn := ⟨_, rfl⟩
        rw [hnn] at HT1 hr
        rw [hr] at HRS HNX
        have hB4 := hB.setCell (p := ⟨u, 0, none⟩) hu1 (.int .i64 nn)
        have HU4 := Lib.hid (hset0 HU.out (.int .i64 nn))
        have HV4 := Lib.hid (hkeep HV.out 0 (.int .i64 nn) hne)
        have HO4 := Lib.hid ((HO.out.away ⟨u, 0, none⟩ (.int .i64 nn) HNU.out).alloc (.cells #[.int .i64 nn, .int .i64 y] 24))
        have HH4 := Lib.hid (heap_alloc_new (wr.setCell ⟨u, 0, none⟩ (.int .i64 nn)) (.cells #[.int .i64 nn, .int .i64 y] 24))
        have hz4 : (wr.setCell ⟨u, 0, none⟩ (.int .i64 nn)).heap.size = wr.heap.size := by simp
        have hzw : w.heap.size ≤ wr.heap.size := hB.size
        have hB5 := hB4.alloc (o := .cells #[.int .i64 nn, .int .i64 y] 24) (by omega)
        have hz5 : ((wr.setCell ⟨u, 0, none⟩ (.int .i64 nn)).alloc (.cells #[.int .i64 nn, .int .i64 y] 24)).heap.size = wr.heap.size + 1 := by simp
        rw [hz4] at HH4
        clear hr hnn HO
        go_wp2_with (first
          | (go_at_call 69; (with_reducible refine (HT1.out _).mono ?_); rintro e w4 ⟨rfl, rfl⟩)
          | (at_builtin; refine wpList_append_own _ rfl _ _ 46 rfl Bo 24 i0 (.agg #[.int .i64 0, .int .i64 0]) 2 16 Try.underlying46 hi hz0 hz1 hz2 rfl (by decide) _ _ _ rfl HO4.out ⟨wr.heap.size, 0, none⟩ 1 1 [.int .i64 nn, .int .i64 y] rfl rfl (World.news_of_block (cs := #[.int .i64 nn, .int .i64 y]) HH4.out) (by intro u hu; simp at hu; rcases hu with rfl | rfl <;> rfl) (by unfold maxLen; omega) (by omega) (by omega) ?_))
        intro v' w5 h1 h2 _
        have o5 : OwnP w5 Bo 24 v' L' := by
          rw [HNX.out]
          unfold OwnP
          rw [List.length_append, flat_append, hcl]
          exact h1
        have hU5 := (h2.block u (lt_of_block (halloc HU4.out _)) (fun e => HNU.out e.symm)).trans (halloc HU4.out _)
        have hV5 := (h2.block v (lt_of_block (halloc HV4.out _)) (fun e => HNV.out e.symm)).trans (halloc HV4.out _)
        have hB6 : Below w.heap.size w w5 := hB5.grown h2 (by omega) (fun j hj => by
          rcases Nat.lt_or_ge j Bo with h | h
          · exact absurd hj (HO4.out.not h)
          · omega)
        have hz6 : Bo ≤ w5.heap.size := Nat.le_trans (by omega) h2.size
        have hl5 := o5.len
        have HO5 := Lib.hid o5
        have HU5 := Lib.hid hU5
        have HV5 := Lib.hid hV5
        have hlL : L'.length = k + 1 + 1 := by rw [HNX.out, List.length_append, hcl]; rfl
        clear h1 h2 o5 hU5 hV5 HO4 HH4 HU4 HV4
        go_wp2
        go_roundw
        case rel => exact ⟨k + 1, by omega, by rw [HL'.out]; exact HO5.out, hB6, hz6, by rw [HRS.out]; exact HU5.out, HV5.out⟩
        case measure => omega
      · have m2b : (how != 1) = true := by simp [bne, m2]
        have m3b : (x != b1) = true := by simp [bne, m3]
        have hr : rst (b1, b2) how (x, y) = (tw x b1, y) := by unfold rst; rw [if_pos (.inr ⟨by simpa using m2, by simpa using m3⟩)]
        obtain ⟨nn, hnn⟩ : ∃ nn, (tw x b1) = nn := ⟨_, rfl⟩
        rw [hnn] at HT1 hr
        rw [hr] at HRS HNX
        have hB4 := hB.setCell (p := ⟨u, 0, none⟩) hu1 (.int .i64 nn)
        have HU4 := Lib.hid (hset0 HU.out (.int .i64 nn))
        have HV4 := Lib.hid (hkeep HV.out 0 (.int .i64 nn) hne)
        have HO4 := Lib.hid ((HO.out.away ⟨u, 0, none⟩ (.int .i64 nn) HNU.out).alloc (.cells #[.int .i64 nn, .int .i64 y] 24))
        have HH4 := Lib.hid (heap_alloc_new (wr.setCell ⟨u, 0, none⟩ (.int .i64 nn)) (.cells #[.int .i64 nn, .int .i64 y] 24))
        have hz4 : (wr.setCell ⟨u, 0, none⟩ (.int .i64 nn)).heap.size = wr.heap.size := by simp
        have hzw : w.heap.size ≤ wr.heap.size := hB.size
        have hB5 := hB4.alloc (o := .cells #[.int .i64 nn, .int .i64 y] 24) (by omega)
        have hz5 : ((wr.setCell ⟨u, 0, none⟩ (.int .i64 nn)).alloc (.cells #[.int .i64 nn, .int .i64 y] 24)).heap.size = wr.heap.size + 1 := by simp
        rw [hz4] at HH4
        clear hr hnn HO
        go_wp2_with (first
          | (go_at_call 69; (with_reducible refine (HT1.out _).mono ?_); rintro e w4 ⟨rfl, rfl⟩)
          | (at_builtin; refine wpList_append_own _ rfl _ _ 46 rfl Bo 24 i0 (.agg #[.int .i64 0, .int .i64 0]) 2 16 Try.underlying46 hi hz0 hz1 hz2 rfl (by decide) _ _ _ rfl HO4.out ⟨wr.heap.size, 0, none⟩ 1 1 [.int .i64 nn, .int .i64 y] rfl rfl (World.news_of_block (cs := #[.int .i64 nn, .int .i64 y]) HH4.out) (by intro u hu; simp at hu; rcases hu with rfl | rfl <;> rfl) (by unfold maxLen; omega) (by omega) (by omega) ?_))
        intro v' w5 h1 h2 _
        have o5 : OwnP w5 Bo 24 v' L' := by
          rw [HNX.out]
          unfold OwnP
          rw [List.length_append, flat_append, hcl]
          exact h1
        have hU5 := (h2.block u (lt_of_block (halloc HU4.out _)) (fun e => HNU.out e.symm)).trans (halloc HU4.out _)
        have hV5 := (h2.block v (lt_of_block (halloc HV4.out _)) (fun e => HNV.out e.symm)).trans (halloc HV4.out _)
        have hB6 : Below w.heap.size w w5 := hB5.grown h2 (by omega) (fun j hj => by
          rcases Nat.lt_or_ge j Bo with h | h
          · exact absurd hj (HO4.out.not h)
          · omega)
        have hz6 : Bo ≤ w5.heap.size := Nat.le_trans (by omega) h2.size
        have hl5 := o5.len
        have HO5 := Lib.hid o5
        have HU5 := Lib.hid hU5
        have HV5 := Lib.hid hV5
        have hlL : L'.length = k + 1 + 1 := by rw [HNX.out, List.length_append, hcl]; rfl
        clear h1 h2 o5 hU5 hV5 HO4 HH4 HU4 HV4
        go_wp2
        go_roundw
        case rel => exact ⟨k + 1, by omega, by rw [HL'.out]; exact HO5.out, hB6, hz6, by rw [HRS.out]; exact HU5.out, HV5.out⟩
        case measure => omega
      · subst m2
        have hr : rst (b1, b2) 1 (x, y) = (x, tw y b2) := by unfold rst; rw [if_neg (by have := (show y ≠ b2 by simpa using m1); rintro (h | ⟨h, _⟩); exact this h; exact h rfl)]
        obtain ⟨nn, hnn⟩ : ∃ nn, (tw y b2) = nn := ⟨_, rfl⟩
        rw [hnn] at HT2 hr
        rw [hr] at HRS HNX
        have hB4 := hB.setCell (p := ⟨u, 1, none⟩) hu1 (.int .i64 nn)
        have HU4 := Lib.hid (hset1 HU.out (.int .i64 nn))
        have HV4 := Lib.hid (hkeep HV.out 1 (.int .i64 nn) hne)
        have HO4 := Lib.hid ((HO.out.away ⟨u, 1, none⟩ (.int .i64 nn) HNU.out).alloc (.cells #[.int .i64 x, .int .i64 nn] 24))
        have HH4 := Lib.hid (heap_alloc_new (wr.setCell ⟨u, 1, none⟩ (.int .i64 nn)) (.cells #[.int .i64 x, .int .i64 nn] 24))
        have hz4 : (wr.setCell ⟨u, 1, none⟩ (.int .i64 nn)).heap.size = wr.heap.size := by simp
        have hzw : w.heap.size ≤ wr.heap.size := hB.size
        have hB5 := hB4.alloc (o := .cells #[.int .i64 x, .int .i64 nn] 24) (by omega)
        have hz5 : ((wr.setCell ⟨u, 1, none⟩ (.int .i64 nn)).alloc (.cells #[.int .i64 x, .int .i64 nn] 24)).heap.size = wr.heap.size + 1 := by simp
        rw [hz4] at HH4
        clear hr hnn HO
        go_wp2_with (first
          | (go_at_call 69; (with_reducible refine (HT2.out _).mono ?_); rintro e w4 ⟨rfl, rfl⟩)
          | (at_builtin; refine wpList_append_own _ rfl _ _ 46 rfl Bo 24 i0 (.agg #[.int .i64 0, .int .i64 0]) 2 16 Try.underlying46 hi hz0 hz1 hz2 rfl (by decide) _ _ _ rfl HO4.out ⟨wr.heap.size, 0, none⟩ 1 1 [.int .i64 x, .int .i64 nn] rfl rfl (World.news_of_block (cs := #[.int .i64 x, .int .i64 nn]) HH4.out) (by intro u hu; simp at hu; rcases hu with rfl | rfl <;> rfl) (by unfold maxLen; omega) (by omega) (by omega) ?_))
        intro v' w5 h1 h2 _
        have o5 : OwnP w5 Bo 24 v' L' := by
          rw [HNX.out]
          unfold OwnP
          rw [List.length_append, flat_append, hcl]
          exact h1
        have hU5 := (h2.block u (lt_of_block (halloc HU4.out _)) (fun e => HNU.out e.symm)).trans (halloc HU4.out _)
        have hV5 := (h2.block v (lt_of_block (halloc HV4.out _)) (fun e => HNV.out e.symm)).trans (halloc HV4.out _)
        have hB6 : Below w.heap.size w w5 := hB5.grown h2 (by omega) (fun j hj => by
          rcases Nat.lt_or_ge j Bo with h | h
          · exact absurd hj (HO4.out.not h)
          · omega)
        have hz6 : Bo ≤ w5.heap.size := Nat.le_trans (by omega) h2.size
        have hl5 := o5.len
        have HO5 := Lib.hid o5
        have HU5 := Lib.hid hU5
        have HV5 := Lib.hid hV5
        have hlL : L'.length = k + 1 + 1 := by rw [HNX.out, List.length_append, hcl]; rfl
        clear h1 h2 o5 hU5 hV5 HO4 HH4 HU4 HV4
        go_wp2
        go_roundw
        case rel => exact ⟨k + 1, by omega, by rw [HL'.out]; exact HO5.out, hB6, hz6, by rw [HRS.out]; exact HU5.out, HV5.out⟩
        case measure => omega
      · subst m3
        have m2b : (how != 1) = true := by simp [bne, m2]
        have hr : rst (x, b2) how (x, y) = (x, tw y b2) := by unfold rst; rw [if_neg (by have := (show y ≠ b2 by simpa using m1); rintro (h | ⟨_, h⟩); exact this h; exact h rfl)]
        obtain ⟨nn, hnn⟩ : ∃ nn, (tw y b2) = nn := ⟨_, rfl⟩
        rw [hnn] at HT2 hr
        rw [hr] at HRS HNX
        have hB4 := hB.setCell (p := ⟨u, 1, none⟩) hu1 (.int .i64 nn)
        have HU4 := Lib.hid (hset1 HU.out (.int .i64 nn))
        have HV4 := Lib.hid (hkeep HV.out 1 (.int .i64 nn) hne)
        have HO4 := Lib.hid ((HO.out.away ⟨u, 1, none⟩ (.int .i64 nn) HNU.out).alloc (.cells #[.int .i64 x, .int .i64 nn] 24))
        have HH4 := Lib.hid (heap_alloc_new (wr.setCell ⟨u, 1, none⟩ (.int .i64 nn)) (.cells #[.int .i64 x, .int .i64 nn] 24))
        have hz4 : (wr.setCell ⟨u, 1, none⟩ (.int .i64 nn)).heap.size = wr.heap.size := by simp
        have hzw : w.heap.size ≤ wr.heap.size := hB.size
        have hB5 := hB4.alloc (o := .cells #[.int .i64 x, .int .i64 nn] 24) (by omega)
        have hz5 : ((wr.setCell ⟨u, 1, none⟩ (.int .i64 nn)).alloc (.cells #[.int .i64 x, .int .i64 nn] 24)).heap.size = wr.heap.size + 1 := by simp
        rw [hz4] at HH4
        clear hr hnn HO
        go_wp2_with (first
          | (go_at_call 69; (with_reducible refine (HT2.out _).mono ?_); rintro e w4 ⟨rfl, rfl⟩)
          | (at_builtin; refine wpList_append_own _ rfl _ _ 46 rfl Bo 24 i0 (.agg #[.int .i64 0, .int .i64 0]) 2 16 Try.underlying46 hi hz0 hz1 hz2 rfl (by decide) _ _ _ rfl HO4.out ⟨wr.heap.size, 0, none⟩ 1 1 [.int .i64 x, .int .i64 nn] rfl rfl (World.news_of_block (cs := #[.int .i64 x, .int .i64 nn]) HH4.out) (by intro u hu; simp at hu; rcases hu with rfl | rfl <;> rfl) (by unfold maxLen; omega) (by omega) (by omega) ?_))
        intro v' w5 h1 h2 _
        have o5 : OwnP w5 Bo 24 v' L' := by
          rw [HNX.out]
          unfold OwnP
          rw [List.length_append, flat_append, hcl]
          exact h1
        have hU5 := (h2.block u (lt_of_block (halloc HU4.out _)) (fun e => HNU.out e.symm)).trans (halloc HU4.out _)
        have hV5 := (h2.block v (lt_of_block (halloc HV4.out _)) (fun e => HNV.out e.symm)).trans (halloc HV4.out _)
        have hB6 : Below w.heap.size w w5 := hB5.grown h2 (by omega) (fun j hj => by
          rcases Nat.lt_or_ge j Bo with h | h
          · exact absurd hj (HO4.out.not h)
          · omega)
        have hz6 : Bo ≤ w5.heap.size := Nat.le_trans (by omega) h2.size
        have hl5 := o5.len
        have HO5 := Lib.hid o5
        have HU5 := Lib.hid hU5
        have HV5 := Lib.hid hV5
        have hlL : L'.length = k + 1 + 1 := by rw [HNX.out, List.length_append, hcl]; rfl
        clear h1 h2 o5 hU5 hV5 HO4 HH4 HU4 HV4
        go_wp2
        go_roundw
        case rel => exact ⟨k + 1, by omega, by rw [HL'.out]; exact HO5.out, hB6, hz6, by rw [HRS.out]; exact HU5.out, HV5.out⟩
        case measure => omega
    · have hkg : k = gap (a1, a2) (b1, b2) := by omega
      have he := rit_end (a1, a2) (b1, b2) how
      rw [← hkg] at he
      rw [he] at hU
      have hw : rway (a1, a2) (b1, b2) how = (List.range (k + 1)).map (rit (b1, b2) how (a1, a2)) := by rw [hkg]; rfl
      rw [← hw] at hown
      obtain ⟨c0, c1, _, _⟩ := Cell2.of_heap hU
      obtain ⟨d0, d1, _, _⟩ := Cell2.of_heap hV
      have HO := Lib.hid hown
      clear hbk hgk hnx hrs he hw hown hU hV hkg hlt hk
      simp only at c0 c1 d0 d1
      go_wp2
      go_ret
      exact ⟨_, rfl, HO.out.pairs, hB⟩
end Go.Proofs.Ytmkepmjdckdpgaa
/- The walks of the document's answers for layer 7: a number in a list that rises. -/
namespace Go.Proofs.Ytmkepmjdckdpgaa
open Go.RowKit

theorem putR_at (n : Int) (l : List Int) (k : Nat) (h : k < l.length) (d : Bool) : putR n (l.drop k) d = (if d = false ∧ n ≤ l[k] then [n] else []) ++ (if l[k] ≠ n then [l[k]] else []) ++ putR n (l.drop (k + 1)) (d || decide (n ≤ l[k])) := by
  rw [List.drop_eq_getElem_cons h]
  rfl

set_option maxHeartbeats 4000000 in
set_option maxRecDepth 100000 in
theorem refPut_any (va : Value) (l : List Int) (n : Int) (w : World) (ha : IntsAt w va l) (hl : l.length ≤ 1000000) :
    Calls Try.prog 58 #[va, .int .i64 n] w fun e w' => ∃ v, e = .returned v ∧ IntsAt w' v (putR n l false) ∧ Below w.heap.size w w' := by
  obtain ⟨i0, hi, hz0, hz1, hz2⟩ := info_parts info_int
  obtain ⟨a, c, rfl⟩ := ha.form
  have HA := Lib.hid ha
  clear ha
  go_enter Try.func58, Try.ntmps58
  go_wp2
  go_loopw [5, 6, 7] (fun v dn i wr => ∃ (k : Nat) (d : Bool) (pre : List Int), k ≤ l.length ∧ i = .int .i64 k ∧ dn = .bool d ∧ putR n l false = pre ++ putR n (l.drop k) d ∧ pre.length ≤ 2 * k ∧ OwnI wr w.heap.size v pre ∧ Below w.heap.size w wr) (fun _ _ i _ => l.length - (intOf i).toNat)
  case atStart => exact ⟨0, false, [], Nat.zero_le _, rfl, rfl, by simp, Nat.zero_le _, OwnR.nil _ _ _ _ _, Below.refl _ _⟩
  case round =>
    obtain ⟨k, d, pre, hk, rfl, rfl, hp, hpl, hown, hB⟩ := hrel
    have HO := Lib.hid hown
    have hsz := hB.size
    have hpn : pre.length ≤ 2000000 := by omega
    clear hown
    by_cases hlt : k < l.length
    · rw [putR_at n l k hlt d] at hp
      obtain ⟨g, o, c', ev, hc, hg, pw⟩ := HA.out.spot k hlt
      cases ev
      have p0 := (hB.cell (p := ⟨g, o + k, none⟩) hg).trans pw
      have PW := Lib.hid pw
      clear pw
      have j0 : (0 : Int) ≤ (k : Int) := by omega
      have j1 : (k : Int) < (l.length : Int) := by omega
      obtain ⟨x, hx⟩ : ∃ x, l[k] = x := ⟨_, rfl⟩
      rw [hx] at p0 hp PW
      clear hx
      have hP := hp
      clear hp
      have hz1' : w.heap.size ≤ (wr.alloc (.cells #[.int .i64 n] 3)).heap.size := by simp; omega
      have hz1x : w.heap.size ≤ (wr.alloc (.cells #[.int .i64 x] 3)).heap.size := by simp; omega
      have hBn := hB.alloc hsz (.cells #[.int .i64 n] 3)
      have hBx := hB.alloc hsz (.cells #[.int .i64 x] 3)
      have HOn := Lib.hid (HO.out.alloc (.cells #[.int .i64 n] 3))
      have HOx := Lib.hid (HO.out.alloc (.cells #[.int .i64 x] 3))
      have HHn := Lib.hid (heap_alloc_new wr (.cells #[.int .i64 n] 3))
      have HHx := Lib.hid (heap_alloc_new wr (.cells #[.int .i64 x] 3))
      cases d with
      | true =>
        by_cases hxn : x = n
        · subst hxn
          rw [if_neg (by simp), if_neg (by simp)] at hP
          have HP := Lib.hid hP
          clear hP HOn HOx HHn HHx hBn hBx
          go_wp2
          go_roundw
          case rel => exact ⟨k + 1, true, pre, by omega, by go_num, rfl, by simpa using HP.out, by omega, HO.out, hB⟩
          case measure => simp [intOf]; omega
        · rw [if_neg (by simp), if_pos hxn] at hP
          have HP := Lib.hid hP
          have m0 : (x != n) = true := by simp [bne, hxn]
          clear hP HOn HHn hBn hxn
          go_wp2_with (at_builtin; refine wpList_append_own _ rfl _ _ 25 rfl w.heap.size 3 i0 (.int .i64 0) 1 8 Try.underlying25 hi hz0 hz1 hz2 rfl (by decide) _ _ _ rfl HOx.out ⟨wr.heap.size, 0, none⟩ 1 1 [.int .i64 x] rfl rfl (World.news_of_block (cs := #[.int .i64 x]) HHx.out) (by intro u hu; simp at hu; subst hu; rfl) (by unfold maxLen; omega) (by omega) hz1x ?_)
          intro v' w3 h1 h2 _
          have hB4 := Lib.hid (OwnR.below HOx.out hBx hz1x h2)
          have HO3 := Lib.hid (show OwnI w3 w.heap.size v' (pre ++ [x]) from OwnR.snoc h1 rfl rfl)
          clear h1 h2 hBx
          go_wp2
          go_roundw
          case rel => exact ⟨k + 1, true, pre ++ [x], by omega, by go_num, rfl, by simpa using HP.out, by simp; omega, HO3.out, hB4.out⟩
          case measure => simp [intOf]; omega
      | false =>
        by_cases hle : n ≤ x
        · by_cases hxn : x = n
          · subst hxn
            rw [if_pos ⟨rfl, hle⟩, if_neg (by simp), decide_eq_true hle] at hP
            have HP := Lib.hid hP
            clear hP HOx HHx hBx hz1x hle
            go_wp2_with (at_builtin; refine wpList_append_own _ rfl _ _ 25 rfl w.heap.size 3 i0 (.int .i64 0) 1 8 Try.underlying25 hi hz0 hz1 hz2 rfl (by decide) _ _ _ rfl HOn.out ⟨wr.heap.size, 0, none⟩ 1 1 [.int .i64 x] rfl rfl (World.news_of_block (cs := #[.int .i64 x]) HHn.out) (by intro u hu; simp at hu; subst hu; rfl) (by unfold maxLen; omega) (by omega) hz1' ?_)
            intro v' w3 h1 h2 _
            have hB4 := OwnR.below HOn.out hBn hz1' h2
            have p3 := (hB4.cell (p := ⟨g, o + k, none⟩) hg).trans PW.out
            have HO3 := Lib.hid (show OwnI w3 w.heap.size v' (pre ++ [x]) from OwnR.snoc h1 rfl rfl)
            clear h1 h2 hBn p0
            go_wp2
            go_roundw
            case rel => exact ⟨k + 1, true, pre ++ [x], by omega, by go_num, rfl, by simpa using HP.out, by simp; omega, HO3.out, hB4⟩
            case measure => simp [intOf]; omega
          · rw [if_pos ⟨rfl, hle⟩, if_pos hxn, decide_eq_true hle] at hP
            have HP := Lib.hid hP
            have m0 : (x != n) = true := by simp [bne, hxn]
            clear hP HOx HHx hBx hz1x hxn
            go_wp2_with (at_builtin; refine wpList_append_own _ rfl _ _ 25 rfl w.heap.size 3 i0 (.int .i64 0) 1 8 Try.underlying25 hi hz0 hz1 hz2 rfl (by decide) _ _ _ rfl HOn.out ⟨wr.heap.size, 0, none⟩ 1 1 [.int .i64 n] rfl rfl (World.news_of_block (cs := #[.int .i64 n]) HHn.out) (by intro u hu; simp at hu; subst hu; rfl) (by unfold maxLen; omega) (by omega) hz1' ?_)
            intro v' w3 h1 h2 _
            have hB4 := OwnR.below HOn.out hBn hz1' h2
            have p3 := (hB4.cell (p := ⟨g, o + k, none⟩) hg).trans PW.out
            have HO3 := Lib.hid ((show OwnI w3 w.heap.size v' (pre ++ [n]) from OwnR.snoc h1 rfl rfl).alloc (.cells #[.int .i64 x] 3))
            have HH3 := Lib.hid (heap_alloc_new w3 (.cells #[.int .i64 x] 3))
            have hz3 : w.heap.size ≤ (w3.alloc (.cells #[.int .i64 x] 3)).heap.size := by have := hB4.size; simp; omega
            have hB5 := hB4.alloc hB4.size (.cells #[.int .i64 x] 3)
            have hpn2 : (pre ++ [n]).length ≤ 2000001 := by simp; omega
            clear h1 h2 hBn p0 HOn HHn
            go_wp2_with (at_builtin; refine wpList_append_own _ rfl _ _ 25 rfl w.heap.size 3 i0 (.int .i64 0) 1 8 Try.underlying25 hi hz0 hz1 hz2 rfl (by decide) _ _ _ rfl HO3.out ⟨w3.heap.size, 0, none⟩ 1 1 [.int .i64 x] rfl rfl (World.news_of_block (cs := #[.int .i64 x]) HH3.out) (by intro u hu; simp at hu; subst hu; rfl) (by unfold maxLen; omega) (by omega) hz3 ?_)
            intro v2 w5 h1 h2 _
            have hB6 := Lib.hid (OwnR.below HO3.out hB5 hz3 h2)
            have HO5 := Lib.hid (show OwnI w5 w.heap.size v2 ((pre ++ [n]) ++ [x]) from OwnR.snoc h1 (by simp) rfl)
            clear h1 h2 hB5 hB4
            go_wp2
            go_roundw
            case rel => exact ⟨k + 1, true, (pre ++ [n]) ++ [x], by omega, by go_num, rfl, by simpa using HP.out, by simp; omega, HO5.out, hB6.out⟩
            case measure => simp [intOf]; omega
        · have hxn : x ≠ n := by omega
          rw [if_neg (by omega), if_pos hxn, decide_eq_false hle] at hP
          have HP := Lib.hid hP
          have m0 : (x != n) = true := by simp [bne, hxn]
          clear hP HOn HHn hBn hxn
          go_wp2_with (at_builtin; refine wpList_append_own _ rfl _ _ 25 rfl w.heap.size 3 i0 (.int .i64 0) 1 8 Try.underlying25 hi hz0 hz1 hz2 rfl (by decide) _ _ _ rfl HOx.out ⟨wr.heap.size, 0, none⟩ 1 1 [.int .i64 x] rfl rfl (World.news_of_block (cs := #[.int .i64 x]) HHx.out) (by intro u hu; simp at hu; subst hu; rfl) (by unfold maxLen; omega) (by omega) hz1x ?_)
          intro v' w3 h1 h2 _
          have hB4 := Lib.hid (OwnR.below HOx.out hBx hz1x h2)
          have HO3 := Lib.hid (show OwnI w3 w.heap.size v' (pre ++ [x]) from OwnR.snoc h1 rfl rfl)
          clear h1 h2 hBx
          go_wp2
          go_roundw
          case rel => exact ⟨k + 1, false, pre ++ [x], by omega, by go_num, rfl, by simpa using HP.out, by simp; omega, HO3.out, hB4.out⟩
          case measure => simp [intOf]; omega
    · have hk2 : k = l.length := by omega
      rw [hk2, List.drop_length] at hp
      rw [hk2]
      clear hk hk2 hlt
      cases d with
      | true =>
        have hp' : putR n l false = pre := by rw [hp]; simp [putR]
        have HP := Lib.hid hp'
        clear hp hp'
        go_wp2
        go_ret
        exact ⟨_, rfl, by rw [HP.out]; exact HO.out.ints, hB⟩
      | false =>
        have hp' : putR n l false = pre ++ [n] := by rw [hp]; simp [putR]
        have HP := Lib.hid hp'
        have hz1' : w.heap.size ≤ (wr.alloc (.cells #[.int .i64 n] 3)).heap.size := by simp; omega
        have hBn := hB.alloc hsz (.cells #[.int .i64 n] 3)
        have HOn := Lib.hid (HO.out.alloc (.cells #[.int .i64 n] 3))
        have HHn := Lib.hid (heap_alloc_new wr (.cells #[.int .i64 n] 3))
        clear hp hp'
        go_wp2_with (at_builtin; refine wpList_append_own _ rfl _ _ 25 rfl w.heap.size 3 i0 (.int .i64 0) 1 8 Try.underlying25 hi hz0 hz1 hz2 rfl (by decide) _ _ _ rfl HOn.out ⟨wr.heap.size, 0, none⟩ 1 1 [.int .i64 n] rfl rfl (World.news_of_block (cs := #[.int .i64 n]) HHn.out) (by intro u hu; simp at hu; subst hu; rfl) (by unfold maxLen; omega) (by omega) hz1' ?_)
        intro v' w3 h1 h2 _
        have hB4 := Lib.hid (OwnR.below HOn.out hBn hz1' h2)
        have HO3 := Lib.hid (show OwnI w3 w.heap.size v' (pre ++ [n]) from OwnR.snoc h1 rfl rfl)
        clear h1 h2 hBn
        go_wp2
        go_ret
        exact ⟨_, rfl, by rw [HP.out]; exact HO3.out.ints, hB4.out⟩
end Go.Proofs.Ytmkepmjdckdpgaa
/- The walks of the document's answers for layer 7: what a way goes through. -/
namespace Go.Proofs.Ytmkepmjdckdpgaa
open Go.RowKit

theorem putR_len (n : Int) (l : List Int) : ∀ d, (putR n l d).length ≤ l.length + (if d = true then 0 else 1) := by
  induction l with
  | nil => intro d; cases d <;> simp [putR]
  | cons x l ih =>
    intro d
    unfold putR
    rw [List.length_append, List.length_append]
    have h1 := ih (d || decide (n ≤ x))
    have h2 : (if x ≠ n then [x] else []).length ≤ 1 := by split <;> simp
    have h3 : (if d = false ∧ n ≤ x then [n] else []).length + (if (d || decide (n ≤ x)) = true then 0 else 1) ≤ (if d = true then 0 else 1) := by
      cases d <;> by_cases h : n ≤ x <;> simp [h]
    simp only [List.length_cons]
    omega
theorem crs7_len (hit : Ais → Bool) (l : List Ais) : (crs7 hit l).length ≤ l.length := by
  have key : ∀ k, k ≤ l.length → (crs7 hit (l.take k)).length ≤ k := by
    intro k
    induction k with
    | zero => intro _; simp [crs7]
    | succ k ih =>
      intro hk
      have h0 := ih (by omega)
      rw [crs7_next hit l k (by omega)]
      split
      · have := putR_len (pa l k).id (crs7 hit (l.take k)) false
        simp at this
        omega
      · omega
  have := key l.length (Nat.le_refl _)
  rwa [List.take_length] at this
theorem crs7_len' (hit : Ais → Bool) (l : List Ais) (k : Nat) : (crs7 hit (l.take k)).length ≤ l.length := by
  have := crs7_len hit (l.take k)
  rw [List.length_take] at this
  omega
theorem hit_next (a : Ais) (w : List (Int × Int)) (j : Nat) (h : j < w.length) : hitB (w.take (j + 1)) a = (hitB (w.take j) a || hasB a (pat w j).1 (pat w j).2) := by
  unfold hitB
  rw [List.take_add_one, pat_get w j h]
  simp
theorem hit_front {a : Ais} {w : List (Int × Int)} {j : Nat} (h : hitB (w.take j) a = true) : hitB w a = true := by
  unfold hitB at *
  rw [List.any_eq_true] at *
  obtain ⟨z, h1, h2⟩ := h
  exact ⟨z, List.mem_of_mem_take h1, h2⟩

set_option maxHeartbeats 4000000 in
set_option maxRecDepth 100000 in
theorem refCross_any (va : Value) (l : List Ais) (x1 y1 x2 y2 how : Int) (w : World) (ha : AisAt w va l) (hl : l.length ≤ 100000) :
    Calls Try.prog 35 #[va, .agg #[.int .i64 x1, .int .i64 y1], .agg #[.int .i64 x2, .int .i64 y2], .int .i64 how] w fun e w' => ∃ v, e = .returned v ∧ IntsAt w' v (crs7 (hitB (rway (wd x1, wd y1) (wd x2, wd y2) how)) l) ∧ Below w.heap.size w w' := by
  have hr := fun w => refRoute_any x1 y1 x2 y2 how w
  have hwl := rway_length (wd x1, wd y1) (wd x2, wd y2) how
  have hgb := gap_bd (a := (wd x1, wd y1)) (b := (wd x2, wd y2)) ⟨wd_bd x1, wd_bd y1⟩ ⟨wd_bd x2, wd_bd y2⟩
  have hway : (rway (wd x1, wd y1) (wd x2, wd y2) how).length ≤ 4001 := by omega
  clear hwl hgb
  generalize rway (wd x1, wd y1) (wd x2, wd y2) how = W at *
  obtain ⟨a, c, rfl⟩ := RowsAt.form ha
  have HA := Lib.hid ha
  have HR := Lib.hid hr
  clear ha hr
  have hB : Below w.heap.size w ((w.alloc (.cells #[.int .i64 x1, .int .i64 y1] 24)).alloc (.cells #[.int .i64 x2, .int .i64 y2] 24)) := ((Below.refl _ _).alloc (Nat.le_refl _) _).alloc (by simp) _
  go_enter Try.func35, Try.ntmps35
  go_wp2_with (go_at_call 56; (with_reducible refine (HR.out _).mono ?_); rintro e w1 ⟨vw, rfl, hp, hb⟩; have HW := Lib.hid hp; have hB1 := hB.trans (hb.mono hB.size); obtain ⟨aw, cw, evw⟩ := (show ∃ a c, vw = .slice a W.length c from (by obtain ⟨a, c, e, _⟩ := hp; exact ⟨a, c, e⟩)); subst evw; clear hb hp hB)
  go_loopw [10, 11, 12, 13] (fun out i _ _ wr => ∃ k : Nat, k ≤ l.length ∧ i = .int .i64 k ∧ IntsAt wr out (crs7 (hitB W) (l.take k)) ∧ Below w1.heap.size w1 wr) (fun _ i _ _ _ => l.length - (intOf i).toNat)
  case atStart => exact ⟨0, Nat.zero_le _, rfl, IntsAt.nil _, Below.refl _ _⟩
  case round =>
    obtain ⟨k, hk, rfl, hout, hB⟩ := hrel
    have HOUT := Lib.hid hout
    clear hout
    obtain ⟨wo, rfl⟩ : ∃ x, x = wr := ⟨wr, rfl⟩
    by_cases hlt : k < l.length
    · have hnx := crs7_next (hitB W) l k hlt
      have HAA := Lib.hid (fun (wq : World) (h : Below w1.heap.size w1 wq) => HA.out.kept (hB1.trans (h.mono hB1.size)))
      obtain ⟨g, o, c', i, a1, a2, b1, b2, hlk, ev, hc, hg, p0, p1, p2, p3, p4⟩ := AisAt.at (HAA.out _ hB) k hlt
      cases ev
      have j0 : (0 : Int) ≤ (k : Int) := by omega
      have j1 : (k : Int) < (l.length : Int) := by omega
      rw [hlk] at hnx
      have HNX := Lib.hid hnx
      have HLK := Lib.hid hlk
      clear hnx hlk
      go_wp2
      go_loopw [12, 13] (fun s m wq => ∃ (j : Nat) (b : Bool), j ≤ W.length ∧ m = .int .i64 j ∧ s = .bool b ∧ b = hitB (W.take j) ⟨i, a1, a2, b1, b2⟩ ∧ Below wo.heap.size wo wq) (fun _ m _ => W.length - (intOf m).toNat)
      case atStart => exact ⟨0, false, Nat.zero_le _, rfl, rfl, rfl, Below.refl _ _⟩
      case round =>
        obtain ⟨j, b, hj, rfl, rfl, hb, hBq⟩ := hrel
        have hgw : g < wo.heap.size := World.block_lt_of_cell? _ _ p0
        have q0 := (hBq.cell (p := ⟨g, o + k * 5, none⟩) hgw).trans p0
        have q1 := (hBq.cell (p := ⟨g, o + k * 5 + 1, none⟩) hgw).trans p1
        have q2 := (hBq.cell (p := ⟨g, o + k * 5 + 2, none⟩) hgw).trans p2
        have q3 := (hBq.cell (p := ⟨g, o + k * 5 + 3, none⟩) hgw).trans p3
        have q4 := (hBq.cell (p := ⟨g, o + k * 5 + 4, none⟩) hgw).trans p4
        have hBw := hB.trans (hBq.mono hB.size)
        have HBT := Lib.hid hb
        clear hb
        by_cases hgo : b = false ∧ j < W.length
        · obtain ⟨rfl, hjl⟩ := hgo
          obtain ⟨g', o', c', ev, hc', hg', r1, r2⟩ := (HW.out.kept hBw).spot j hjl
          cases ev
          have hnx2 := hit_next ⟨i, a1, a2, b1, b2⟩ W j hjl
          rw [← HBT.out, Bool.false_or] at hnx2
          obtain ⟨⟨x, y⟩, hxy⟩ : ∃ p, pat W j = p := ⟨_, rfl⟩
          rw [hxy] at hnx2 r1 r2
          simp only at hnx2 r1 r2
          have hh := fun w => refPHas_any ⟨i, a1, a2, b1, b2⟩ x y w
          rw [← hnx2] at hh
          have HH := Lib.hid hh
          have m0 : (0 : Int) ≤ (j : Int) := by omega
          have m1 : (j : Int) < (W.length : Int) := by omega
          clear hnx2 hxy hh p0 p1 p2 p3 p4
          go_wp2
          refine wp_region_calm0 (by kernel_rfl) (by kernel_rfl) fun M => ?_
          have e0 := fun n : In M.w => n.cell (M.cell q0)
          have e1 := fun n : In M.w => n.cell (M.cell q1)
          have e2 := fun n : In M.w => n.cell (M.cell q2)
          have e3 := fun n : In M.w => n.cell (M.cell q3)
          have e4 := fun n : In M.w => n.cell (M.cell q4)
          have f1 := fun n : In M.w => n.cell (M.cell r1)
          have f2 := fun n : In M.w => n.cell (M.cell r2)
          repeat (go_big_quiet_step ((go_at_call 57; with_reducible exact In.call (HH.out _))))
          refine wpQuiet_nil ?_
          intro w4 hb
          have hB5 := hBq.trans (hb.mono hBq.size)
          clear e0 e1 e2 e3 e4 f1 f2 M hb q0 q1 q2 q3 q4 r1 r2
          go_wp2
          go_roundw
          case rel => exact ⟨j + 1, _, by omega, by go_num, rfl, rfl, hB5⟩
          case measure => simp [intOf]; omega
        · have hfin : b = hitB W ⟨i, a1, a2, b1, b2⟩ := by
            cases b with
            | true => exact (hit_front HBT.out.symm).symm
            | false =>
              have : j = W.length := by simp at hgo; omega
              have h := HBT.out
              rw [this, List.take_length] at h
              exact h
          have hnj : b = false → ¬ ((j : Int) < (W.length : Int)) := fun e h => hgo ⟨e, by omega⟩
          clear hgo
          cases b with
          | true =>
            have hno : crs7 (hitB W) (l.take (k + 1)) = putR i (crs7 (hitB W) (l.take k)) false := by rw [HNX.out, if_pos hfin.symm]
            have HNO := Lib.hid hno
            have hlen := crs7_len' (hitB W) l k
            have hput := fun w v h => refPut_any v (crs7 (hitB W) (l.take k)) i w h (by omega)
            have HPUT := Lib.hid hput
            have HO1 := Lib.hid (HOUT.out.below hBq)
            clear hno hput hfin hnj hlen
            go_wp2_with (go_at_call 58; (with_reducible refine (HPUT.out _ _ HO1.out).mono ?_); rintro e w6 ⟨v6, rfl, hi6, hb⟩; have HI6 := Lib.hid hi6; have hB6 := hBw.trans (hb.mono hBw.size); clear hb hi6 q0 q1 q2 q3 q4)
            go_roundw
            case rel => exact ⟨k + 1, by omega, by go_num, by rw [HNO.out]; exact HI6.out, hB6⟩
            case measure => simp [intOf]; omega
            case roundEnd => exact ⟨⟨k + 1, by omega, by go_num, by rw [HNO.out]; exact HI6.out, hB6⟩, by simp [intOf]; omega⟩
          | false =>
            have hno : crs7 (hitB W) (l.take (k + 1)) = crs7 (hitB W) (l.take k) := by rw [HNX.out, if_neg (by rw [← hfin]; decide)]
            have HNO := Lib.hid hno
            have hj2 := hnj rfl
            have HO1 := Lib.hid (HOUT.out.below hBq)
            clear hno hfin hnj
            go_wp2
            go_roundw
            case rel => exact ⟨k + 1, by omega, by go_num, by rw [HNO.out]; exact HO1.out, hBw⟩
            case measure => simp [intOf]; omega
    · have hk2 : k = l.length := by omega
      rw [hk2, List.take_length] at HOUT
      rw [hk2]
      clear hk hk2 hlt
      go_wp2
      go_ret
      exact ⟨_, rfl, HOUT.out, hB1.trans (hB.mono hB1.size)⟩
end Go.Proofs.Ytmkepmjdckdpgaa
/- The walks of the document's answers for layer 7: aisles moved. -/
namespace Go.Proofs.Ytmkepmjdckdpgaa
open Go.RowKit

/-- an aisle moved -/
def mvA (n x y : Int) (a : Ais) : Ais :=
  ⟨a.id, min (rmv n x y (a.lx, a.ly)).1 (rmv n x y (a.hx, a.hy)).1, min (rmv n x y (a.lx, a.ly)).2 (rmv n x y (a.hx, a.hy)).2,
    max (rmv n x y (a.lx, a.ly)).1 (rmv n x y (a.hx, a.hy)).1, max (rmv n x y (a.lx, a.ly)).2 (rmv n x y (a.hx, a.hy)).2⟩
theorem take_map_ais (f : Ais → Ais) (l : List Ais) (k : Nat) (h : k < l.length) : (l.take (k + 1)).map f = (l.take k).map f ++ [f (pa l k)] := by
  rw [List.take_succ_eq_append_getElem h, List.map_append, pa_get l k h]
  rfl
theorem OwnR.ltP {α : Type} {w : World} {B : Nat} {e : TypeId} {K : Nat} {cs : α → List Value} {v : Value} {l : List α} (h : OwnR w B e K cs v l) {k : Nat} (hk : w.heap.size ≤ k) : v.ownBlock ≠ some k := by
  rcases h.2 with ⟨rfl, _⟩ | ⟨g, cap, cur, rfl, _, hh, _⟩
  · simp [Value.ownBlock]
  · have := lt_of_block hh
    simp [Value.ownBlock]
    omega
theorem info_ais : (Try.prog.info? 45).map (fun i => (i.zero, i.size, i.bytes)) = some (some (.agg #[.int .i64 0, .int .i64 0, .int .i64 0, .int .i64 0, .int .i64 0]), 5, 40) := by kernel_rfl

end Go.Proofs.Ytmkepmjdckdpgaa
