/- Texts of this proof, joined: TkB; BtD; BtE; BtF. -/
import Derived.Test.YtlacbjgjiggikaaBun15
/- Stage 22: the program's Check and Rules. -/
namespace Go.Proofs.Ytlacbjgjiggikaa
open Go.RowKit

/-- a row of bounds in new memory -/
def lkBds (l : List Bd) (n : Nat) : Lk := ⟨Nat, ⟨0⟩, fun b => .slice (some ⟨b, 0, none⟩) n n, fun b w => RowsAt w 3 csBd (.slice (some ⟨b, 0, none⟩) n n) l⟩
theorem lkBds_at {P : Program} {o : Oper} {a : Act} {W : World} {G : World → Prop} {l : List Bd} {n : Nat} {t : TypeId} (hn : n = l.length) (he : ∀ k : In W, (execOp a.eval o).run P k.w = .ok (.value (.slice (some ⟨k.w.heap.size, 0, none⟩) n n)) (k.w.alloc (.cells (flats csBd l).toArray t))) : (lkBds l n).at P o a W G :=
  ⟨fun _ _ _ h hb => RowsAt.kept h hb, fun k _ => by
    rw [he k]
    exact ⟨k.w.heap.size, rfl, rowsLit csBd_len k.w l t n hn, (Below.refl W.heap.size _).alloc k.h.size _⟩⟩

set_option maxHeartbeats 8000000 in
set_option maxRecDepth 100000 in
theorem tAfter_any (id : Int) (va : Value) (l : List Int) (w : World) (ha : IntsAt w va l) (_hl : l.length ≤ 9223372036854775807) :
    Calls Try.prog 31 #[.int .i64 id, va] w fun e w' => e = .returned (.bool (aftB id l)) ∧ Below w.heap.size w w' := by
  obtain ⟨r, hr⟩ : ∃ r, aftB id l = r := ⟨_, rfl⟩
  have hw2 : (r = false ∧ (8 < (l.length : Int) ∨ (¬ 8 < (l.length : Int) ∧ rightB l = false) ∨ (¬ 8 < (l.length : Int) ∧ rightB l = true ∧ inL l id = true))) ∨ (¬ 8 < (l.length : Int) ∧ rightB l = true ∧ inL l id = false ∧ idsB l = r) := by
    have h := aft_ways id l (r := if aftB id l = true then 0 else 1) (fun h => by rw [h]; rfl) (fun h => by rw [h]; rfl)
    rw [hr] at h
    rcases h with ⟨h1, h2⟩ | ⟨h1, h2, h3, h4, h5⟩
    · refine .inl ⟨?_, h2⟩
      cases r with
      | false => rfl
      | true => simp at h1
    · refine .inr ⟨h1, h2, h3, ?_⟩
      cases hi : idsB l with
      | false => have := h4 hi; cases r with
        | false => rfl
        | true => simp at this
      | true => have := h5 hi; cases r with
        | false => simp at this
        | true => rfl
  rw [hr]
  have HA := Lib.hid ha
  have GR := Lib.hid fun w h (h8 : ¬ 8 < (l.length : Int)) => iRight_any va l w h (by omega)
  have GN := Lib.hid fun w h (h8 : ¬ 8 < (l.length : Int)) => iHas_any va l id w h (by omega)
  obtain ⟨a, c, rfl⟩ := ha.form
  obtain ⟨rt, hrt⟩ : ∃ rt, rightB l = rt := ⟨_, rfl⟩
  obtain ⟨nn, hnn⟩ : ∃ nn, inL l id = nn := ⟨_, rfl⟩
  rw [hrt] at GR hw2
  rw [hnn] at GN hw2
  have HB := Lib.hid (Below.refl w.heap.size w)
  clear hrt hnn ha hr
  rcases hw2 with ⟨rfl, hw2⟩ | ⟨h8, rfl, rfl, hids⟩
  · rcases hw2 with h8 | ⟨h8, rfl⟩ | ⟨h8, rfl, rfl⟩
    all_goals
      have H8 := Lib.hid h8
      go_enter Try.func31, Try.ntmps31
      go_wp2_with (first
        | (go_at_call 40; (with_reducible refine (GR.out _ (HA.out.below HB.out) H8.out).mono ?_); rintro e w3 ⟨rfl, hb3⟩; replace HB := Lib.hid (HB.out.trans (hb3.mono HB.out.size)); clear hb3)
        | (go_at_call 41; (with_reducible refine (GN.out _ (HA.out.below HB.out) H8.out).mono ?_); rintro e w4 ⟨rfl, hb4⟩; replace HB := Lib.hid (HB.out.trans (hb4.mono HB.out.size)); clear hb4))
      go_ret
      exact ⟨rfl, HB.out⟩
  · have H8 := Lib.hid h8
    have HIDS := Lib.hid hids
    obtain ⟨i0, hi, hz0, hz1, hz2⟩ := info_parts info_bd
    clear hids
    go_enter Try.func31, Try.ntmps31
    go_wp2_with (first
      | (go_at_call 40; (with_reducible refine (GR.out _ (HA.out.below HB.out) H8.out).mono ?_); rintro e w3 ⟨rfl, hb3⟩; replace HB := Lib.hid (HB.out.trans (hb3.mono HB.out.size)); clear hb3)
      | (go_at_call 41; (with_reducible refine (GN.out _ (HA.out.below HB.out) H8.out).mono ?_); rintro e w4 ⟨rfl, hb4⟩; replace HB := Lib.hid (HB.out.trans (hb4.mono HB.out.size)); clear hb4))
    go_loopw [5, 23] (fun sv iv wr => ∃ k : Nat, k ≤ l.length ∧ iv = .int .i64 k ∧ Hid (OwnR wr w.heap.size 67 3 csBd sv ((l.take k).map fun n => ⟨n, 1, 999⟩)) ∧ Hid (Below w.heap.size w wr)) (fun _ iv _ => l.length - (intOf iv).toNat)
    case atStart => exact ⟨0, by omega, rfl, OwnR.nil _ _ _ _ _, HB.out⟩
    case round =>
      obtain ⟨k, hk, rfl, HO, HB2⟩ := hrel
      have k2 : (k : Int) ≤ 1000 := by have := H8.out; omega
      have k0 : (0 : Int) ≤ (k : Int) := by omega
      obtain ⟨aT, cT, e⟩ := RowsAt.form (OwnR.rows csBd_len HO.out)
      subst e
      by_cases hlt : k < l.length
      · obtain ⟨g, o, cc, e, hlc, _, p0⟩ := IntsAt.spot (HA.out.below HB2.out) k hlt
        cases e
        have k1 : (k : Int) < (l.length : Int) := by omega
        have hsu : (l.take (k + 1)).map (fun n => (⟨n, 1, 999⟩ : Bd)) = (l.take k).map (fun n => (⟨n, 1, 999⟩ : Bd)) ++ [⟨l[k], 1, 999⟩] := by
          rw [List.take_succ_eq_append_getElem hlt, List.map_append]
          rfl
        have hdl : ((l.take k).map fun n => (⟨n, 1, 999⟩ : Bd)).length ≤ 1000 := by
          rw [List.length_map, List.length_take]
          have := H8.out
          omega
        have HSU := Lib.hid hsu
        have HDL := Lib.hid hdl
        have HK := Lib.hid hlt
        generalize l[k] = n at *
        have G := Lib.hid fun w => tOfID_any n w
        generalize (l.take k).map (fun n => (⟨n, 1, 999⟩ : Bd)) = D at *
        clear hsu hdl hlt hk
        go_wp2_with (first
          | (go_at_call 29; (with_reducible refine (G.out _).mono ?_); rintro e w5 ⟨rfl, hb5⟩; have HO5 := Lib.hid (OwnR.alloc (OwnR.kept HO.out hb5) (.cells #[.int .i64 n, .int .i64 1, .int .i64 999] 67)); have HB5 := Lib.hid ((HB2.out.trans (hb5.mono HB2.out.size)).alloc (Nat.le_trans HB2.out.size hb5.size) (.cells #[.int .i64 n, .int .i64 1, .int .i64 999] 67)); have HP5 := Lib.hid (rowsLit csBd_len w5 [⟨n, 1, 999⟩] 67 1 rfl); clear hb5)
          | (at_builtin; refine wpList_append_rows csBd_len (by decide) csBd_one rfl _ _ 76 rfl w.heap.size 67 i0 (.agg #[.int .i64 0, .int .i64 0, .int .i64 0]) 24 Try.underlying76 hi hz0 hz1 hz2 rfl _ _ rfl HO5.out _ [⟨n, 1, 999⟩] rfl HP5.out (by have := HDL.out; unfold maxLen; simp; omega) (by have := HDL.out; simp; omega) HB5.out.size ?_; intro v2 w2 o2 g2; have HO6 := Lib.hid o2; have HB6 := Lib.hid (OwnR.below HO5.out HB5.out HB5.out.size g2); clear o2 g2))
        go_roundw
        case rel => exact ⟨k + 1, by have := HK.out; omega, by go_num, by rw [HSU.out]; exact HO6.out, HB6.out⟩
        case measure => have := HK.out; simp [intOf] <;> omega
      · have hke : k = l.length := by omega
        have e : ((l.take k).map fun n => (⟨n, 1, 999⟩ : Bd)).all Bd.ok = r := by
          rw [hke, List.take_length, List.all_map]
          exact HIDS.out
        have G := Lib.hid fun w h => tKept_any (.slice aT ((l.take k).map fun n => (⟨n, 1, 999⟩ : Bd)).length cT) ((l.take k).map fun n => (⟨n, 1, 999⟩ : Bd)) w h (by rw [List.length_map, List.length_take]; have := H8.out; omega)
        rw [e] at G
        have HO7 := Lib.hid (OwnR.rows csBd_len HO.out)
        subst hke
        generalize (l.take l.length).map (fun n => (⟨n, 1, 999⟩ : Bd)) = D at *
        clear e hlt HO
        go_wp2_with (go_at_call 28; (with_reducible refine (G.out _ HO7.out).mono ?_); rintro e w5 ⟨rfl, hb5⟩; have HB5 := Lib.hid (HB2.out.trans (hb5.mono HB2.out.size)); clear hb5)
        go_ret
        exact ⟨rfl, HB5.out⟩

set_option maxHeartbeats 8000000 in
set_option maxRecDepth 100000 in
theorem tCheck_any (x : Sp) (w : World) (ha : IntsAt w x.v x.aft) (hl : x.aft.length ≤ 9223372036854775807) :
    Calls Try.prog 20 #[spv x] w fun e w' => e = .returned (.int .i64 (chk x)) ∧ Below w.heap.size w w' := by
  have hcs := chk_cases x
  have hns : (bdsS x).all Bd.ok = numS x := rfl
  obtain ⟨r, hr⟩ : ∃ r, chk x = r := ⟨_, rfl⟩
  rw [hr] at hcs ⊢
  obtain ⟨ns, hns2⟩ : ∃ ns, numS x = ns := ⟨_, rfl⟩
  rw [hns2] at hns hcs
  have GK := Lib.hid fun w va h => tKept_any va (bdsS x) w h (by simp [bdsS])
  rw [hns] at GK
  obtain ⟨id, prio, sk, ge, fx, fy, tx, ty, a, c, l⟩ := x
  dsimp only [Sp.v, spv] at *
  unfold bdsS at GK
  dsimp only at GK
  have GA := Lib.hid fun w h => tAfter_any id (.slice a l.length c) l w h hl
  obtain ⟨ab, hab⟩ : ∃ ab, aftB id l = ab := ⟨_, rfl⟩
  rw [hab] at GA hcs
  have HX := Lib.hid (boxS w id prio sk ge fx fy tx ty (.slice a l.length c))
  have hAL := (Below.refl w.heap.size w).alloc (Nat.le_refl _) (.cells #[.int .i64 id, .int .i64 prio, .int .u64 sk, .int .u64 ge, .int .i64 fx, .int .i64 fy, .int .i64 tx, .int .i64 ty, .slice a l.length c] 37)
  have HI := Lib.hid (ha.below hAL)
  have HAL := Lib.hid hAL
  have G0 := Lib.hid fun w => tOfID_any id w
  have G1 := Lib.hid fun w => tOfPart_any fx w
  have G2 := Lib.hid fun w => tOfPart_any fy w
  have G3 := Lib.hid fun w => tOfPart_any tx w
  have G4 := Lib.hid fun w => tOfPart_any ty w
  clear hr hns hns2 hab ha hl hAL
  go_enter Try.func20, Try.ntmps20
  go_wp2
  generalize w.alloc (.cells #[.int .i64 id, .int .i64 prio, .int .u64 sk, .int .u64 ge, .int .i64 fx, .int .i64 fy, .int .i64 tx, .int .i64 ty, .slice a l.length c] 37) = W0 at *
  refine wp_region_chain 25 [.calm 22, .own (lkBds [⟨id, 1, 999⟩, ⟨prio, 0, 1048575⟩, ⟨fx, -1000, 1000⟩, ⟨fy, -1000, 1000⟩, ⟨tx, -1000, 1000⟩, ⟨ty, -1000, 1000⟩] 6), .own (Lk.val1 (.bool ns)), .calm 1] [22, 23] rfl (by kernel_rfl) (by simp) (by kernel_rfl) (chainOf_two (by kernel_rfl)) ?_
  simp only [List.take_succ_cons, List.take_zero, List.drop_succ_cons, List.drop_zero]
  refine ⟨by simp, fun M => ?_⟩
  simp only [List.take_succ_cons, List.take_zero, List.drop_succ_cons, List.drop_zero]
  have m0 := fun n : In M.w => n.cell (M.cell (HX.out.cell 0 rfl))
  have m1 := fun n : In M.w => n.cell (M.cell (HX.out.cell 1 rfl))
  have m4 := fun n : In M.w => n.cell (M.cell (HX.out.cell 4 rfl))
  have m5 := fun n : In M.w => n.cell (M.cell (HX.out.cell 5 rfl))
  have m6 := fun n : In M.w => n.cell (M.cell (HX.out.cell 6 rfl))
  have m7 := fun n : In M.w => n.cell (M.cell (HX.out.cell 7 rfl))
  repeat (go_big_quiet_step (first
    | (go_at_call 29; with_reducible exact In.call (G0.out _))
    | (go_at_call 30; with_reducible exact In.call (G1.out _))
    | (go_at_call 30; with_reducible exact In.call (G2.out _))
    | (go_at_call 30; with_reducible exact In.call (G3.out _))
    | (go_at_call 30; with_reducible exact In.call (G4.out _))))
  refine wpQuiet_nil ?_
  clear m0 m1 m4 m5 m6 m7 M
  refine ⟨rfl, lkBds_at (t := 67) rfl (fun k => by simp [go_sem, flats, csBd]), fun x1 A hA => ?_⟩
  simp [Act.put, lkBds] at hA
  subst hA
  refine ⟨rfl, lkSure_at (f := 28) (args := #[.slice (some ⟨x1, 0, none⟩) 6 6]) (fun k => by simp [go_sem]) (fun k hk => GK.out k.w _ hk), fun x2 A hA => ?_⟩
  simp [Act.put, Lk.val1] at hA
  subst hA
  refine ⟨by simp, fun M => ?_⟩
  simp only [List.take_succ_cons, List.take_zero, List.drop_succ_cons, List.drop_zero]
  repeat (go_big_quiet_step (fail))
  refine wpQuiet_nil ?_
  clear M
  refine ⟨rfl, fun w5 hb5 _ => ?_⟩
  have HX5 := Lib.hid (HX.out.kept hb5)
  have HI5 := Lib.hid (HI.out.below hb5)
  have HB5 := Lib.hid (HAL.out.trans (hb5.mono HAL.out.size))
  have c0 := HX5.out.cell 0 rfl
  have c8 := HX5.out.cell 8 rfl
  clear hb5 HX HI HAL
  rcases hcs with ⟨rfl, rfl⟩ | ⟨rfl, rfl, rfl⟩ | ⟨rfl, rfl, rfl⟩
  all_goals
    go_wp2_with (go_at_call 31; (with_reducible refine (GA.out _ HI5.out).mono ?_); rintro e w6 ⟨rfl, hb6⟩; replace HB5 := Lib.hid (HB5.out.trans (hb6.mono HB5.out.size)); clear hb6)
    go_ret
    exact ⟨rfl, HB5.out⟩

end Go.Proofs.Ytlacbjgjiggikaa
/- Stage 23's program: Order, inNoRing, firstError. -/
namespace Go.Proofs.Ytlacbjgjiggikaa
open Go.RowKit

theorem OwnR.only23 {α : Type} {w w' : World} {F : Nat → Prop} {B : Nat} {e : TypeId} {K : Nat} {cs : α → List Value} {v : Value} {l : List α} (h : OwnR w B e K cs v l) (ho : Only F w w') (hf : ∀ k, v.ownBlock = some k → ¬ F k) : OwnR w' B e K cs v l := by
  have hlt := World.ownsRow.lt h
  refine ⟨h.1, ?_⟩
  rcases h.2 with h1 | ⟨g, cap, cur, rfl, hg, hr⟩
  · exact .inl h1
  · refine .inr ⟨g, cap, cur, rfl, hg, ?_⟩
    rw [ho.block g (hlt g rfl).2 (hf g rfl)]
    exact hr
/-- one behind a list: what else there is stays -/
theorem appI23 {ops : Array Oper} {rest : List Oper} {o : Oper} {a : Act} {Q : Exit → Act → World → Prop} {B : Nat} {w : World} (x : Int) {v : Value} {l : List Int} (hown : OwnI w B v l) (hB : B ≤ w.heap.size) (hl : l.length ≤ 1000000)
    (hgd : o.guard = none) (s y : Operand) (ho : o.op = .call { callee := .builtin .append, args := #[s, y], argTypes := #[29, 29] }) (hs : a.eval s = v) (hx : a.eval y = .slice (some ⟨w.heap.size, 0, none⟩) 1 1)
    (hK : ∀ v' w', OwnI w' B v' (l ++ [x]) → Below B w w' → Only (fun k => v.ownBlock = some k) w w' → (∀ k, v'.ownBlock = some k → v.ownBlock = some k ∨ w.heap.size ≤ k) → wpList Try.prog ops Q rest (a.put o.dst v') w') : wpList Try.prog ops Q (o :: rest) a (w.alloc (.cells #[.int .i64 x] 3)) := by
  obtain ⟨i, hi, hz, hs1, hb1⟩ := info_parts info_int
  exact appK csI_len (by decide) csI_one13 3 29 i _ 8 Try.underlying29 hi hz hs1 hb1 rfl (by decide) hown hB hl hgd s y ho hs hx hK
theorem appA23 {ops : Array Oper} {rest : List Oper} {o : Oper} {a : Act} {Q : Exit → Act → World → Prop} {B : Nat} {w : World} (x : Arc16) {v : Value} {l : List Arc16} (hown : OwnR w B 53 2 csArc v l) (hB : B ≤ w.heap.size) (hl : l.length ≤ 1000000)
    (hgd : o.guard = none) (s y : Operand) (ho : o.op = .call { callee := .builtin .append, args := #[s, y], argTypes := #[51, 51] }) (hs : a.eval s = v) (hx : a.eval y = .slice (some ⟨w.heap.size, 0, none⟩) 1 1)
    (hK : ∀ v' w', OwnR w' B 53 2 csArc v' (l ++ [x]) → Below B w w' → Only (fun k => v.ownBlock = some k) w w' → (∀ k, v'.ownBlock = some k → v.ownBlock = some k ∨ w.heap.size ≤ k) → wpList Try.prog ops Q rest (a.put o.dst v') w') : wpList Try.prog ops Q (o :: rest) a (w.alloc (.cells #[.int .i64 x.src, .int .i64 x.dst] 53)) := by
  obtain ⟨i, hi, hz, hs1, hb1⟩ := info_parts info_arc
  exact appK csArc_len (by decide) csArc_one 53 51 i _ 16 Try.underlying51 hi hz hs1 hb1 rfl (by decide) hown hB hl hgd s y ho hs hx hK
theorem arcsO_pre (L : List Sp) (k : Nat) (hk : k < L.length) : (arcsO (L.take k)).length + L[k].aft.length ≤ (arcsO L).length := by
  have e : arcsO L = arcsO (L.take (k + 1)) ++ arcsO (L.drop (k + 1)) := by
    unfold arcsO
    rw [← List.flatMap_append, List.take_append_drop]
  rw [e, arcsO_take L k hk, List.length_append, List.length_append, List.length_map]
  omega
def Sp64 (L : List Sp) : Prop := ∀ x ∈ L, I64 x.id ∧ ∀ n ∈ x.aft, I64 n
theorem Sp64.ids {L : List Sp} (h : Sp64 L) : B64 (idsO L) := fun n hn => by
  obtain ⟨x, hx, rfl⟩ := List.mem_map.1 hn
  exact (h x hx).1
theorem Sp64.arcs {L : List Sp} (h : Sp64 L) : B64a (arcsO L) := fun a ha => by
  obtain ⟨x, hx, e, hs⟩ := arcsO_mem.1 ha
  refine ⟨(h x hx).2 _ hs, ?_⟩
  rw [e]
  exact (h x hx).1

set_option maxHeartbeats 4000000 in
set_option maxRecDepth 100000 in
theorem bOrder_any (vl : Value) (L : List Sp) (w : World) (hl : SpsAt w vl L) (hll : L.length ≤ 640) (hal : (arcsO L).length ≤ 640) (h64 : Sp64 L) :
    Calls Try.prog 9 #[vl] w fun e w' => ∃ v, e = .returned (.tuple #[v, .bool (wholeB L)]) ∧ IntsAt w' v (ordL (idsO L) (arcsO L)) ∧ Below w.heap.size w w' := by
  have hw : decide ((ordL (idsO L) (arcsO L)).length = (setL (idsO L)).length) = wholeB L := rfl
  have GO := fun (w' : World) (va vb : Value) (h1 : IntsAt w' va (idsO L)) (h2 : ArcsAt w' vb (arcsO L)) => gOrder_any va vb (idsO L) (arcsO L) w' h1 h2 (by rw [idsO_len]; exact hll) hal h64.ids h64.arcs
  rw [hw] at GO
  replace GO := Lib.hid GO
  generalize wholeB L = r at *
  have HL := Lib.hid hl
  have HAL := Lib.hid hal
  have HLL := Lib.hid hll
  obtain ⟨la, lc, rfl⟩ := hl.form
  have l2 : (L.length : Int) ≤ 640 := by omega
  clear hl hal hll hw h64
  go_enter Try.func9, Try.ntmps9
  go_wp2
  go_loopg [4, 5, 12] L.length (fun kx iv av kv ws => ∃ k : Nat, k ≤ L.length ∧ L.length - k ≤ kx ∧ kv = .int .i64 k ∧ Hid (OwnI ws w.heap.size iv (idsO (L.take k))) ∧ Hid (OwnR ws w.heap.size 53 2 csArc av (arcsO (L.take k))) ∧ Hid (Below w.heap.size w ws))
  case atStart => exact ⟨0, Nat.zero_le _, Nat.le_refl _, rfl, OwnR.nil _ _ _ _ _, OwnR.nil _ _ _ _ _, Below.refl _ _⟩
  case round =>
    obtain ⟨k, hk, hkx, rfl, HI, HA, HB⟩ := hrel
    obtain ⟨aT, cT, e⟩ := (OwnI.ints HI.out).form
    subst e
    obtain ⟨bT, dT, e⟩ := RowsAt.form (OwnR.rows csArc_len HA.out)
    subst e
    by_cases hlt : k < L.length
    · obtain ⟨g, o, cc, id, prio, sk, ge, fx, fy, tx, ty, a, c, l, he, e, hlc, p0, p1, p2, p3, p4, p5, p6, p7, p8, hi8⟩ := (HL.out.kept HB.out).spot k hlt
      cases e
      have HLT := Lib.hid (And.intro hlt hkx)
      have k0 : (0 : Int) ≤ (k : Int) := by omega
      have k1 : (k : Int) < (L.length : Int) := by omega
      have k2 : (k : Int) ≤ 640 := by have := HLL.out; omega
      have hin := idsO_take L k hlt
      have han := arcsO_take L k hlt
      have hpre := arcsO_pre L k hlt
      rw [he] at hin han hpre
      dsimp only at hin han hpre
      have hil : (idsO (L.take k)).length ≤ 640 := by rw [idsO_len, List.length_take]; have := HLL.out; omega
      have hX := Blk.new wr [.int .i64 id, .int .i64 prio, .int .u64 sk, .int .u64 ge, .int .i64 fx, .int .i64 fy, .int .i64 tx, .int .i64 ty, .slice a l.length c] 37
      have HI3 := Lib.hid (OwnR.alloc HI.out (.cells #[.int .i64 id, .int .i64 prio, .int .u64 sk, .int .u64 ge, .int .i64 fx, .int .i64 fy, .int .i64 tx, .int .i64 ty, .slice a l.length c] 37))
      have HA3 := Lib.hid (OwnR.alloc HA.out (.cells #[.int .i64 id, .int .i64 prio, .int .u64 sk, .int .u64 ge, .int .i64 fx, .int .i64 fy, .int .i64 tx, .int .i64 ty, .slice a l.length c] 37))
      have HB3 := Lib.hid (HB.out.alloc HB.out.size (.cells #[.int .i64 id, .int .i64 prio, .int .u64 sk, .int .u64 ge, .int .i64 fx, .int .i64 fy, .int .i64 tx, .int .i64 ty, .slice a l.length c] 37))
      have HE := Lib.hid (show IntsAt w (.slice a l.length c) l by have := HL.out.2 _ (List.getElem_mem hlt); rw [he] at this; exact this)
      have HX3 := Lib.hid hX
      have hlI := fun b hb => (World.ownsRow.lt HI.out b hb).2
      have hlA := fun b hb => (World.ownsRow.lt HA.out b hb).2
      have HLI := Lib.hid hlI
      have HLA := Lib.hid hlA
      have HIN := Lib.hid hin
      have HAN := Lib.hid han
      have HPR := Lib.hid hpre
      have HIL := Lib.hid hil
      generalize hID : idsO (L.take k) = I0 at *
      generalize hAR : arcsO (L.take k) = A0 at *
      have hszb : (wr.alloc (.cells #[.int .i64 id, .int .i64 prio, .int .u64 sk, .int .u64 ge, .int .i64 fx, .int .i64 fy, .int .i64 tx, .int .i64 ty, .slice a l.length c] 37)).heap.size = wr.heap.size + 1 := by simp
      have HSZ := Lib.hid hszb
      have x0 := hX.cell 0 rfl
      clear hk hkx hlt hin han hpre hil hX hlI hlA hID hAR hi8 he HI HA hszb
      go_upto_region 6 with fail
      generalize wr.alloc (.cells #[.int .i64 id, .int .i64 prio, .int .u64 sk, .int .u64 ge, .int .i64 fx, .int .i64 fy, .int .i64 tx, .int .i64 ty, .slice a l.length c] 37) = w3 at *
      generalize wr.heap.size = b0 at *
      clear p0 p1 p2 p3 p4 p5 p6 p7 p8
      go_upto_region 7 with (at_builtin; refine appI23 id HI3.out HB3.out.size (by have := HIL.out; omega) rfl _ _ rfl rfl rfl ?_; intro v6 w6 o6 b6 q6 n6; have HO6 := Lib.hid o6; have HB6 := Lib.hid (HB3.out.trans b6); have HX6 := Lib.hid (HX3.out.only q6 fun h => by have := HLI.out _ h; omega); have HA6 := Lib.hid (HA3.out.only23 q6 fun b h1 h2 => OwnR.unlike HA3.out HI3.out (by decide) b h1 h2); clear o6 b6 q6 n6 x0)
      obtain ⟨a6, c6, e6⟩ := (OwnI.ints HO6.out).form
      subst e6
      generalize (I0 ++ [id]).length = m6 at *
      clear HI3 HA3 HB3 HX3
      have x0 := HX6.out.cell 0 rfl
      have x8 := HX6.out.cell 8 rfl
      have hnb : (Value.slice bT A0.length dT).ownBlock ≠ some b0 := fun h => by have := HLA.out _ h; omega
      have HNB := Lib.hid hnb
      have HSW := Lib.hid HB6.out.size
      clear hnb
      go_wp2
      clear x0 x8
      go_loopg [5, 24] l.length (fun jx av jv ws => ∃ j : Nat, j ≤ l.length ∧ l.length - j ≤ jx ∧ jv = .int .i64 j ∧ Hid (OwnR ws w.heap.size 53 2 csArc av (A0 ++ (l.take j).map fun n => ⟨n, id⟩)) ∧ Hid (OwnI ws w.heap.size (.slice a6 m6 c6) (I0 ++ [id])) ∧ Hid (Blk ws b0 [.int .i64 id, .int .i64 prio, .int .u64 sk, .int .u64 ge, .int .i64 fx, .int .i64 fy, .int .i64 tx, .int .i64 ty, .slice a l.length c]) ∧ Hid (Below w.heap.size w ws) ∧ Hid (av.ownBlock ≠ some b0))
      case atStart => exact ⟨0, Nat.zero_le _, Nat.le_refl _, rfl, by rw [List.take_zero, List.map_nil, List.append_nil]; exact HA6.out, HO6.out, HX6.out, HB6.out, HNB.out⟩
      case round =>
        obtain ⟨j, hj, hjx, rfl, HA7, HI7, HX7, HB7, HN7⟩ := hrel
        obtain ⟨b7, d7, e⟩ := RowsAt.form (OwnR.rows csArc_len HA7.out)
        subst e
        by_cases hjl : j < l.length
        · obtain ⟨g, o, cc, e, hlc, _, p0⟩ := (HE.out.below HB7.out).spot j hjl
          cases e
          have HJT := Lib.hid (And.intro hjl hjx)
          have j0 : (0 : Int) ≤ (j : Int) := by omega
          have j1 : (j : Int) < (l.length : Int) := by omega
          have j2 : (j : Int) ≤ 640 := by have := HPR.out; have := HAL.out; omega
          have hnx : (l.take (j + 1)).map (fun n => (⟨n, id⟩ : Arc16)) = (l.take j).map (fun n => (⟨n, id⟩ : Arc16)) ++ [⟨l[j], id⟩] := by
            rw [List.take_succ_eq_append_getElem hjl, List.map_append]
            rfl
          have hal : (A0 ++ (l.take j).map fun n => (⟨n, id⟩ : Arc16)).length ≤ 640 := by
            rw [List.length_append, List.length_map, List.length_take]
            have := HPR.out
            have := HAL.out
            omega
          have HNX := Lib.hid hnx
          have HAL7 := Lib.hid hal
          generalize l[j] = n at *
          generalize hAA : A0 ++ (l.take j).map (fun n => (⟨n, id⟩ : Arc16)) = AA at *
          have HAA := Lib.hid hAA
          have y0 := HX7.out.cell 0 rfl
          clear hnx hal hAA hj hjx hjl
          go_wp2_with (at_builtin; refine appA23 ⟨n, id⟩ HA7.out HB7.out.size (by have := HAL7.out; omega) rfl _ _ rfl rfl rfl ?_; intro v8 w8 o8 b8 q8 n8; have HO8 := Lib.hid o8; have HB8 := Lib.hid (HB7.out.trans b8); have HX8 := Lib.hid (HX7.out.only q8 HN7.out); have HI8 := Lib.hid (HI7.out.only23 q8 fun b h1 h2 => OwnR.unlike HA7.out HI7.out (by decide) b h2 h1); have HN8 := Lib.hid (show v8.ownBlock ≠ some b0 from fun h => (n8 _ h).elim HN7.out fun h => by have := HX7.out.lt; omega); clear o8 b8 q8 n8 y0 p0)
          go_roundg (l.length - (j + 1))
          case measure => have := HJT.out; omega
          case rel => exact ⟨j + 1, by have := HJT.out; omega, Nat.le_refl _, by go_num, by rw [HNX.out, ← List.append_assoc, HAA.out]; exact HO8.out, HI8.out, HX8.out, HB8.out, HN8.out⟩
        · have hje : j = l.length := by omega
          subst hje
          clear hj hjx hjl HX7 HN7
          go_wp2
          go_roundg (L.length - (k + 1))
          case measure => have := HLT.out; omega
          case rel => exact ⟨k + 1, by have := HLT.out; omega, Nat.le_refl _, by go_num, by rw [HIN.out]; exact HI7.out, by rw [HAN.out]; exact Lib.hid (by simpa only [List.take_length] using HA7.out), HB7.out⟩
    · have hke : k = L.length := by omega
      subst hke
      rw [List.take_length] at HI HA
      have GL := Lib.hid (GO.out wr _ _ (OwnI.ints HI.out) (OwnR.rows csArc_len HA.out))
      clear hk hkx hlt HI HA
      go_wp2_with (go_at_call 19; (with_reducible refine GL.out.mono ?_); rintro e w3 ⟨v3, rfl, h3, b3⟩; have H3 := Lib.hid h3; have HB3 := Lib.hid (HB.out.trans (b3.mono HB.out.size)); clear h3 b3)
      exact bodyPost_ret (v := .tuple #[v3, .bool r]) (by simp [results, Try.results9, go_sem]) rfl ⟨_, rfl, H3.out, HB3.out⟩

set_option maxHeartbeats 2000000 in
theorem bRing_any (vl : Value) (L : List Sp) (w : World) (hl : SpsAt w vl L) (hll : L.length ≤ 640) (hal : (arcsO L).length ≤ 640) (h64 : Sp64 L) :
    Calls Try.prog 17 #[vl] w fun e w' => e = .returned (.bool (wholeB L)) ∧ Below w.heap.size w w' := by
  have G := Lib.hid (bOrder_any vl L w hl hll hal h64)
  generalize wholeB L = r at *
  clear hl hll hal h64
  go_enter Try.func17, Try.ntmps17
  go_wp2_with (go_at_call 9; (with_reducible refine G.out.mono ?_); rintro e w1 ⟨v, rfl, _, hb⟩; have HB := Lib.hid hb; clear hb)
  go_ret
  exact ⟨rfl, HB.out⟩

theorem first_drop (L : List Sp) (j : Nat) (h : j < L.length) : firstE (L.drop j) = if chk L[j] = 0 then firstE (L.drop (j + 1)) else chk L[j] := by
  rw [List.drop_eq_getElem_cons h]
  rfl
set_option maxHeartbeats 2000000 in
theorem bFirst_any (va : Value) (l : List Sp) (w : World) (hl : SpsAt w va l) (hlen : l.length ≤ 1000000) (ha8 : ∀ x ∈ l, x.aft.length ≤ 9223372036854775807) :
    Calls Try.prog 11 #[va] w fun e w' => e = .returned (.int .i64 (firstE l)) ∧ Below w.heap.size w w' := by
  obtain ⟨r, hr⟩ : ∃ r, firstE l = r := ⟨_, rfl⟩
  rw [hr]
  have HR := Lib.hid hr
  have HL := Lib.hid hl
  have HLE := Lib.hid hlen
  have HA8 := Lib.hid ha8
  obtain ⟨a, c, rfl⟩ := hl.form
  clear hr hl ha8
  go_enter Try.func11, Try.ntmps11
  go_wp2
  refine wp_scope_goto 0 (fun n a' w' => ∃ (j : Nat) (z : Int), n = l.length - j ∧ z = j ∧ j ≤ l.length ∧ firstE (l.drop j) = r ∧ Below w.heap.size w w' ∧ ∃ u1 u4 u5 u6 u7 u8 u9 u10 u11 u12 u13 u14 u15 u16 u17 u18, a' = { tmps := #[.slice a l.length c, u1, .int .i64 0, .int .i64 z, u4, u5, u6, u7, u8, u9, u10, u11, u12, u13, u14, u15, u16, u17, u18], defers := [] }) rfl rfl ?_ ?_
  · rintro n a' w' ⟨j, _, rfl, rfl, hj, hrun, hmv, u1, u4, u5, u6, u7, u8, u9, u10, u11, u12, u13, u14, u15, u16, u17, u18, rfl⟩ K hK
    have HK := Lib.hid hK
    have HM := Lib.hid hmv
    have HRU := Lib.hid hrun
    clear hK hmv hrun
    by_cases hlt : j < l.length
    · obtain ⟨gb, o, cc, id, prio, sk, ge, fx, fy, tx, ty, a8, c8, l8, he, e, hlc, p0, p1, p2, p3, p4, p5, p6, p7, p8, hi8⟩ := (HL.out.kept HM.out).spot j hlt
      cases e
      have hx := tCheck_any ⟨id, prio, sk, ge, fx, fy, tx, ty, a8, c8, l8⟩ w' hi8 (by have := HA8.out _ (List.getElem_mem hlt); rw [he] at this; exact this)
      have hd := first_drop l j hlt
      rw [he] at hd
      dsimp only [spv] at hx
      generalize chk ⟨id, prio, sk, ge, fx, fy, tx, ty, a8, c8, l8⟩ = b at *
      have HX := Lib.hid hx
      have HD := Lib.hid hd
      have j0 : (0 : Int) ≤ (j : Int) := by omega
      have j1 : (j : Int) < (l.length : Int) := by omega
      have j2 : ((j : Int) == (l.length : Int)) = false := beq_noI (by omega)
      clear hx hd he hi8
      by_cases hb0 : b = 0
      · subst hb0
        go_wp2_with (go_at_call 20; (with_reducible refine HX.out.mono ?_); rintro e w1 ⟨rfl, hm1⟩; have HM3 := Lib.hid (HM.out.trans (hm1.mono HM.out.size)); clear hm1)
        go_step3
        exact ⟨rfl, HK.out (l.length - (j + 1)) _ _ (by omega) ⟨j + 1, _, rfl, by omega, by omega, by have := HD.out; exact (this.trans (if_pos trivial)).symm.trans HRU.out, HM3.out, _, _, _, _, _, _, _, _, _, _, _, _, _, _, _, _,  rfl⟩⟩
      · have HF := Lib.hid (show b = r by rw [← HRU.out, HD.out, if_neg hb0])
        have j3 : (b == 0) = false := beq_noI hb0
        go_wp2_with (go_at_call 20; (with_reducible refine HX.out.mono ?_); rintro e w1 ⟨rfl, hm1⟩; have HM3 := Lib.hid (HM.out.trans (hm1.mono HM.out.size)); clear hm1)
        simp only [Exit.jump]
        go_ret
        exact ⟨by rw [HF.out]; rfl, HM3.out⟩
    · have e : j = l.length := by omega
      subst e
      have hrr := HRU.out
      rw [List.drop_length] at hrr
      have HF := Lib.hid (show 0 = r from hrr)
      clear hrr hlt
      go_wp2
      simp only [Exit.jump]
      go_ret
      exact ⟨by rw [HF.out]; rfl, HM.out⟩
  · intro K hpass
    go_wp2
    go_step3
    rename_i hback
    exact hback _ _ (hpass (l.length - 0) _ _ ⟨0, _, rfl, rfl, by omega, HR.out, Below.refl _ _, _, _, _, _, _, _, _, _, _, _, _, _, _, _, _, _,  rfl⟩)
end Go.Proofs.Ytlacbjgjiggikaa
/- Stage 23's program: Check, Free. -/
namespace Go.Proofs.Ytlacbjgjiggikaa
open Go.RowKit

/-- what Check has at hand: the box of the names, the specs -/
structure Ck23 (n bk bs : Nat) (K : List Tk) (vl : Value) (L : List Sp) (W : World) : Prop where
  x : Blk W n [.map (some bk), .map (some bs)]
  nm : NmAt W bk bs K L
  sp : SpsAt W vl L
theorem Ck23.kept {n bk bs : Nat} {K : List Tk} {vl : Value} {L : List Sp} {W W' : World} (h : Ck23 n bk bs K vl L W) (hb : Below W.heap.size W W') : Ck23 n bk bs K vl L W' := ⟨h.x.kept hb, h.nm.kept hb, h.sp.kept hb⟩

set_option maxHeartbeats 8000000 in
set_option maxRecDepth 100000 in
theorem bCheck_any (room : Int) (vk vl : Value) (K : List Tk) (L : List Sp) (w : World) (hk : RowsAt w 14 csTk vk K) (hl : SpsAt w vl L) (hkl : K.length ≤ 1000) (hll : L.length ≤ 80) (hK : ∀ t ∈ K, I64 t.sp.id ∧ I64 t.st) (h64 : Sp64 L) (haf : ∀ x ∈ L, x.aft.length ≤ 9223372036854775807) :
    Calls Try.prog 7 #[.int .i64 room, vk, vl] w fun e w' => e = .returned (.int .i64 (bchk room K L)) ∧ Below w.heap.size w w' := by
  have hw := bchk_ways room K L
  obtain ⟨r, hr⟩ : ∃ r, bchk room K L = r := ⟨_, rfl⟩
  rw [hr] at hw ⊢
  have GF := Lib.hid (bFirst_any vl L w hl (by omega) haf)
  obtain ⟨va, vc, rfl⟩ := RowsAt.form hk
  obtain ⟨la, lc, rfl⟩ := hl.form
  have k2 : (K.length : Int) ≤ 1000 := by omega
  have l2 : (L.length : Int) ≤ 80 := by omega
  have k0 : (0 : Int) ≤ (K.length : Int) := by omega
  have l0 : (0 : Int) ≤ (L.length : Int) := by omega
  clear hr
  rcases hw with ⟨h0, rfl⟩ | ⟨h0, h1, rfl⟩ | ⟨h0, h1, hw⟩
  · have e0 : ((L.length : Int) == 0) = true := by rw [h0]; rfl
    clear GF hk hl hkl hll hK h64 haf
    go_enter Try.func7, Try.ntmps7
    go_wp2
    go_ret
    exact ⟨rfl, Below.refl _ _⟩
  · have e0 : ((L.length : Int) == 0) = false := beq_noI (by omega)
    generalize firstE L = q at *
    have e1 : (q == 0) = false := beq_noI h1
    clear hk hl hkl hll hK h64 haf h0
    go_enter Try.func7, Try.ntmps7
    go_wp2_with (go_at_call 11; (with_reducible refine GF.out.mono ?_); rintro e w1 ⟨rfl, hb⟩; have HB := Lib.hid hb; clear hb)
    go_ret
    exact ⟨rfl, HB.out⟩
  have e0 : ((L.length : Int) == 0) = false := beq_noI (by omega)
  rw [h1] at GF
  have h8 : ∀ x ∈ L, x.aft.length ≤ 8 := fun x hx => chk_len (firstE_zero.1 h1 x hx)
  have ha8 := arcsO_len h8
  have GN := Lib.hid fun w' hb => namesOf_any (.slice va K.length vc) (.slice la L.length lc) K L w' (RowsAt.kept hk hb) (hl.kept hb) hkl (by omega) hK (fun x hx => (h64 x hx).1)
  have GA1 := Lib.hid fun (n bk bs : Nat) w' (h : Ck23 n bk bs K (.slice la L.length lc) L w') => allS_any (newB K L) 14 (nmv bk bs) (fun _ _ => by kernel_rfl) (.slice la L.length lc) L w' h.sp (by omega) fun w'' x hx _ hb => isNew_any x bk bs K L w'' (h.nm.kept hb) (h64 x hx).1
  have GA2 := Lib.hid fun (n bk bs : Nat) w' (h : Ck23 n bk bs K (.slice la L.length lc) L w') => allS_any (namedB K L) 15 (nmv bk bs) (fun _ _ => by kernel_rfl) (.slice la L.length lc) L w' h.sp (by omega) fun w'' x hx hi hb => isNamed_any x bk bs K L w'' (h.nm.kept hb) hi (by have := h8 x hx; omega) (h64 x hx).2
  have GA3 := Lib.hid fun (n bk bs : Nat) w' (h : Ck23 n bk bs K (.slice la L.length lc) L w') => allS_any (comeB K) 16 (nmv bk bs) (fun _ _ => by kernel_rfl) (.slice la L.length lc) L w' h.sp (by omega) fun w'' x hx hi hb => isCome_any x bk bs K L w'' (h.nm.kept hb) hi (by have := h8 x hx; omega) (h64 x hx).2
  have GR := Lib.hid fun (n bk bs : Nat) w' (h : Ck23 n bk bs K (.slice la L.length lc) L w') => bRing_any (.slice la L.length lc) L w' h.sp (by omega) (by omega) h64
  have hmf : ∀ (fn : Fn) (first cap : Array Value) (w : World), (Instr.makeFunc fn first cap).run Try.prog w = .ok (.func fn first cap) w := fun _ _ _ _ => rfl
  have HS := Lib.hid hl
  obtain ⟨t1, ht1⟩ : ∃ t1, L.all (newB K L) = t1 := ⟨_, rfl⟩
  obtain ⟨t2, ht2⟩ : ∃ t2, L.all (namedB K L) = t2 := ⟨_, rfl⟩
  obtain ⟨t3, ht3⟩ : ∃ t3, L.all (comeB K) = t3 := ⟨_, rfl⟩
  obtain ⟨t4, ht4⟩ : ∃ t4, wholeB L = t4 := ⟨_, rfl⟩
  rw [ht1] at hw GA1
  rw [ht2] at hw GA2
  rw [ht3] at hw GA3
  rw [ht4] at hw GR
  clear ht1 ht2 ht3 ht4 hk hl hkl hll hK h64 haf h0 h1 h8 ha8
  rcases hw with ⟨hr, rfl⟩ | ⟨hr, hw⟩
  · go_enter Try.func7, Try.ntmps7
    go_wp2_with (go_at_call 11; (with_reducible refine GF.out.mono ?_); rintro e w1 ⟨rfl, hb⟩; have HB := Lib.hid hb; clear hb)
    go_ret
    exact ⟨rfl, HB.out⟩
  rcases hw with ⟨rfl, rfl⟩ | ⟨rfl, rfl, rfl⟩ | ⟨rfl, rfl, rfl, rfl⟩ | ⟨rfl, rfl, rfl, rfl, rfl⟩ | ⟨rfl, rfl, rfl, rfl, rfl⟩
  all_goals
    go_enter Try.func7, Try.ntmps7
    go_wp2_with (first
      | (go_at_call 11; (with_reducible refine GF.out.mono ?_); rintro e w1 ⟨rfl, hb⟩; have HB := Lib.hid hb; clear hb)
      | (go_at_call 12; (with_reducible refine (GN.out _ HB.out).mono ?_); rintro e w2 ⟨bk, bs, rfl, hn, hb⟩; have hal := (Below.refl w2.heap.size w2).alloc (Nat.le_refl _) (.cells #[.map (some bk), .map (some bs)] 45); replace HB := Lib.hid (HB.out.trans (hb.mono HB.out.size)); have HC := Lib.hid (show Ck23 w2.heap.size bk bs K (.slice la L.length lc) L (w2.alloc (.cells #[.map (some bk), .map (some bs)] 45)) from ⟨Blk.new w2 [.map (some bk), .map (some bs)] 45, hn.kept hal, (HS.out.kept HB.out).kept hal⟩); replace HB := Lib.hid (HB.out.trans (hal.mono HB.out.size)); have c0 := HC.out.x.cell 0 rfl; have c1 := HC.out.x.cell 1 rfl; clear hn hb hal)
      | (go_at_call 13; (with_reducible refine (GA1.out _ _ _ _ HC.out).mono ?_); rintro e w2 ⟨rfl, hb⟩; replace HC := Lib.hid (HC.out.kept hb); replace HB := Lib.hid (HB.out.trans (hb.mono HB.out.size)); clear hb c0 c1; have c0 := HC.out.x.cell 0 rfl; have c1 := HC.out.x.cell 1 rfl)
      | (go_at_call 13; (with_reducible refine (GA2.out _ _ _ _ HC.out).mono ?_); rintro e w2 ⟨rfl, hb⟩; replace HC := Lib.hid (HC.out.kept hb); replace HB := Lib.hid (HB.out.trans (hb.mono HB.out.size)); clear hb c0 c1; have c0 := HC.out.x.cell 0 rfl; have c1 := HC.out.x.cell 1 rfl)
      | (go_at_call 13; (with_reducible refine (GA3.out _ _ _ _ HC.out).mono ?_); rintro e w2 ⟨rfl, hb⟩; replace HC := Lib.hid (HC.out.kept hb); replace HB := Lib.hid (HB.out.trans (hb.mono HB.out.size)); clear hb c0 c1; have c0 := HC.out.x.cell 0 rfl; have c1 := HC.out.x.cell 1 rfl)
      | (go_at_call 17; (with_reducible refine (GR.out _ _ _ _ HC.out).mono ?_); rintro e w2 ⟨rfl, hb⟩; replace HC := Lib.hid (HC.out.kept hb); replace HB := Lib.hid (HB.out.trans (hb.mono HB.out.size)); clear hb c0 c1; have c0 := HC.out.x.cell 0 rfl; have c1 := HC.out.x.cell 1 rfl))
    go_ret
    exact ⟨rfl, HB.out⟩

set_option maxHeartbeats 4000000 in
set_option maxRecDepth 100000 in
theorem bFree_any (vk vl : Value) (K : List Tk) (L : List Sp) (w : World) (hk : RowsAt w 14 csTk vk K) (hl : SpsAt w vl L) (hkl : K.length ≤ 1000) (hll : L.length ≤ 1000) (hK : ∀ t ∈ K, I64 t.sp.id ∧ I64 t.st) (h64 : Sp64 L) (haf : ∀ x ∈ L, x.aft.length ≤ 1000000) :
    Calls Try.prog 18 #[vk, vl] w fun e w' => ∃ v, e = .returned v ∧ IntsAt w' v (freeO K L) ∧ Below w.heap.size w w' := by
  have GN := Lib.hid (namesOf_any vk vl K L w hk hl hkl hll hK fun x hx => (h64 x hx).1)
  obtain ⟨va, vc, rfl⟩ := RowsAt.form hk
  obtain ⟨la, lc, rfl⟩ := hl.form
  have HS := Lib.hid hl
  have H64 := Lib.hid h64
  have HAF := Lib.hid haf
  have l2 : (L.length : Int) ≤ 1000 := by omega
  clear hk hl hkl hK h64 haf
  go_enter Try.func18, Try.ntmps18
  go_upto_region 2 with (go_at_call 12; (with_reducible refine GN.out.mono ?_); rintro e w2 ⟨bk, bs, rfl, hn, hb⟩; have HN := Lib.hid hn; have HB := Lib.hid hb; clear hn hb)
  have hal := (Below.refl w2.heap.size w2).alloc (Nat.le_refl _) (.cells #[.map (some bk), .map (some bs)] 45)
  have HC := Lib.hid (show Ck23 w2.heap.size bk bs K (.slice la L.length lc) L (w2.alloc (.cells #[.map (some bk), .map (some bs)] 45)) from ⟨Blk.new w2 [.map (some bk), .map (some bs)] 45, HN.out.kept hal, (HS.out.kept HB.out).kept hal⟩)
  have HB3 := Lib.hid (HB.out.trans (hal.mono HB.out.size))
  generalize w2.alloc (.cells #[.map (some bk), .map (some bs)] 45) = w3 at *
  generalize w2.heap.size = n0 at *
  clear hal HN HB HS
  go_wp2
  go_loopg [6, 14] L.length (fun kx sv iv ws => ∃ k : Nat, k ≤ L.length ∧ L.length - k ≤ kx ∧ iv = .int .i64 k ∧ Hid (OwnI ws w3.heap.size sv (freeO K (L.take k))) ∧ Hid (Below w3.heap.size w3 ws))
  case atStart => exact ⟨0, Nat.zero_le _, Nat.le_refl _, rfl, OwnR.nil _ _ _ _ _, Below.refl _ _⟩
  case round =>
    obtain ⟨k, hk, hkx, rfl, HO, HB4⟩ := hrel
    obtain ⟨aT, cT, e⟩ := (OwnI.ints HO.out).form
    subst e
    have HC4 := Lib.hid (HC.out.kept HB4.out)
    by_cases hlt : k < L.length
    · obtain ⟨g, o, cc, id, prio, sk, ge, fx, fy, tx, ty, a, c, l, he, e, hlc, p0, p1, p2, p3, p4, p5, p6, p7, p8, hi8⟩ := HC4.out.sp.spot k hlt
      cases e
      have HLT := Lib.hid (And.intro hlt hkx)
      have k0 : (0 : Int) ≤ (k : Int) := by omega
      have k1 : (k : Int) < (L.length : Int) := by omega
      have hfn := freeO_take K L k hlt
      have hfl : (freeO K (L.take k)).length ≤ 1000 := by have := freeO_len K (L.take k); rw [List.length_take] at this; omega
      have hx64 := H64.out _ (List.getElem_mem hlt)
      have hxa := HAF.out _ (List.getElem_mem hlt)
      have hal := (Below.refl wr.heap.size wr).alloc (Nat.le_refl _) (.cells #[.int .i64 id, .int .i64 prio, .int .u64 sk, .int .u64 ge, .int .i64 fx, .int .i64 fy, .int .i64 tx, .int .i64 ty, .slice a l.length c] 37)
      have hX := Blk.new wr [.int .i64 id, .int .i64 prio, .int .u64 sk, .int .u64 ge, .int .i64 fx, .int .i64 fy, .int .i64 tx, .int .i64 ty, .slice a l.length c] 37
      rw [he] at hfn hx64 hxa
      dsimp only at hx64 hxa
      have GI := isFree_any ⟨id, prio, sk, ge, fx, fy, tx, ty, a, c, l⟩ bk bs K L _ (HC4.out.nm.kept hal) (hi8.below hal) hxa hx64.2
      dsimp only [spv, nmv] at GI
      have HX3 := Lib.hid hX
      have HO3 := Lib.hid (OwnR.alloc HO.out (.cells #[.int .i64 id, .int .i64 prio, .int .u64 sk, .int .u64 ge, .int .i64 fx, .int .i64 fy, .int .i64 tx, .int .i64 ty, .slice a l.length c] 37))
      have HB5 := Lib.hid (HB4.out.alloc HB4.out.size (.cells #[.int .i64 id, .int .i64 prio, .int .u64 sk, .int .u64 ge, .int .i64 fx, .int .i64 fy, .int .i64 tx, .int .i64 ty, .slice a l.length c] 37))
      have d0 := (HC4.out.x.kept hal).cell 0 rfl
      have d1 := (HC4.out.x.kept hal).cell 1 rfl
      have x0 := hX.cell 0 rfl
      have x1 := hX.cell 1 rfl
      have x2 := hX.cell 2 rfl
      have x3 := hX.cell 3 rfl
      have x4 := hX.cell 4 rfl
      have x5 := hX.cell 5 rfl
      have x6 := hX.cell 6 rfl
      have x7 := hX.cell 7 rfl
      have x8 := hX.cell 8 rfl
      generalize freeB K ⟨id, prio, sk, ge, fx, fy, tx, ty, a, c, l⟩ = t at *
      have HG := Lib.hid GI
      have HFN := Lib.hid hfn
      have HFL := Lib.hid hfl
      generalize freeO K (L.take k) = D at *
      clear hk hkx hlt hfn hfl hx64 hxa hal hX GI hi8 he HO HC4
      cases t with
      | true =>
        go_wp2_with (first
          | (go_at_call 24; (with_reducible refine HG.out.mono ?_); rintro e w6 ⟨rfl, hb⟩; have HO6 := Lib.hid (OwnR.kept HO3.out hb); have HB6 := Lib.hid (HB5.out.trans (hb.mono HB5.out.size)); have y0 := (HX3.out.kept hb).cell 0 rfl; clear hb x0 x1 x2 x3 x4 x5 x6 x7 x8 d0 d1)
          | (at_builtin; refine app1 (n := id) HO6.out HB6.out.size (by have := HFL.out; omega) rfl _ _ rfl rfl rfl ?_; intro v7 w7 o7 b7; have HO7 := Lib.hid o7; have HB7 := Lib.hid (HB6.out.trans b7); clear o7 b7 y0))
        go_roundg (L.length - (k + 1))
        case measure => have := HLT.out; omega
        case rel => exact ⟨k + 1, by have := HLT.out; omega, Nat.le_refl _, by go_num, by rw [HFN.out]; exact HO7.out, HB7.out⟩
      | false =>
        go_wp2_with (go_at_call 24; (with_reducible refine HG.out.mono ?_); rintro e w6 ⟨rfl, hb⟩; have HO6 := Lib.hid (OwnR.kept HO3.out hb); have HB6 := Lib.hid (HB5.out.trans (hb.mono HB5.out.size)); clear hb x0 x1 x2 x3 x4 x5 x6 x7 x8 d0 d1)
        go_roundg (L.length - (k + 1))
        case measure => have := HLT.out; omega
        case rel => exact ⟨k + 1, by have := HLT.out; omega, Nat.le_refl _, by go_num, by rw [HFN.out]; exact HO6.out, HB6.out⟩
    · have hke : k = L.length := by omega
      subst hke
      have ho := OwnI.ints HO.out
      generalize (freeO K (L.take L.length)).length = m7 at *
      rw [List.take_length] at ho
      have H7 := Lib.hid ho
      clear hk hkx hlt HO ho
      go_wp2
      go_ret
      exact ⟨_, rfl, H7.out, HB3.out.trans (HB4.out.mono HB3.out.size)⟩
end Go.Proofs.Ytlacbjgjiggikaa
/- Stage 23: the document's Few: are there few tasks, few specs. -/
namespace Go.Proofs.Ytlacbjgjiggikaa
open Go.RowKit

def fewS (L : List Sp) (most : Int) : Bool := decide ((L.length : Int) ≤ most) && L.all fun x => decide (x.aft.length ≤ 20)
def fewT (K : List Tk) (most : Int) : Bool := decide ((K.length : Int) ≤ most) && K.all fun t => decide (t.sp.aft.length ≤ 20) && decide (t.burnt.length ≤ 40)
theorem fewS_iff {L : List Sp} {most : Int} : fewS L most = true ↔ (L.length : Int) ≤ most ∧ ∀ x ∈ L, x.aft.length ≤ 20 := by
  unfold fewS
  rw [Bool.and_eq_true, decide_eq_true_iff, List.all_eq_true]
  simp only [decide_eq_true_iff]
theorem fewT_iff {K : List Tk} {most : Int} : fewT K most = true ↔ (K.length : Int) ≤ most ∧ ∀ t ∈ K, t.sp.aft.length ≤ 20 ∧ t.burnt.length ≤ 40 := by
  unfold fewT
  rw [Bool.and_eq_true, decide_eq_true_iff, List.all_eq_true]
  simp only [Bool.and_eq_true, decide_eq_true_iff]

set_option maxHeartbeats 2000000 in
set_option maxRecDepth 100000 in
theorem refFew22_any (va : Value) (l : List Sp) (most : Int) (W : World) (ha : RowsAt W 9 csSp va l) (hm : most ≤ 1000) :
    Calls Try.prog 6 #[va, .int .i64 most] W fun e w' => e = .returned (.bool (fewS l most)) ∧ Below W.heap.size W w' := by
  obtain ⟨r, hr⟩ : ∃ r, fewS l most = r := ⟨_, rfl⟩
  rw [hr]
  have HR := Lib.hid hr
  have HA := Lib.hid ha
  obtain ⟨a, c, rfl⟩ := RowsAt.form ha
  clear hr ha
  by_cases h1 : (l.length : Int) ≤ most
  · have k1 : ¬ most < (l.length : Int) := by omega
    have HL := Lib.hid (show l.length ≤ 1000 by omega)
    have HH1 := Lib.hid h1
    clear h1
    go_enter Try.func6, Try.ntmps6
    go_wp2
    go_loopg [5] l.length (fun kx iv wr => ∃ k : Nat, k ≤ l.length ∧ l.length - k ≤ kx ∧ iv = .int .i64 k ∧ Hid (∀ x ∈ l.take k, x.aft.length ≤ 20) ∧ wr = W)
    case atStart => exact ⟨0, Nat.zero_le _, Nat.le_refl _, rfl, fun x hx => (by simp at hx), rfl⟩
    case round =>
      obtain ⟨k, hk, hkx, rfl, hall, rfl⟩ := hrel
      by_cases hlt : k < l.length
      · obtain ⟨g, o, cc, e, _, _, hx⟩ := RowsAt.spot HA.out k hlt
        cases e
        have p8 := hx 8 _ rfl
        have j1 : (k : Int) < (l.length : Int) := by omega
        have j0 : (0 : Int) ≤ (k : Int) := by omega
        have j2 : (k : Int) ≤ 1000 := by have := HL.out; omega
        clear hx
        obtain ⟨x, hx⟩ : ∃ x, l[k] = x := ⟨_, rfl⟩
        rw [hx] at p8
        have hxm : x ∈ l := by rw [← hx]; exact List.getElem_mem hlt
        by_cases h20 : x.aft.length ≤ 20
        · have HALL := Lib.hid (show ∀ y ∈ l.take (k + 1), y.aft.length ≤ 20 from fun y hy => by
            rw [List.take_succ_eq_append_getElem hlt] at hy
            rcases List.mem_append.1 hy with hy | hy
            · exact hall.out y hy
            · rw [List.mem_singleton.1 hy, hx]; exact h20)
          have k20 : ¬ (20 : Int) < (x.aft.length : Int) := by omega
          have HK := Lib.hid (And.intro hk (And.intro hkx hlt))
          clear hall hx hxm h20 hk hkx
          go_wp2
          go_roundg (l.length - (k + 1))
          case measure => have := HK.out; omega
          case rel => exact ⟨k + 1, by have := HK.out; omega, Nat.le_refl _, by go_num, HALL.out, rfl⟩
        · have HF := Lib.hid (show false = r by
            rw [← HR.out]
            unfold fewS
            rw [List.all_eq_false.2 ⟨x, hxm, by simpa using h20⟩, Bool.and_false])
          have k20 : (20 : Int) < (x.aft.length : Int) := by omega
          clear hall hx hxm h20
          go_wp2
          go_ret
          exact ⟨ret_b HF.out, Below.refl _ _⟩
      · have hke : k = l.length := by omega
        subst hke
        have hall2 := hall.out
        rw [List.take_length] at hall2
        have HT := Lib.hid (show true = r from (fewS_iff.2 ⟨HH1.out, hall2⟩).symm.trans HR.out)
        clear hall hall2 hlt
        go_wp2
        go_ret
        exact ⟨ret_b HT.out, Below.refl _ _⟩
  · have k1 : most < (l.length : Int) := by omega
    have HF := Lib.hid (show false = r by rw [← HR.out]; unfold fewS; rw [decide_eq_false h1, Bool.false_and])
    clear h1
    go_enter Try.func6, Try.ntmps6
    go_wp2
    go_ret
    exact ⟨ret_b HF.out, Below.refl _ _⟩

set_option maxHeartbeats 2000000 in
set_option maxRecDepth 100000 in
theorem refFew23_any (va : Value) (l : List Tk) (most : Int) (W : World) (ha : RowsAt W 14 csTk va l) (hm : most ≤ 1000) :
    Calls Try.prog 5 #[va, .int .i64 most] W fun e w' => e = .returned (.bool (fewT l most)) ∧ Below W.heap.size W w' := by
  obtain ⟨r, hr⟩ : ∃ r, fewT l most = r := ⟨_, rfl⟩
  rw [hr]
  have HR := Lib.hid hr
  have HA := Lib.hid ha
  obtain ⟨a, c, rfl⟩ := RowsAt.form ha
  clear hr ha
  by_cases h1 : (l.length : Int) ≤ most
  · have k1 : ¬ most < (l.length : Int) := by omega
    have HL := Lib.hid (show l.length ≤ 1000 by omega)
    have HH1 := Lib.hid h1
    clear h1
    go_enter Try.func5, Try.ntmps5
    go_wp2
    go_loopg [5] l.length (fun kx iv wr => ∃ k : Nat, k ≤ l.length ∧ l.length - k ≤ kx ∧ iv = .int .i64 k ∧ Hid (∀ x ∈ l.take k, x.sp.aft.length ≤ 20 ∧ x.burnt.length ≤ 40) ∧ wr = W)
    case atStart => exact ⟨0, Nat.zero_le _, Nat.le_refl _, rfl, fun x hx => (by simp at hx), rfl⟩
    case round =>
      obtain ⟨k, hk, hkx, rfl, hall, rfl⟩ := hrel
      by_cases hlt : k < l.length
      · obtain ⟨g, o, cc, e, _, _, hx⟩ := RowsAt.spot HA.out k hlt
        cases e
        have p8 := hx 8 _ rfl
        have p13 := hx 13 _ rfl
        have j1 : (k : Int) < (l.length : Int) := by omega
        have j0 : (0 : Int) ≤ (k : Int) := by omega
        have j2 : (k : Int) ≤ 1000 := by have := HL.out; omega
        clear hx
        obtain ⟨x, hx⟩ : ∃ x, l[k] = x := ⟨_, rfl⟩
        rw [hx] at p8 p13
        have hxm : x ∈ l := by rw [← hx]; exact List.getElem_mem hlt
        by_cases h20 : x.sp.aft.length ≤ 20
        · have k20 : ¬ (20 : Int) < (x.sp.aft.length : Int) := by omega
          by_cases h40 : x.burnt.length ≤ 40
          · have HALL := Lib.hid (show ∀ y ∈ l.take (k + 1), y.sp.aft.length ≤ 20 ∧ y.burnt.length ≤ 40 from fun y hy => by
              rw [List.take_succ_eq_append_getElem hlt] at hy
              rcases List.mem_append.1 hy with hy | hy
              · exact hall.out y hy
              · rw [List.mem_singleton.1 hy, hx]; exact ⟨h20, h40⟩)
            have k40 : ¬ (40 : Int) < (x.burnt.length : Int) := by omega
            have HK := Lib.hid (And.intro hk (And.intro hkx hlt))
            clear hall hx hxm h20 h40 hk hkx
            go_wp2
            go_roundg (l.length - (k + 1))
            case measure => have := HK.out; omega
            case rel => exact ⟨k + 1, by have := HK.out; omega, Nat.le_refl _, by go_num, HALL.out, rfl⟩
          · have HF := Lib.hid (show false = r by
              rw [← HR.out]
              unfold fewT
              rw [List.all_eq_false.2 ⟨x, hxm, by simpa using fun _ => h40⟩, Bool.and_false])
            have k40 : (40 : Int) < (x.burnt.length : Int) := by omega
            clear hall hx hxm h20 h40
            go_wp2
            go_ret
            exact ⟨ret_b HF.out, Below.refl _ _⟩
        · have HF := Lib.hid (show false = r by
            rw [← HR.out]
            unfold fewT
            rw [List.all_eq_false.2 ⟨x, hxm, by simpa using fun h => absurd h h20⟩, Bool.and_false])
          have k20 : (20 : Int) < (x.sp.aft.length : Int) := by omega
          clear hall hx hxm h20
          go_wp2
          go_ret
          exact ⟨ret_b HF.out, Below.refl _ _⟩
      · have hke : k = l.length := by omega
        subst hke
        have hall2 := hall.out
        rw [List.take_length] at hall2
        have HT := Lib.hid (show true = r from (fewT_iff.2 ⟨HH1.out, hall2⟩).symm.trans HR.out)
        clear hall hall2 hlt
        go_wp2
        go_ret
        exact ⟨ret_b HT.out, Below.refl _ _⟩
  · have k1 : most < (l.length : Int) := by omega
    have HF := Lib.hid (show false = r by rw [← HR.out]; unfold fewT; rw [decide_eq_false h1, Bool.false_and])
    clear h1
    go_enter Try.func5, Try.ntmps5
    go_wp2
    go_ret
    exact ⟨ret_b HF.out, Below.refl _ _⟩
end Go.Proofs.Ytlacbjgjiggikaa
