/- Texts of this proof, joined: BtD; BtE; DgT; DgB. -/
import Derived.Test.YthchkhgimnchcaaGreatBun20
/- Stage 23's program: Order, inNoRing, firstError. -/
namespace Go.Proofs.YthchkhgimnchcaaGreat
open Go.RowKit

theorem OwnR.only23 {α : Type} {w w' : World} {F : Nat → Prop} {B : Nat} {e : TypeId} {K : Nat} {cs : α → List Value} {v : Value} {l : List α} (h : OwnR w B e K cs v l) (ho : Only F w w') (hf : ∀ k, v.ownBlock = some k → ¬ F k) : OwnR w' B e K cs v l := by
  have hlt := World.ownsRow.lt h
  refine ⟨h.1, ?_⟩
  rcases h.2 with h1 | ⟨g, cap, cur, rfl, hg, hr⟩
  · exact .inl h1
  · refine .inr ⟨g, cap, cur, rfl, hg, ?_⟩
    rw [ho.block g (hlt g rfl).2 (hf g rfl)]
    exact hr
/-- one behind a list: what else there is stays -/
theorem appI23 {ops : Array Oper} {rest : List Oper} {o : Oper} {a : Act} {Q : Exit → Act → World → Prop} {B : Nat} {w : World} (x : Int) {v : Value} {l : List Int} (hown : OwnI w B v l) (hB : B ≤ w.heap.size) (hl : l.length ≤ 1000000)
    (hgd : o.guard = none) (s y : Operand) (ho : o.op = .call { callee := .builtin .append, args := #[s, y], argTypes := #[32, 32] }) (hs : a.eval s = v) (hx : a.eval y = .slice (some ⟨w.heap.size, 0, none⟩) 1 1)
    (hK : ∀ v' w', OwnI w' B v' (l ++ [x]) → Below B w w' → Only (fun k => v.ownBlock = some k) w w' → (∀ k, v'.ownBlock = some k → v.ownBlock = some k ∨ w.heap.size ≤ k) → wpList Tryz.prog ops Q rest (a.put o.dst v') w') : wpList Tryz.prog ops Q (o :: rest) a (w.alloc (.cells #[.int .i64 x] 3)) := by
  obtain ⟨i, hi, hz, hs1, hb1⟩ := info_parts info_int
  exact appK csI_len (by decide) csI_one13 3 32 i _ 8 Tryz.underlying32 hi hz hs1 hb1 rfl (by decide) hown hB hl hgd s y ho hs hx hK
theorem appA23 {ops : Array Oper} {rest : List Oper} {o : Oper} {a : Act} {Q : Exit → Act → World → Prop} {B : Nat} {w : World} (x : Arc16) {v : Value} {l : List Arc16} (hown : OwnR w B 84 2 csArc v l) (hB : B ≤ w.heap.size) (hl : l.length ≤ 1000000)
    (hgd : o.guard = none) (s y : Operand) (ho : o.op = .call { callee := .builtin .append, args := #[s, y], argTypes := #[82, 82] }) (hs : a.eval s = v) (hx : a.eval y = .slice (some ⟨w.heap.size, 0, none⟩) 1 1)
    (hK : ∀ v' w', OwnR w' B 84 2 csArc v' (l ++ [x]) → Below B w w' → Only (fun k => v.ownBlock = some k) w w' → (∀ k, v'.ownBlock = some k → v.ownBlock = some k ∨ w.heap.size ≤ k) → wpList Tryz.prog ops Q rest (a.put o.dst v') w') : wpList Tryz.prog ops Q (o :: rest) a (w.alloc (.cells #[.int .i64 x.src, .int .i64 x.dst] 84)) := by
  obtain ⟨i, hi, hz, hs1, hb1⟩ := info_parts info_arc
  exact appK csArc_len (by decide) csArc_one 84 82 i _ 16 Tryz.underlying82 hi hz hs1 hb1 rfl (by decide) hown hB hl hgd s y ho hs hx hK
theorem arcsO_pre (L : List Sp) (k : Nat) (hk : k < L.length) : (arcsO (L.take k)).length + L[k].aft.length ≤ (arcsO L).length := by
  have e : arcsO L = arcsO (L.take (k + 1)) ++ arcsO (L.drop (k + 1)) := by
    unfold arcsO
    rw [← List.flatMap_append, List.take_append_drop]
  rw [e, arcsO_take L k hk, List.length_append, List.length_append, List.length_map]
  omega
def Sp64 (L : List Sp) : Prop := ∀ x ∈ L, I64 x.id ∧ ∀ n ∈ x.aft, I64 n
theorem Sp64.ids {L : List Sp} (h : Sp64 L) : B64 (idsO L) := fun n hn => by
  obtain ⟨x, hx, rfl⟩ := List.mem_map.1 hn
  exact (h x hx).1
theorem Sp64.arcs {L : List Sp} (h : Sp64 L) : B64a (arcsO L) := fun a ha => by
  obtain ⟨x, hx, e, hs⟩ := arcsO_mem.1 ha
  refine ⟨(h x hx).2 _ hs, ?_⟩
  rw [e]
  exact (h x hx).1

set_option maxHeartbeats 4000000 in
set_option maxRecDepth 100000 in
theorem bOrder_any (vl : Value) (L : List Sp) (w : World) (hl : SpsAt w vl L) (hll : L.length ≤ 640) (hal : (arcsO L).length ≤ 640) (h64 : Sp64 L) :
    Calls Tryz.prog 71 #[vl] w fun e w' => ∃ v, e = .returned (.tuple #[v, .bool (wholeB L)]) ∧ IntsAt w' v (ordL (idsO L) (arcsO L)) ∧ Below w.heap.size w w' := by
  have hw : decide ((ordL (idsO L) (arcsO L)).length = (setL (idsO L)).length) = wholeB L := rfl
  have GO := fun (w' : World) (va vb : Value) (h1 : IntsAt w' va (idsO L)) (h2 : ArcsAt w' vb (arcsO L)) => gOrder_any va vb (idsO L) (arcsO L) w' h1 h2 (by rw [idsO_len]; exact hll) hal h64.ids h64.arcs
  rw [hw] at GO
  replace GO := Lib.hid GO
  generalize wholeB L = r at *
  have HL := Lib.hid hl
  have HAL := Lib.hid hal
  have HLL := Lib.hid hll
  obtain ⟨la, lc, rfl⟩ := hl.form
  have l2 : (L.length : Int) ≤ 640 := by omega
  clear hl hal hll hw h64
  go_enter Tryz.func71, Tryz.ntmps71
  go_wp2
  go_loopg [4, 5, 12] L.length (fun kx iv av kv ws => ∃ k : Nat, k ≤ L.length ∧ L.length - k ≤ kx ∧ kv = .int .i64 k ∧ Hid (OwnI ws w.heap.size iv (idsO (L.take k))) ∧ Hid (OwnR ws w.heap.size 84 2 csArc av (arcsO (L.take k))) ∧ Hid (Below w.heap.size w ws))
  case atStart => exact ⟨0, Nat.zero_le _, Nat.le_refl _, rfl, OwnR.nil _ _ _ _ _, OwnR.nil _ _ _ _ _, Below.refl _ _⟩
  case round =>
    obtain ⟨k, hk, hkx, rfl, HI, HA, HB⟩ := hrel
    obtain ⟨aT, cT, e⟩ := (OwnI.ints HI.out).form
    subst e
    obtain ⟨bT, dT, e⟩ := RowsAt.form (OwnR.rows csArc_len HA.out)
    subst e
    by_cases hlt : k < L.length
    · obtain ⟨g, o, cc, id, prio, sk, ge, fx, fy, tx, ty, a, c, l, he, e, hlc, p0, p1, p2, p3, p4, p5, p6, p7, p8, hi8⟩ := (HL.out.kept HB.out).spot k hlt
      cases e
      have HLT := Lib.hid (And.intro hlt hkx)
      have k0 : (0 : Int) ≤ (k : Int) := by omega
      have k1 : (k : Int) < (L.length : Int) := by omega
      have k2 : (k : Int) ≤ 640 := by have := HLL.out; omega
      have hin := idsO_take L k hlt
      have han := arcsO_take L k hlt
      have hpre := arcsO_pre L k hlt
      rw [he] at hin han hpre
      dsimp only at hin han hpre
      have hil : (idsO (L.take k)).length ≤ 640 := by rw [idsO_len, List.length_take]; have := HLL.out; omega
      have hX := Blk.new wr [.int .i64 id, .int .i64 prio, .int .u64 sk, .int .u64 ge, .int .i64 fx, .int .i64 fy, .int .i64 tx, .int .i64 ty, .slice a l.length c] 49
      have HI3 := Lib.hid (OwnR.alloc HI.out (.cells #[.int .i64 id, .int .i64 prio, .int .u64 sk, .int .u64 ge, .int .i64 fx, .int .i64 fy, .int .i64 tx, .int .i64 ty, .slice a l.length c] 49))
      have HA3 := Lib.hid (OwnR.alloc HA.out (.cells #[.int .i64 id, .int .i64 prio, .int .u64 sk, .int .u64 ge, .int .i64 fx, .int .i64 fy, .int .i64 tx, .int .i64 ty, .slice a l.length c] 49))
      have HB3 := Lib.hid (HB.out.alloc HB.out.size (.cells #[.int .i64 id, .int .i64 prio, .int .u64 sk, .int .u64 ge, .int .i64 fx, .int .i64 fy, .int .i64 tx, .int .i64 ty, .slice a l.length c] 49))
      have HE := Lib.hid (show IntsAt w (.slice a l.length c) l by have := HL.out.2 _ (List.getElem_mem hlt); rw [he] at this; exact this)
      have HX3 := Lib.hid hX
      have hlI := fun b hb => (World.ownsRow.lt HI.out b hb).2
      have hlA := fun b hb => (World.ownsRow.lt HA.out b hb).2
      have HLI := Lib.hid hlI
      have HLA := Lib.hid hlA
      have HIN := Lib.hid hin
      have HAN := Lib.hid han
      have HPR := Lib.hid hpre
      have HIL := Lib.hid hil
      generalize hID : idsO (L.take k) = I0 at *
      generalize hAR : arcsO (L.take k) = A0 at *
      have hszb : (wr.alloc (.cells #[.int .i64 id, .int .i64 prio, .int .u64 sk, .int .u64 ge, .int .i64 fx, .int .i64 fy, .int .i64 tx, .int .i64 ty, .slice a l.length c] 49)).heap.size = wr.heap.size + 1 := by simp
      have HSZ := Lib.hid hszb
      have x0 := hX.cell 0 rfl
      clear hk hkx hlt hin han hpre hil hX hlI hlA hID hAR hi8 he HI HA hszb
      go_upto_region 6 with fail
      generalize wr.alloc (.cells #[.int .i64 id, .int .i64 prio, .int .u64 sk, .int .u64 ge, .int .i64 fx, .int .i64 fy, .int .i64 tx, .int .i64 ty, .slice a l.length c] 49) = w3 at *
      generalize wr.heap.size = b0 at *
      clear p0 p1 p2 p3 p4 p5 p6 p7 p8
      go_upto_region 7 with (at_builtin; refine appI23 id HI3.out HB3.out.size (by have := HIL.out; omega) rfl _ _ rfl rfl rfl ?_; intro v6 w6 o6 b6 q6 n6; have HO6 := Lib.hid o6; have HB6 := Lib.hid (HB3.out.trans b6); have HX6 := Lib.hid (HX3.out.only q6 fun h => by have := HLI.out _ h; omega); have HA6 := Lib.hid (HA3.out.only23 q6 fun b h1 h2 => OwnR.unlike HA3.out HI3.out (by decide) b h1 h2); clear o6 b6 q6 n6 x0)
      obtain ⟨a6, c6, e6⟩ := (OwnI.ints HO6.out).form
      subst e6
      generalize (I0 ++ [id]).length = m6 at *
      clear HI3 HA3 HB3 HX3
      have x0 := HX6.out.cell 0 rfl
      have x8 := HX6.out.cell 8 rfl
      have hnb : (Value.slice bT A0.length dT).ownBlock ≠ some b0 := fun h => by have := HLA.out _ h; omega
      have HNB := Lib.hid hnb
      have HSW := Lib.hid HB6.out.size
      clear hnb
      go_wp2
      clear x0 x8
      go_loopg [5, 24] l.length (fun jx av jv ws => ∃ j : Nat, j ≤ l.length ∧ l.length - j ≤ jx ∧ jv = .int .i64 j ∧ Hid (OwnR ws w.heap.size 84 2 csArc av (A0 ++ (l.take j).map fun n => ⟨n, id⟩)) ∧ Hid (OwnI ws w.heap.size (.slice a6 m6 c6) (I0 ++ [id])) ∧ Hid (Blk ws b0 [.int .i64 id, .int .i64 prio, .int .u64 sk, .int .u64 ge, .int .i64 fx, .int .i64 fy, .int .i64 tx, .int .i64 ty, .slice a l.length c]) ∧ Hid (Below w.heap.size w ws) ∧ Hid (av.ownBlock ≠ some b0))
      case atStart => exact ⟨0, Nat.zero_le _, Nat.le_refl _, rfl, by rw [List.take_zero, List.map_nil, List.append_nil]; exact HA6.out, HO6.out, HX6.out, HB6.out, HNB.out⟩
      case round =>
        obtain ⟨j, hj, hjx, rfl, HA7, HI7, HX7, HB7, HN7⟩ := hrel
        obtain ⟨b7, d7, e⟩ := RowsAt.form (OwnR.rows csArc_len HA7.out)
        subst e
        by_cases hjl : j < l.length
        · obtain ⟨g, o, cc, e, hlc, _, p0⟩ := (HE.out.below HB7.out).spot j hjl
          cases e
          have HJT := Lib.hid (And.intro hjl hjx)
          have j0 : (0 : Int) ≤ (j : Int) := by omega
          have j1 : (j : Int) < (l.length : Int) := by omega
          have j2 : (j : Int) ≤ 640 := by have := HPR.out; have := HAL.out; omega
          have hnx : (l.take (j + 1)).map (fun n => (⟨n, id⟩ : Arc16)) = (l.take j).map (fun n => (⟨n, id⟩ : Arc16)) ++ [⟨l[j], id⟩] := by
            rw [List.take_succ_eq_append_getElem hjl, List.map_append]
            rfl
          have hal : (A0 ++ (l.take j).map fun n => (⟨n, id⟩ : Arc16)).length ≤ 640 := by
            rw [List.length_append, List.length_map, List.length_take]
            have := HPR.out
            have := HAL.out
            omega
          have HNX := Lib.hid hnx
          have HAL7 := Lib.hid hal
          generalize l[j] = n at *
          generalize hAA : A0 ++ (l.take j).map (fun n => (⟨n, id⟩ : Arc16)) = AA at *
          have HAA := Lib.hid hAA
          have y0 := HX7.out.cell 0 rfl
          clear hnx hal hAA hj hjx hjl
          go_wp2_with (at_builtin; refine appA23 ⟨n, id⟩ HA7.out HB7.out.size (by have := HAL7.out; omega) rfl _ _ rfl rfl rfl ?_; intro v8 w8 o8 b8 q8 n8; have HO8 := Lib.hid o8; have HB8 := Lib.hid (HB7.out.trans b8); have HX8 := Lib.hid (HX7.out.only q8 HN7.out); have HI8 := Lib.hid (HI7.out.only23 q8 fun b h1 h2 => OwnR.unlike HA7.out HI7.out (by decide) b h2 h1); have HN8 := Lib.hid (show v8.ownBlock ≠ some b0 from fun h => (n8 _ h).elim HN7.out fun h => by have := HX7.out.lt; omega); clear o8 b8 q8 n8 y0 p0)
          go_roundg (l.length - (j + 1))
          case measure => have := HJT.out; omega
          case rel => exact ⟨j + 1, by have := HJT.out; omega, Nat.le_refl _, by go_num, by rw [HNX.out, ← List.append_assoc, HAA.out]; exact HO8.out, HI8.out, HX8.out, HB8.out, HN8.out⟩
        · have hje : j = l.length := by omega
          subst hje
          clear hj hjx hjl HX7 HN7
          go_wp2
          go_roundg (L.length - (k + 1))
          case measure => have := HLT.out; omega
          case rel => exact ⟨k + 1, by have := HLT.out; omega, Nat.le_refl _, by go_num, by rw [HIN.out]; exact HI7.out, by rw [HAN.out]; exact Lib.hid (by simpa only [List.take_length] using HA7.out), HB7.out⟩
    · have hke : k = L.length := by omega
      subst hke
      rw [List.take_length] at HI HA
      have GL := Lib.hid (GO.out wr _ _ (OwnI.ints HI.out) (OwnR.rows csArc_len HA.out))
      clear hk hkx hlt HI HA
      go_wp2_with (go_at_call 89; (with_reducible refine GL.out.mono ?_); rintro e w3 ⟨v3, rfl, h3, b3⟩; have H3 := Lib.hid h3; have HB3 := Lib.hid (HB.out.trans (b3.mono HB.out.size)); clear h3 b3)
      exact bodyPost_ret (v := .tuple #[v3, .bool r]) (by simp [results, Tryz.results71, go_sem]) rfl ⟨_, rfl, H3.out, HB3.out⟩

set_option maxHeartbeats 2000000 in
theorem bRing_any (vl : Value) (L : List Sp) (w : World) (hl : SpsAt w vl L) (hll : L.length ≤ 640) (hal : (arcsO L).length ≤ 640) (h64 : Sp64 L) :
    Calls Tryz.prog 58 #[vl] w fun e w' => e = .returned (.bool (wholeB L)) ∧ Below w.heap.size w w' := by
  have G := Lib.hid (bOrder_any vl L w hl hll hal h64)
  generalize wholeB L = r at *
  clear hl hll hal h64
  go_enter Tryz.func58, Tryz.ntmps58
  go_wp2_with (go_at_call 71; (with_reducible refine G.out.mono ?_); rintro e w1 ⟨v, rfl, _, hb⟩; have HB := Lib.hid hb; clear hb)
  go_ret
  exact ⟨rfl, HB.out⟩

theorem first_drop (L : List Sp) (j : Nat) (h : j < L.length) : firstE (L.drop j) = if chk L[j] = 0 then firstE (L.drop (j + 1)) else chk L[j] := by
  rw [List.drop_eq_getElem_cons h]
  rfl
set_option maxHeartbeats 2000000 in
theorem bFirst_any (va : Value) (l : List Sp) (w : World) (hl : SpsAt w va l) (hlen : l.length ≤ 1000000) (ha8 : ∀ x ∈ l, x.aft.length ≤ 9223372036854775807) :
    Calls Tryz.prog 52 #[va] w fun e w' => e = .returned (.int .i64 (firstE l)) ∧ Below w.heap.size w w' := by
  obtain ⟨r, hr⟩ : ∃ r, firstE l = r := ⟨_, rfl⟩
  rw [hr]
  have HR := Lib.hid hr
  have HL := Lib.hid hl
  have HLE := Lib.hid hlen
  have HA8 := Lib.hid ha8
  obtain ⟨a, c, rfl⟩ := hl.form
  clear hr hl ha8
  go_enter Tryz.func52, Tryz.ntmps52
  go_wp2
  refine wp_scope_goto 0 (fun n a' w' => ∃ (j : Nat) (z : Int), n = l.length - j ∧ z = j ∧ j ≤ l.length ∧ firstE (l.drop j) = r ∧ Below w.heap.size w w' ∧ ∃ u1 u4 u5 u6 u7 u8 u9 u10 u11 u12 u13 u14 u15 u16 u17 u18, a' = { tmps := #[.slice a l.length c, u1, .int .i64 0, .int .i64 z, u4, u5, u6, u7, u8, u9, u10, u11, u12, u13, u14, u15, u16, u17, u18], defers := [] }) rfl rfl ?_ ?_
  · rintro n a' w' ⟨j, _, rfl, rfl, hj, hrun, hmv, u1, u4, u5, u6, u7, u8, u9, u10, u11, u12, u13, u14, u15, u16, u17, u18, rfl⟩ K hK
    have HK := Lib.hid hK
    have HM := Lib.hid hmv
    have HRU := Lib.hid hrun
    clear hK hmv hrun
    by_cases hlt : j < l.length
    · obtain ⟨gb, o, cc, id, prio, sk, ge, fx, fy, tx, ty, a8, c8, l8, he, e, hlc, p0, p1, p2, p3, p4, p5, p6, p7, p8, hi8⟩ := (HL.out.kept HM.out).spot j hlt
      cases e
      have hx := tCheck_any ⟨id, prio, sk, ge, fx, fy, tx, ty, a8, c8, l8⟩ w' hi8 (by have := HA8.out _ (List.getElem_mem hlt); rw [he] at this; exact this)
      have hd := first_drop l j hlt
      rw [he] at hd
      dsimp only [spv] at hx
      generalize chk ⟨id, prio, sk, ge, fx, fy, tx, ty, a8, c8, l8⟩ = b at *
      have HX := Lib.hid hx
      have HD := Lib.hid hd
      have j0 : (0 : Int) ≤ (j : Int) := by omega
      have j1 : (j : Int) < (l.length : Int) := by omega
      have j2 : ((j : Int) == (l.length : Int)) = false := beq_noI (by omega)
      clear hx hd he hi8
      by_cases hb0 : b = 0
      · subst hb0
        go_wp2_with (go_at_call 67; (with_reducible refine HX.out.mono ?_); rintro e w1 ⟨rfl, hm1⟩; have HM3 := Lib.hid (HM.out.trans (hm1.mono HM.out.size)); clear hm1)
        go_step3
        exact ⟨rfl, HK.out (l.length - (j + 1)) _ _ (by omega) ⟨j + 1, _, rfl, by omega, by omega, by have := HD.out; exact (this.trans (if_pos trivial)).symm.trans HRU.out, HM3.out, _, _, _, _, _, _, _, _, _, _, _, _, _, _, _, _,  rfl⟩⟩
      · have HF := Lib.hid (show b = r by rw [← HRU.out, HD.out, if_neg hb0])
        have j3 : (b == 0) = false := beq_noI hb0
        go_wp2_with (go_at_call 67; (with_reducible refine HX.out.mono ?_); rintro e w1 ⟨rfl, hm1⟩; have HM3 := Lib.hid (HM.out.trans (hm1.mono HM.out.size)); clear hm1)
        simp only [Exit.jump]
        go_ret
        exact ⟨by rw [HF.out]; rfl, HM3.out⟩
    · have e : j = l.length := by omega
      subst e
      have hrr := HRU.out
      rw [List.drop_length] at hrr
      have HF := Lib.hid (show 0 = r from hrr)
      clear hrr hlt
      go_wp2
      simp only [Exit.jump]
      go_ret
      exact ⟨by rw [HF.out]; rfl, HM.out⟩
  · intro K hpass
    go_wp2
    go_step3
    rename_i hback
    exact hback _ _ (hpass (l.length - 0) _ _ ⟨0, _, rfl, rfl, by omega, HR.out, Below.refl _ _, _, _, _, _, _, _, _, _, _, _, _, _, _, _, _, _,  rfl⟩)
end Go.Proofs.YthchkhgimnchcaaGreat
/- Stage 23's program: Check, Free. -/
namespace Go.Proofs.YthchkhgimnchcaaGreat
open Go.RowKit

/-- what Check has at hand: the box of the names, the specs -/
structure Ck23 (n bk bs : Nat) (K : List Tk) (vl : Value) (L : List Sp) (W : World) : Prop where
  x : Blk W n [.map (some bk), .map (some bs)]
  nm : NmAt W bk bs K L
  sp : SpsAt W vl L
theorem Ck23.kept {n bk bs : Nat} {K : List Tk} {vl : Value} {L : List Sp} {W W' : World} (h : Ck23 n bk bs K vl L W) (hb : Below W.heap.size W W') : Ck23 n bk bs K vl L W' := ⟨h.x.kept hb, h.nm.kept hb, h.sp.kept hb⟩

set_option maxHeartbeats 8000000 in
set_option maxRecDepth 100000 in
theorem bCheck_any (room : Int) (vk vl : Value) (K : List Tk) (L : List Sp) (w : World) (hk : RowsAt w 14 csTk vk K) (hl : SpsAt w vl L) (hkl : K.length ≤ 1000) (hll : L.length ≤ 80) (hK : ∀ t ∈ K, I64 t.sp.id ∧ I64 t.st) (h64 : Sp64 L) (haf : ∀ x ∈ L, x.aft.length ≤ 9223372036854775807) :
    Calls Tryz.prog 39 #[.int .i64 room, vk, vl] w fun e w' => e = .returned (.int .i64 (bchk room K L)) ∧ Below w.heap.size w w' := by
  have hw := bchk_ways room K L
  obtain ⟨r, hr⟩ : ∃ r, bchk room K L = r := ⟨_, rfl⟩
  rw [hr] at hw ⊢
  have GF := Lib.hid (bFirst_any vl L w hl (by omega) haf)
  obtain ⟨va, vc, rfl⟩ := RowsAt.form hk
  obtain ⟨la, lc, rfl⟩ := hl.form
  have k2 : (K.length : Int) ≤ 1000 := by omega
  have l2 : (L.length : Int) ≤ 80 := by omega
  have k0 : (0 : Int) ≤ (K.length : Int) := by omega
  have l0 : (0 : Int) ≤ (L.length : Int) := by omega
  clear hr
  rcases hw with ⟨h0, rfl⟩ | ⟨h0, h1, rfl⟩ | ⟨h0, h1, hw⟩
  · have e0 : ((L.length : Int) == 0) = true := by rw [h0]; rfl
    clear GF hk hl hkl hll hK h64 haf
    go_enter Tryz.func39, Tryz.ntmps39
    go_wp2
    go_ret
    exact ⟨rfl, Below.refl _ _⟩
  · have e0 : ((L.length : Int) == 0) = false := beq_noI (by omega)
    generalize firstE L = q at *
    have e1 : (q == 0) = false := beq_noI h1
    clear hk hl hkl hll hK h64 haf h0
    go_enter Tryz.func39, Tryz.ntmps39
    go_wp2_with (go_at_call 52; (with_reducible refine GF.out.mono ?_); rintro e w1 ⟨rfl, hb⟩; have HB := Lib.hid hb; clear hb)
    go_ret
    exact ⟨rfl, HB.out⟩
  have e0 : ((L.length : Int) == 0) = false := beq_noI (by omega)
  rw [h1] at GF
  have h8 : ∀ x ∈ L, x.aft.length ≤ 8 := fun x hx => chk_len (firstE_zero.1 h1 x hx)
  have ha8 := arcsO_len h8
  have GN := Lib.hid fun w' hb => namesOf_any (.slice va K.length vc) (.slice la L.length lc) K L w' (RowsAt.kept hk hb) (hl.kept hb) hkl (by omega) hK (fun x hx => (h64 x hx).1)
  have GA1 := Lib.hid fun (n bk bs : Nat) w' (h : Ck23 n bk bs K (.slice la L.length lc) L w') => allS_any (newB K L) 55 (nmv bk bs) (fun _ _ => by kernel_rfl) (.slice la L.length lc) L w' h.sp (by omega) fun w'' x hx _ hb => isNew_any x bk bs K L w'' (h.nm.kept hb) (h64 x hx).1
  have GA2 := Lib.hid fun (n bk bs : Nat) w' (h : Ck23 n bk bs K (.slice la L.length lc) L w') => allS_any (namedB K L) 56 (nmv bk bs) (fun _ _ => by kernel_rfl) (.slice la L.length lc) L w' h.sp (by omega) fun w'' x hx hi hb => isNamed_any x bk bs K L w'' (h.nm.kept hb) hi (by have := h8 x hx; omega) (h64 x hx).2
  have GA3 := Lib.hid fun (n bk bs : Nat) w' (h : Ck23 n bk bs K (.slice la L.length lc) L w') => allS_any (comeB K) 57 (nmv bk bs) (fun _ _ => by kernel_rfl) (.slice la L.length lc) L w' h.sp (by omega) fun w'' x hx hi hb => isCome_any x bk bs K L w'' (h.nm.kept hb) hi (by have := h8 x hx; omega) (h64 x hx).2
  have GR := Lib.hid fun (n bk bs : Nat) w' (h : Ck23 n bk bs K (.slice la L.length lc) L w') => bRing_any (.slice la L.length lc) L w' h.sp (by omega) (by omega) h64
  have hmf : ∀ (fn : Fn) (first cap : Array Value) (w : World), (Instr.makeFunc fn first cap).run Tryz.prog w = .ok (.func fn first cap) w := fun _ _ _ _ => rfl
  have HS := Lib.hid hl
  obtain ⟨t1, ht1⟩ : ∃ t1, L.all (newB K L) = t1 := ⟨_, rfl⟩
  obtain ⟨t2, ht2⟩ : ∃ t2, L.all (namedB K L) = t2 := ⟨_, rfl⟩
  obtain ⟨t3, ht3⟩ : ∃ t3, L.all (comeB K) = t3 := ⟨_, rfl⟩
  obtain ⟨t4, ht4⟩ : ∃ t4, wholeB L = t4 := ⟨_, rfl⟩
  rw [ht1] at hw GA1
  rw [ht2] at hw GA2
  rw [ht3] at hw GA3
  rw [ht4] at hw GR
  clear ht1 ht2 ht3 ht4 hk hl hkl hll hK h64 haf h0 h1 h8 ha8
  rcases hw with ⟨hr, rfl⟩ | ⟨hr, hw⟩
  · go_enter Tryz.func39, Tryz.ntmps39
    go_wp2_with (go_at_call 52; (with_reducible refine GF.out.mono ?_); rintro e w1 ⟨rfl, hb⟩; have HB := Lib.hid hb; clear hb)
    go_ret
    exact ⟨rfl, HB.out⟩
  rcases hw with ⟨rfl, rfl⟩ | ⟨rfl, rfl, rfl⟩ | ⟨rfl, rfl, rfl, rfl⟩ | ⟨rfl, rfl, rfl, rfl, rfl⟩ | ⟨rfl, rfl, rfl, rfl, rfl⟩
  all_goals
    go_enter Tryz.func39, Tryz.ntmps39
    go_wp2_with (first
      | (go_at_call 52; (with_reducible refine GF.out.mono ?_); rintro e w1 ⟨rfl, hb⟩; have HB := Lib.hid hb; clear hb)
      | (go_at_call 53; (with_reducible refine (GN.out _ HB.out).mono ?_); rintro e w2 ⟨bk, bs, rfl, hn, hb⟩; have hal := (Below.refl w2.heap.size w2).alloc (Nat.le_refl _) (.cells #[.map (some bk), .map (some bs)] 93); replace HB := Lib.hid (HB.out.trans (hb.mono HB.out.size)); have HC := Lib.hid (show Ck23 w2.heap.size bk bs K (.slice la L.length lc) L (w2.alloc (.cells #[.map (some bk), .map (some bs)] 93)) from ⟨Blk.new w2 [.map (some bk), .map (some bs)] 93, hn.kept hal, (HS.out.kept HB.out).kept hal⟩); replace HB := Lib.hid (HB.out.trans (hal.mono HB.out.size)); have c0 := HC.out.x.cell 0 rfl; have c1 := HC.out.x.cell 1 rfl; clear hn hb hal)
      | (go_at_call 54; (with_reducible refine (GA1.out _ _ _ _ HC.out).mono ?_); rintro e w2 ⟨rfl, hb⟩; replace HC := Lib.hid (HC.out.kept hb); replace HB := Lib.hid (HB.out.trans (hb.mono HB.out.size)); clear hb c0 c1; have c0 := HC.out.x.cell 0 rfl; have c1 := HC.out.x.cell 1 rfl)
      | (go_at_call 54; (with_reducible refine (GA2.out _ _ _ _ HC.out).mono ?_); rintro e w2 ⟨rfl, hb⟩; replace HC := Lib.hid (HC.out.kept hb); replace HB := Lib.hid (HB.out.trans (hb.mono HB.out.size)); clear hb c0 c1; have c0 := HC.out.x.cell 0 rfl; have c1 := HC.out.x.cell 1 rfl)
      | (go_at_call 54; (with_reducible refine (GA3.out _ _ _ _ HC.out).mono ?_); rintro e w2 ⟨rfl, hb⟩; replace HC := Lib.hid (HC.out.kept hb); replace HB := Lib.hid (HB.out.trans (hb.mono HB.out.size)); clear hb c0 c1; have c0 := HC.out.x.cell 0 rfl; have c1 := HC.out.x.cell 1 rfl)
      | (go_at_call 58; (with_reducible refine (GR.out _ _ _ _ HC.out).mono ?_); rintro e w2 ⟨rfl, hb⟩; replace HC := Lib.hid (HC.out.kept hb); replace HB := Lib.hid (HB.out.trans (hb.mono HB.out.size)); clear hb c0 c1; have c0 := HC.out.x.cell 0 rfl; have c1 := HC.out.x.cell 1 rfl))
    go_ret
    exact ⟨rfl, HB.out⟩

set_option maxHeartbeats 4000000 in
set_option maxRecDepth 100000 in
theorem bFree_any (vk vl : Value) (K : List Tk) (L : List Sp) (w : World) (hk : RowsAt w 14 csTk vk K) (hl : SpsAt w vl L) (hkl : K.length ≤ 1000) (hll : L.length ≤ 1000) (hK : ∀ t ∈ K, I64 t.sp.id ∧ I64 t.st) (h64 : Sp64 L) (haf : ∀ x ∈ L, x.aft.length ≤ 1000000) :
    Calls Tryz.prog 40 #[vk, vl] w fun e w' => ∃ v, e = .returned v ∧ IntsAt w' v (freeO K L) ∧ Below w.heap.size w w' := by
  have GN := Lib.hid (namesOf_any vk vl K L w hk hl hkl hll hK fun x hx => (h64 x hx).1)
  obtain ⟨va, vc, rfl⟩ := RowsAt.form hk
  obtain ⟨la, lc, rfl⟩ := hl.form
  have HS := Lib.hid hl
  have H64 := Lib.hid h64
  have HAF := Lib.hid haf
  have l2 : (L.length : Int) ≤ 1000 := by omega
  clear hk hl hkl hK h64 haf
  go_enter Tryz.func40, Tryz.ntmps40
  go_upto_region 2 with (go_at_call 53; (with_reducible refine GN.out.mono ?_); rintro e w2 ⟨bk, bs, rfl, hn, hb⟩; have HN := Lib.hid hn; have HB := Lib.hid hb; clear hn hb)
  have hal := (Below.refl w2.heap.size w2).alloc (Nat.le_refl _) (.cells #[.map (some bk), .map (some bs)] 93)
  have HC := Lib.hid (show Ck23 w2.heap.size bk bs K (.slice la L.length lc) L (w2.alloc (.cells #[.map (some bk), .map (some bs)] 93)) from ⟨Blk.new w2 [.map (some bk), .map (some bs)] 93, HN.out.kept hal, (HS.out.kept HB.out).kept hal⟩)
  have HB3 := Lib.hid (HB.out.trans (hal.mono HB.out.size))
  generalize w2.alloc (.cells #[.map (some bk), .map (some bs)] 93) = w3 at *
  generalize w2.heap.size = n0 at *
  clear hal HN HB HS
  go_wp2
  go_loopg [6, 14] L.length (fun kx sv iv ws => ∃ k : Nat, k ≤ L.length ∧ L.length - k ≤ kx ∧ iv = .int .i64 k ∧ Hid (OwnI ws w3.heap.size sv (freeO K (L.take k))) ∧ Hid (Below w3.heap.size w3 ws))
  case atStart => exact ⟨0, Nat.zero_le _, Nat.le_refl _, rfl, OwnR.nil _ _ _ _ _, Below.refl _ _⟩
  case round =>
    obtain ⟨k, hk, hkx, rfl, HO, HB4⟩ := hrel
    obtain ⟨aT, cT, e⟩ := (OwnI.ints HO.out).form
    subst e
    have HC4 := Lib.hid (HC.out.kept HB4.out)
    by_cases hlt : k < L.length
    · obtain ⟨g, o, cc, id, prio, sk, ge, fx, fy, tx, ty, a, c, l, he, e, hlc, p0, p1, p2, p3, p4, p5, p6, p7, p8, hi8⟩ := HC4.out.sp.spot k hlt
      cases e
      have HLT := Lib.hid (And.intro hlt hkx)
      have k0 : (0 : Int) ≤ (k : Int) := by omega
      have k1 : (k : Int) < (L.length : Int) := by omega
      have hfn := freeO_take K L k hlt
      have hfl : (freeO K (L.take k)).length ≤ 1000 := by have := freeO_len K (L.take k); rw [List.length_take] at this; omega
      have hx64 := H64.out _ (List.getElem_mem hlt)
      have hxa := HAF.out _ (List.getElem_mem hlt)
      have hal := (Below.refl wr.heap.size wr).alloc (Nat.le_refl _) (.cells #[.int .i64 id, .int .i64 prio, .int .u64 sk, .int .u64 ge, .int .i64 fx, .int .i64 fy, .int .i64 tx, .int .i64 ty, .slice a l.length c] 49)
      have hX := Blk.new wr [.int .i64 id, .int .i64 prio, .int .u64 sk, .int .u64 ge, .int .i64 fx, .int .i64 fy, .int .i64 tx, .int .i64 ty, .slice a l.length c] 49
      rw [he] at hfn hx64 hxa
      dsimp only at hx64 hxa
      have GI := isFree_any ⟨id, prio, sk, ge, fx, fy, tx, ty, a, c, l⟩ bk bs K L _ (HC4.out.nm.kept hal) (hi8.below hal) hxa hx64.2
      dsimp only [spv, nmv] at GI
      have HX3 := Lib.hid hX
      have HO3 := Lib.hid (OwnR.alloc HO.out (.cells #[.int .i64 id, .int .i64 prio, .int .u64 sk, .int .u64 ge, .int .i64 fx, .int .i64 fy, .int .i64 tx, .int .i64 ty, .slice a l.length c] 49))
      have HB5 := Lib.hid (HB4.out.alloc HB4.out.size (.cells #[.int .i64 id, .int .i64 prio, .int .u64 sk, .int .u64 ge, .int .i64 fx, .int .i64 fy, .int .i64 tx, .int .i64 ty, .slice a l.length c] 49))
      have d0 := (HC4.out.x.kept hal).cell 0 rfl
      have d1 := (HC4.out.x.kept hal).cell 1 rfl
      have x0 := hX.cell 0 rfl
      have x1 := hX.cell 1 rfl
      have x2 := hX.cell 2 rfl
      have x3 := hX.cell 3 rfl
      have x4 := hX.cell 4 rfl
      have x5 := hX.cell 5 rfl
      have x6 := hX.cell 6 rfl
      have x7 := hX.cell 7 rfl
      have x8 := hX.cell 8 rfl
      generalize freeB K ⟨id, prio, sk, ge, fx, fy, tx, ty, a, c, l⟩ = t at *
      have HG := Lib.hid GI
      have HFN := Lib.hid hfn
      have HFL := Lib.hid hfl
      generalize freeO K (L.take k) = D at *
      clear hk hkx hlt hfn hfl hx64 hxa hal hX GI hi8 he HO HC4
      cases t with
      | true =>
        go_wp2_with (first
          | (go_at_call 59; (with_reducible refine HG.out.mono ?_); rintro e w6 ⟨rfl, hb⟩; have HO6 := Lib.hid (OwnR.kept HO3.out hb); have HB6 := Lib.hid (HB5.out.trans (hb.mono HB5.out.size)); have y0 := (HX3.out.kept hb).cell 0 rfl; clear hb x0 x1 x2 x3 x4 x5 x6 x7 x8 d0 d1)
          | (at_builtin; refine app1 (n := id) HO6.out HB6.out.size (by have := HFL.out; omega) rfl _ _ rfl rfl rfl ?_; intro v7 w7 o7 b7; have HO7 := Lib.hid o7; have HB7 := Lib.hid (HB6.out.trans b7); clear o7 b7 y0))
        go_roundg (L.length - (k + 1))
        case measure => have := HLT.out; omega
        case rel => exact ⟨k + 1, by have := HLT.out; omega, Nat.le_refl _, by go_num, by rw [HFN.out]; exact HO7.out, HB7.out⟩
      | false =>
        go_wp2_with (go_at_call 59; (with_reducible refine HG.out.mono ?_); rintro e w6 ⟨rfl, hb⟩; have HO6 := Lib.hid (OwnR.kept HO3.out hb); have HB6 := Lib.hid (HB5.out.trans (hb.mono HB5.out.size)); clear hb x0 x1 x2 x3 x4 x5 x6 x7 x8 d0 d1)
        go_roundg (L.length - (k + 1))
        case measure => have := HLT.out; omega
        case rel => exact ⟨k + 1, by have := HLT.out; omega, Nat.le_refl _, by go_num, by rw [HFN.out]; exact HO6.out, HB6.out⟩
    · have hke : k = L.length := by omega
      subst hke
      have ho := OwnI.ints HO.out
      generalize (freeO K (L.take L.length)).length = m7 at *
      rw [List.take_length] at ho
      have H7 := Lib.hid ho
      clear hk hkx hlt HO ho
      go_wp2
      go_ret
      exact ⟨_, rfl, H7.out, HB3.out.trans (HB4.out.mono HB3.out.size)⟩
end Go.Proofs.YthchkhgimnchcaaGreat
/- Stage 24's program: what it calls in task and batch: a spec's copy and what is free, with lists of their own. -/
namespace Go.Proofs.YthchkhgimnchcaaGreat
open Go.RowKit

set_option maxHeartbeats 4000000 in
set_option maxRecDepth 100000 in
/-- .. its list is new, and its own -/
theorem tCloneO_any (x : Sp) (w : World) (ha : IntsAt w x.v x.aft) (hl : x.aft.length ≤ 1000) :
    Calls Tryz.prog 37 #[spv x] w fun e w' => ∃ a' c', e = .returned (spv { x with a := a', c := c' }) ∧ OwnI w' w.heap.size (.slice a' x.aft.length c') x.aft ∧ Below w.heap.size w w' := by
  have G := Lib.hid fun w h => cloneI_any x.v x.aft w h (by omega)
  obtain ⟨id, prio, sk, ge, fx, fy, tx, ty, a, c, l⟩ := x
  dsimp only [Sp.v, spv] at *
  have hal1 := (Below.refl w.heap.size w).alloc (Nat.le_refl _) (.cells #[.int .i64 id, .int .i64 prio, .int .u64 sk, .int .u64 ge, .int .i64 fx, .int .i64 fy, .int .i64 tx, .int .i64 ty, .slice a l.length c] 49)
  have hX := boxS w id prio sk ge fx fy tx ty (.slice a l.length c)
  have hI := ha.below hal1
  obtain ⟨W1, hW1⟩ : ∃ W1, w.alloc (.cells #[.int .i64 id, .int .i64 prio, .int .u64 sk, .int .u64 ge, .int .i64 fx, .int .i64 fy, .int .i64 tx, .int .i64 ty, .slice a l.length c] 49) = W1 := ⟨_, rfl⟩
  have hsz : W1.heap.size = w.heap.size + 1 := by rw [← hW1]; simp
  rw [hW1] at hal1 hX hI
  have hal2 := (Below.refl W1.heap.size W1).alloc (Nat.le_refl _) (.cells #[.int .i64 0, .int .i64 0, .int .u64 0, .int .u64 0, .int .i64 0, .int .i64 0, .int .i64 0, .int .i64 0, .slice none 0 0] 49)
  have hY := boxS W1 0 0 0 0 0 0 0 0 (.slice none 0 0)
  rw [hsz] at hY
  have HX := Lib.hid (hX.kept hal2)
  have HY := Lib.hid hY
  have HI := Lib.hid (hI.below hal2)
  have HB := Lib.hid (hal1.trans (hal2.mono hal1.size))
  rw [← hW1] at HX HY HI HB
  have c6 := HX.out.cell 8 rfl
  clear hal1 hX hI hal2 hY hsz hW1 ha
  go_enter Tryz.func37, Tryz.ntmps37
  go_wp2_with (go_at_call 51; (with_reducible refine (G.out _ HI.out).mono ?_); rintro e w1 ⟨v', rfl, ho, hb1⟩; obtain ⟨a', c', e⟩ := RowsAt.form (OwnR.rows csI_len ho); subst e; have HO := Lib.hid ho; replace HX := Lib.hid (HX.out.kept hb1); replace HY := Lib.hid (HY.out.kept hb1); replace HB := Lib.hid (HB.out.trans (hb1.mono HB.out.size)); clear hb1 c6 ho; have f8 := HX.out.free 8 rfl; have e8 := HX.out.cell 8 rfl; have HX2 := Lib.hid (HX.out.set 8 (.slice a' l.length c')); have HY2 := Lib.hid (HY.out.away ⟨w.heap.size, 8, none⟩ (.slice a' l.length c') (by simp)); have c0 := HX2.out.cell 0 rfl; have c1 := HX2.out.cell 1 rfl; have c2 := HX2.out.cell 2 rfl; have c3 := HX2.out.cell 3 rfl; have c4 := HX2.out.cell 4 rfl; have c5 := HX2.out.cell 5 rfl; have c6 := HX2.out.cell 6 rfl; have c7 := HX2.out.cell 7 rfl; have c8 := HX2.out.cell 8 rfl; have y0 := HY2.out.cell 0 rfl; have z0 := HY2.out.free 0 rfl; have y1 := HY2.out.cell 1 rfl; have z1 := HY2.out.free 1 rfl; have y2 := HY2.out.cell 2 rfl; have z2 := HY2.out.free 2 rfl; have y3 := HY2.out.cell 3 rfl; have z3 := HY2.out.free 3 rfl; have y4 := HY2.out.cell 4 rfl; have z4 := HY2.out.free 4 rfl; have y5 := HY2.out.cell 5 rfl; have z5 := HY2.out.free 5 rfl; have y6 := HY2.out.cell 6 rfl; have z6 := HY2.out.free 6 rfl; have y7 := HY2.out.cell 7 rfl; have z7 := HY2.out.free 7 rfl; have y8 := HY2.out.cell 8 rfl; have z8 := HY2.out.free 8 rfl)
  have hge := ownGe HO.out
  have hn1 : (Value.slice a' l.length c').ownBlock ≠ some w.heap.size := fun e => by have := hge _ e; simp at this <;> omega
  have hn2 : (Value.slice a' l.length c').ownBlock ≠ some (w.heap.size + 1) := fun e => by have := hge _ e; simp at this <;> omega
  have hb1 := HB.out.setCell (p := ⟨w.heap.size, 8, none⟩) (Nat.le_refl _) (.slice a' l.length c')
  have hl1 : w.heap.size ≤ w.heap.size + 1 := by omega
  refine bodyPost_ret (v := .agg #[.int .i64 id, .int .i64 prio, .int .u64 sk, .int .u64 ge, .int .i64 fx, .int .i64 fy, .int .i64 tx, .int .i64 ty, .slice a' l.length c']) ?_ rfl ⟨a', c', rfl, ?_, ?_⟩
  · simp [results, Tryz.results37, go_sem, y0, y1, y2, y3, y4, y5, y6, y7, y8]
  · exact OwnR.base13 ((((((((((HO.out.away _ _ hn1).away _ _ hn2).away _ _ hn2).away _ _ hn2).away _ _ hn2).away _ _ hn2).away _ _ hn2).away _ _ hn2).away _ _ hn2).away _ _ hn2) (by rw [World.size_alloc, World.size_alloc]; omega)
  · exact ((((((((hb1.setCell hl1 _).setCell hl1 _).setCell hl1 _).setCell hl1 _).setCell hl1 _).setCell hl1 _).setCell hl1 _).setCell hl1 _).setCell hl1 _

set_option maxHeartbeats 4000000 in
set_option maxRecDepth 100000 in
/-- .. the list is new, and its own -/
theorem bFreeO_any (vk vl : Value) (K : List Tk) (L : List Sp) (w : World) (hk : RowsAt w 14 csTk vk K) (hl : SpsAt w vl L) (hkl : K.length ≤ 1000) (hll : L.length ≤ 1000) (hK : ∀ t ∈ K, I64 t.sp.id ∧ I64 t.st) (h64 : Sp64 L) (haf : ∀ x ∈ L, x.aft.length ≤ 1000000) :
    Calls Tryz.prog 40 #[vk, vl] w fun e w' => ∃ v, e = .returned v ∧ OwnI w' w.heap.size v (freeO K L) ∧ Below w.heap.size w w' := by
  have GN := Lib.hid (namesOf_any vk vl K L w hk hl hkl hll hK fun x hx => (h64 x hx).1)
  obtain ⟨va, vc, rfl⟩ := RowsAt.form hk
  obtain ⟨la, lc, rfl⟩ := hl.form
  have HS := Lib.hid hl
  have H64 := Lib.hid h64
  have HAF := Lib.hid haf
  have l2 : (L.length : Int) ≤ 1000 := by omega
  clear hk hl hkl hK h64 haf
  go_enter Tryz.func40, Tryz.ntmps40
  go_upto_region 2 with (go_at_call 53; (with_reducible refine GN.out.mono ?_); rintro e w2 ⟨bk, bs, rfl, hn, hb⟩; have HN := Lib.hid hn; have HB := Lib.hid hb; clear hn hb)
  have hal := (Below.refl w2.heap.size w2).alloc (Nat.le_refl _) (.cells #[.map (some bk), .map (some bs)] 93)
  have HC := Lib.hid (show Ck23 w2.heap.size bk bs K (.slice la L.length lc) L (w2.alloc (.cells #[.map (some bk), .map (some bs)] 93)) from ⟨Blk.new w2 [.map (some bk), .map (some bs)] 93, HN.out.kept hal, (HS.out.kept HB.out).kept hal⟩)
  have HB3 := Lib.hid (HB.out.trans (hal.mono HB.out.size))
  generalize w2.alloc (.cells #[.map (some bk), .map (some bs)] 93) = w3 at *
  generalize w2.heap.size = n0 at *
  clear hal HN HB HS
  go_wp2
  go_loopg [6, 14] L.length (fun kx sv iv ws => ∃ k : Nat, k ≤ L.length ∧ L.length - k ≤ kx ∧ iv = .int .i64 k ∧ Hid (OwnI ws w3.heap.size sv (freeO K (L.take k))) ∧ Hid (Below w3.heap.size w3 ws))
  case atStart => exact ⟨0, Nat.zero_le _, Nat.le_refl _, rfl, OwnR.nil _ _ _ _ _, Below.refl _ _⟩
  case round =>
    obtain ⟨k, hk, hkx, rfl, HO, HB4⟩ := hrel
    obtain ⟨aT, cT, e⟩ := (OwnI.ints HO.out).form
    subst e
    have HC4 := Lib.hid (HC.out.kept HB4.out)
    by_cases hlt : k < L.length
    · obtain ⟨g, o, cc, id, prio, sk, ge, fx, fy, tx, ty, a, c, l, he, e, hlc, p0, p1, p2, p3, p4, p5, p6, p7, p8, hi8⟩ := HC4.out.sp.spot k hlt
      cases e
      have HLT := Lib.hid (And.intro hlt hkx)
      have k0 : (0 : Int) ≤ (k : Int) := by omega
      have k1 : (k : Int) < (L.length : Int) := by omega
      have hfn := freeO_take K L k hlt
      have hfl : (freeO K (L.take k)).length ≤ 1000 := by have := freeO_len K (L.take k); rw [List.length_take] at this; omega
      have hx64 := H64.out _ (List.getElem_mem hlt)
      have hxa := HAF.out _ (List.getElem_mem hlt)
      have hal := (Below.refl wr.heap.size wr).alloc (Nat.le_refl _) (.cells #[.int .i64 id, .int .i64 prio, .int .u64 sk, .int .u64 ge, .int .i64 fx, .int .i64 fy, .int .i64 tx, .int .i64 ty, .slice a l.length c] 49)
      have hX := Blk.new wr [.int .i64 id, .int .i64 prio, .int .u64 sk, .int .u64 ge, .int .i64 fx, .int .i64 fy, .int .i64 tx, .int .i64 ty, .slice a l.length c] 49
      rw [he] at hfn hx64 hxa
      dsimp only at hx64 hxa
      have GI := isFree_any ⟨id, prio, sk, ge, fx, fy, tx, ty, a, c, l⟩ bk bs K L _ (HC4.out.nm.kept hal) (hi8.below hal) hxa hx64.2
      dsimp only [spv, nmv] at GI
      have HX3 := Lib.hid hX
      have HO3 := Lib.hid (OwnR.alloc HO.out (.cells #[.int .i64 id, .int .i64 prio, .int .u64 sk, .int .u64 ge, .int .i64 fx, .int .i64 fy, .int .i64 tx, .int .i64 ty, .slice a l.length c] 49))
      have HB5 := Lib.hid (HB4.out.alloc HB4.out.size (.cells #[.int .i64 id, .int .i64 prio, .int .u64 sk, .int .u64 ge, .int .i64 fx, .int .i64 fy, .int .i64 tx, .int .i64 ty, .slice a l.length c] 49))
      have d0 := (HC4.out.x.kept hal).cell 0 rfl
      have d1 := (HC4.out.x.kept hal).cell 1 rfl
      have x0 := hX.cell 0 rfl
      have x1 := hX.cell 1 rfl
      have x2 := hX.cell 2 rfl
      have x3 := hX.cell 3 rfl
      have x4 := hX.cell 4 rfl
      have x5 := hX.cell 5 rfl
      have x6 := hX.cell 6 rfl
      have x7 := hX.cell 7 rfl
      have x8 := hX.cell 8 rfl
      generalize freeB K ⟨id, prio, sk, ge, fx, fy, tx, ty, a, c, l⟩ = t at *
      have HG := Lib.hid GI
      have HFN := Lib.hid hfn
      have HFL := Lib.hid hfl
      generalize freeO K (L.take k) = D at *
      clear hk hkx hlt hfn hfl hx64 hxa hal hX GI hi8 he HO HC4
      cases t with
      | true =>
        go_wp2_with (first
          | (go_at_call 59; (with_reducible refine HG.out.mono ?_); rintro e w6 ⟨rfl, hb⟩; have HO6 := Lib.hid (OwnR.kept HO3.out hb); have HB6 := Lib.hid (HB5.out.trans (hb.mono HB5.out.size)); have y0 := (HX3.out.kept hb).cell 0 rfl; clear hb x0 x1 x2 x3 x4 x5 x6 x7 x8 d0 d1)
          | (at_builtin; refine app1 (n := id) HO6.out HB6.out.size (by have := HFL.out; omega) rfl _ _ rfl rfl rfl ?_; intro v7 w7 o7 b7; have HO7 := Lib.hid o7; have HB7 := Lib.hid (HB6.out.trans b7); clear o7 b7 y0))
        go_roundg (L.length - (k + 1))
        case measure => have := HLT.out; omega
        case rel => exact ⟨k + 1, by have := HLT.out; omega, Nat.le_refl _, by go_num, by rw [HFN.out]; exact HO7.out, HB7.out⟩
      | false =>
        go_wp2_with (go_at_call 59; (with_reducible refine HG.out.mono ?_); rintro e w6 ⟨rfl, hb⟩; have HO6 := Lib.hid (OwnR.kept HO3.out hb); have HB6 := Lib.hid (HB5.out.trans (hb.mono HB5.out.size)); clear hb x0 x1 x2 x3 x4 x5 x6 x7 x8 d0 d1)
        go_roundg (L.length - (k + 1))
        case measure => have := HLT.out; omega
        case rel => exact ⟨k + 1, by have := HLT.out; omega, Nat.le_refl _, by go_num, by rw [HFN.out]; exact HO6.out, HB6.out⟩
    · have hke : k = L.length := by omega
      subst hke
      have ho := OwnR.base13 HO.out HB3.out.size
      generalize (freeO K (L.take L.length)).length = m7 at *
      rw [List.take_length] at ho
      have H7 := Lib.hid ho
      clear hk hkx hlt HO ho
      go_wp2
      go_ret
      exact ⟨_, rfl, H7.out, HB3.out.trans (HB4.out.mono HB3.out.size)⟩
end Go.Proofs.YthchkhgimnchcaaGreat
/- Stage 24's program: View. (wip/gen/gen24B.py writes this text.) -/
namespace Go.Proofs.YthchkhgimnchcaaGreat
open Go.RowKit

theorem csTk_one (x : Tk) : ∀ u ∈ csTk x, u.oneCell' = true := by
  intro u hu
  simp [csTk] at hu
  rcases hu with rfl | rfl | rfl | rfl | rfl | rfl | rfl | rfl | rfl | rfl | rfl | rfl | rfl | rfl <;> rfl
theorem info_task : (Tryz.prog.info? 51).map (fun i => (i.zero, i.size, i.bytes)) = some (some (.agg #[.int .i64 0, .int .i64 0, .int .u64 0, .int .u64 0, .int .i64 0, .int .i64 0, .int .i64 0, .int .i64 0, .slice none 0 0, .int .i64 0, .int .i64 0, .int .i64 0, .int .i64 0, .slice none 0 0]), 14, 144) := by kernel_rfl
theorem appTk {ops : Array Oper} {rest : List Oper} {o : Oper} {a : Act} {Q : Exit → Act → World → Prop} {B : Nat} {w : World} (x : Tk) {v : Value} {l : List Tk} (hown : OwnR w B 51 14 csTk v l) (hB : B ≤ w.heap.size) (hl : l.length ≤ 1000000)
    (hgd : o.guard = none) (s y : Operand) (ho : o.op = .call { callee := .builtin .append, args := #[s, y], argTypes := #[28, 28] }) (hs : a.eval s = v) (hx : a.eval y = .slice (some ⟨w.heap.size, 0, none⟩) 1 1)
    (hK : ∀ v' w', OwnR w' B 51 14 csTk v' (l ++ [x]) → Below B w w' → Only (fun k => v.ownBlock = some k) w w' → wpList Tryz.prog ops Q rest (a.put o.dst v') w') : wpList Tryz.prog ops Q (o :: rest) a (w.alloc (.cells #[.int .i64 x.sp.id, .int .i64 x.sp.prio, .int .u64 x.sp.sk, .int .u64 x.sp.ge, .int .i64 x.sp.fx, .int .i64 x.sp.fy, .int .i64 x.sp.tx, .int .i64 x.sp.ty, .slice x.sp.a x.sp.aft.length x.sp.c, .int .i64 x.st, .int .i64 x.seq, .int .i64 x.since, .int .i64 x.lost, .slice x.ba x.burnt.length x.bc] 51)) := by
  obtain ⟨i, hi, hz, hs1, hb1⟩ := info_parts info_task
  exact appK csTk_len (by decide) csTk_one 51 28 i _ 144 Tryz.underlying28 hi hz hs1 hb1 rfl (by decide) hown hB hl hgd s y ho hs hx fun v' w' h1 h2 h3 _ => hK v' w' h1 h2 h3

/-- a task but for where its list lies -/
def plK (t : Tk) : Tk := mkK { t.sp with a := none, c := 0 } t.st
theorem plK_ids {V T : List Tk} (h : V.map plK = T.map plK) : idsK V = idsK T := by
  have := congrArg (List.map fun t : Tk => t.sp.id) h
  simpa [List.map_map, Function.comp_def, plK, mkK, idsK] using this
theorem plK_stO {V T : List Tk} (h : V.map plK = T.map plK) (n : Int) : stO V n = stO T n := by
  have key : ∀ L : List Tk, stO (L.map plK) n = stO L n := by
    intro L
    induction L with
    | nil => rfl
    | cons t L ih => rw [List.map_cons, stO_cons, stO_cons, ih]; rfl
  rw [← key V, ← key T, h]
theorem plK_len {V T : List Tk} (h : V.map plK = T.map plK) : V.length = T.length := by simpa using congrArg List.length h

section
variable {F : Nat → Prop} {p mb : Nat} {room : Int} {T : List Tk} {nx : Int → List Int} {g : Int → Option Nat} {Fm : Int → Nat → Prop}
set_option maxHeartbeats 1000000 in
set_option maxRecDepth 100000 in
theorem dView_nil (w : World) : Calls Tryz.prog 13 #[.pointer none] w fun e w' => e = .returned (.slice none 0 0) ∧ w = w' := by
  go_enter Tryz.func13, Tryz.ntmps13
  go_wp2
  go_ret
  exact ⟨rfl, rfl⟩
set_option maxHeartbeats 8000000 in
set_option maxRecDepth 100000 in
theorem dView_any (w : World) (h : DagP F w p mb room T nx g Fm) :
    Calls Tryz.prog 13 #[ndv p] w fun e w' => ∃ v V, e = .returned v ∧ OwnR w' w.heap.size 51 14 csTk v V ∧ (∀ x ∈ V, OwnI w' w.heap.size x.sp.v x.sp.aft) ∧ V.map plK = T.map plK ∧ Below w.heap.size w w' := by
  have hfit := h.fit
  have h64 := h.room64
  have hidl : (idsK T).length = T.length := List.length_map _
  have GK := Lib.hid (dKeys_any mb w)
  have GS := Lib.hid (dSorted_any mb T.length g w h.R.map (by omega) (idsK T) h.wf.ris fun n => ⟨fun hn => ⟨(h.wf.id64 hn).1, (h.R.dom n).1 hn⟩, fun hn => (h.R.dom n).2 hn.2⟩)
  have c1 := h.R.box.cell 1 rfl
  have HD := Lib.hid h
  obtain ⟨ids, hids⟩ : ∃ ids, idsK T = ids := ⟨_, rfl⟩
  rw [hids] at GS hidl
  have HIDS := Lib.hid hids
  have l2 : (ids.length : Int) ≤ 64 := by omega
  have HL := Lib.hid (And.intro hidl (show T.length ≤ 64 by omega))
  clear h hids hidl hfit h64
  go_enter Tryz.func13, Tryz.ntmps13
  go_wp2_with (first
    | (go_at_call 36; (with_reducible refine GK.out.mono ?_); rintro e w1 ⟨rfl, rfl⟩)
    | (go_at_call 35; (with_reducible refine GS.out.mono ?_); rintro e w1 ⟨vi, rfl, hoi, hb⟩; obtain ⟨ai, ci, e⟩ := (OwnI.ints hoi).form; subst e; have HI := Lib.hid (OwnI.ints hoi); have HB0 := Lib.hid hb; clear hoi hb))
  go_loopg [3, 16] ids.length (fun kx ov iv ws => ∃ (k : Nat) (V : List Tk), k ≤ ids.length ∧ ids.length - k ≤ kx ∧ iv = .int .i64 k ∧ Hid (OwnR ws w1.heap.size 51 14 csTk ov V ∧ (∀ x ∈ V, OwnI ws w1.heap.size x.sp.v x.sp.aft) ∧ V.map plK = (T.take k).map plK ∧ Below w1.heap.size w1 ws))
  case atStart => exact ⟨0, [], Nat.zero_le _, Nat.le_refl _, rfl, OwnR.nil _ _ _ _ _, fun x hx => (by cases hx), rfl, Below.refl _ _⟩
  case round =>
    obtain ⟨k, V, hk, hkx, rfl, HS⟩ := hrel
    obtain ⟨av, cv, e⟩ := RowsAt.form (OwnR.rows csTk_len HS.out.1)
    subst e
    by_cases hlt : k < ids.length
    · obtain ⟨g0, o0, cc, e, _, _, q0⟩ := ((HI.out.below HS.out.2.2.2)).spot k hlt
      cases e
      have k0 : (0 : Int) ≤ (k : Int) := by omega
      have k1 : (k : Int) < (ids.length : Int) := by omega
      have hkT : k < T.length := by have := HL.out.1; omega
      have hVl := plK_len HS.out.2.2.1
      rw [List.length_take] at hVl
      have hVl2 : V.length ≤ 64 := by have := HL.out.2; omega
      have htT : T[k] ∈ T := List.getElem_mem hkT
      have hidk : ids[k]'hlt = T[k].sp.id := by have := HIDS.out; subst this; simp [idsK]
      have hDr := HD.out.kept (HB0.out.trans (HS.out.2.2.2.mono HB0.out.size))
      obtain ⟨b, a, c, vn, hg, hN⟩ := hDr.R.nod T[k] htT
      have hidm : T[k].sp.id ∈ idsK T := idsK_mem.2 ⟨_, htT, rfl⟩
      have hlk := hDr.R.map.look1 (HD.out.wf.id64 hidm).1
      rw [hg] at hlk
      rw [hidk] at q0
      dsimp only [pv, Option.map] at hlk
      have hl8 := HD.out.wf.aft8 htT
      have hpl := HD.out.pl T[k] htT
      have htk : (T.take (k + 1)).map plK = (T.take k).map plK ++ [plK T[k]] := by rw [List.take_succ_eq_append_getElem hkT, List.map_append]; rfl
      have hd1 := hDr.R.box.cell 1 rfl
      generalize T[k] = t at *
      obtain ⟨⟨id, prio, sk, ge, fx, fy, tx, ty, a0, c0, l⟩, s, j1, j2, j3, j4, j5, j6⟩ := t
      dsimp only at q0 hlk hN hl8 hg
      have haft := OwnI.ints hN.aft
      dsimp only at haft
      have p0 := hN.blk.cell 0 rfl
      have p1 := hN.blk.cell 1 rfl
      have p2 := hN.blk.cell 2 rfl
      have p3 := hN.blk.cell 3 rfl
      have p4 := hN.blk.cell 4 rfl
      have p5 := hN.blk.cell 5 rfl
      have p6 := hN.blk.cell 6 rfl
      have p7 := hN.blk.cell 7 rfl
      have p8 := hN.blk.cell 8 rfl
      have p9 := hN.blk.cell 9 rfl
      have p10 := hN.blk.cell 10 rfl
      have p11 := hN.blk.cell 11 rfl
      have p12 := hN.blk.cell 12 rfl
      have p13 := hN.blk.cell 13 rfl
      have hal := (Below.refl wr.heap.size wr).alloc (Nat.le_refl _) (.cells #[.int .i64 id, .int .i64 prio, .int .u64 sk, .int .u64 ge, .int .i64 fx, .int .i64 fy, .int .i64 tx, .int .i64 ty, .slice a l.length c, .int .i64 s, .int .i64 0, .int .i64 0, .int .i64 0, .slice none 0 0] 51)
      have hX := Blk.new wr [.int .i64 id, .int .i64 prio, .int .u64 sk, .int .u64 ge, .int .i64 fx, .int .i64 fy, .int .i64 tx, .int .i64 ty, .slice a l.length c, .int .i64 s, .int .i64 0, .int .i64 0, .int .i64 0, .slice none 0 0] 51
      have x0 := hX.cell 0 rfl
      have x1 := hX.cell 1 rfl
      have x2 := hX.cell 2 rfl
      have x3 := hX.cell 3 rfl
      have x4 := hX.cell 4 rfl
      have x5 := hX.cell 5 rfl
      have x6 := hX.cell 6 rfl
      have x7 := hX.cell 7 rfl
      have x8 := hX.cell 8 rfl
      have hGC := tCloneO_any ⟨id, prio, sk, ge, fx, fy, tx, ty, a, c, l⟩ _ (haft.below hal) (by show l.length ≤ 1000; omega)
      dsimp only [spv] at hGC
      have HGC := Lib.hid hGC
      have HX0 := Lib.hid hX
      have HAL := Lib.hid hal
      have HO0 := Lib.hid HS.out.1
      have HV0 := Lib.hid HS.out.2.1
      have HBb := Lib.hid HS.out.2.2.2
      have HSZ := Lib.hid HS.out.2.2.2.size
      have HTK := Lib.hid htk
      have HVM := Lib.hid HS.out.2.2.1
      have HVO := Lib.hid (fun j (hj : (Value.slice av V.length cv).ownBlock = some j) => (World.ownsRow.lt HS.out.1 j hj).2)
      have HLT := Lib.hid (And.intro hlt (And.intro hkx (And.intro hl8 hVl2)))
      clear HS hDr hN haft hal hGC hX htT hidm hpl htk hVl hVl2 hl8 hlt hkx hk hg hidk
      go_upto_region 9 with (go_at_call 37; (with_reducible refine HGC.out.mono ?_); rintro e w1' ⟨a', c', rfl, hoc, hbc⟩; have HX1 := Lib.hid (HX0.out.kept hbc); have HC1 := Lib.hid hoc; have HBc := Lib.hid hbc; clear hoc hbc x0 x1 x2 x3 x4 x5 x6 x7 x8; have f0 := HX1.out.free 0 rfl; have e0 := HX1.out.cell 0 rfl; have f1 := HX1.out.free 1 rfl; have e1 := HX1.out.cell 1 rfl; have f2 := HX1.out.free 2 rfl; have e2 := HX1.out.cell 2 rfl; have f3 := HX1.out.free 3 rfl; have e3 := HX1.out.cell 3 rfl; have f4 := HX1.out.free 4 rfl; have e4 := HX1.out.cell 4 rfl; have f5 := HX1.out.free 5 rfl; have e5 := HX1.out.cell 5 rfl; have f6 := HX1.out.free 6 rfl; have e6 := HX1.out.cell 6 rfl; have f7 := HX1.out.free 7 rfl; have e7 := HX1.out.cell 7 rfl; have f8 := HX1.out.free 8 rfl; have e8 := HX1.out.cell 8 rfl)
      have hCB : (Value.slice a' l.length c').ownBlock ≠ some wr.heap.size := fun e => by have := ownGe HC1.out _ e; rw [World.size_alloc] at this; omega
      have hBB : wr.heap.size ≤ wr.heap.size := Nat.le_refl _
      have hB2 := ((((((((((HAL.out.trans (HBc.out.mono HAL.out.size)).setCell (p := ⟨wr.heap.size, 0, none⟩) hBB (.int .i64 id)).setCell (p := ⟨wr.heap.size, 1, none⟩) hBB (.int .i64 prio)).setCell (p := ⟨wr.heap.size, 2, none⟩) hBB (.int .u64 sk)).setCell (p := ⟨wr.heap.size, 3, none⟩) hBB (.int .u64 ge)).setCell (p := ⟨wr.heap.size, 4, none⟩) hBB (.int .i64 fx)).setCell (p := ⟨wr.heap.size, 5, none⟩) hBB (.int .i64 fy)).setCell (p := ⟨wr.heap.size, 6, none⟩) hBB (.int .i64 tx)).setCell (p := ⟨wr.heap.size, 7, none⟩) hBB (.int .i64 ty)).setCell (p := ⟨wr.heap.size, 8, none⟩) hBB (.slice a' l.length c'))
      have hX2 := (((((((((HX1.out.set 0 (.int .i64 id)).set 1 (.int .i64 prio)).set 2 (.int .u64 sk)).set 3 (.int .u64 ge)).set 4 (.int .i64 fx)).set 5 (.int .i64 fy)).set 6 (.int .i64 tx)).set 7 (.int .i64 ty)).set 8 (.slice a' l.length c'))
      have hC2 := (OwnR.away (OwnR.away (OwnR.away (OwnR.away (OwnR.away (OwnR.away (OwnR.away (OwnR.away (OwnR.away HC1.out ⟨wr.heap.size, 0, none⟩ (.int .i64 id) hCB) ⟨wr.heap.size, 1, none⟩ (.int .i64 prio) hCB) ⟨wr.heap.size, 2, none⟩ (.int .u64 sk) hCB) ⟨wr.heap.size, 3, none⟩ (.int .u64 ge) hCB) ⟨wr.heap.size, 4, none⟩ (.int .i64 fx) hCB) ⟨wr.heap.size, 5, none⟩ (.int .i64 fy) hCB) ⟨wr.heap.size, 6, none⟩ (.int .i64 tx) hCB) ⟨wr.heap.size, 7, none⟩ (.int .i64 ty) hCB) ⟨wr.heap.size, 8, none⟩ (.slice a' l.length c') hCB)
      have HB2 := Lib.hid hB2
      have HX2 := Lib.hid (show Blk _ wr.heap.size [.int .i64 id, .int .i64 prio, .int .u64 sk, .int .u64 ge, .int .i64 fx, .int .i64 fy, .int .i64 tx, .int .i64 ty, .slice a' l.length c', .int .i64 s, .int .i64 0, .int .i64 0, .int .i64 0, .slice none 0 0] from hX2)
      have HC2 := Lib.hid hC2
      clear hB2 hX2 hC2 f0 e0 f1 e1 f2 e2 f3 e3 f4 e4 f5 e5 f6 e6 f7 e7 f8 e8
      generalize (((((((((w1'.setCell ⟨wr.heap.size, 0, none⟩ (.int .i64 id)).setCell ⟨wr.heap.size, 1, none⟩ (.int .i64 prio)).setCell ⟨wr.heap.size, 2, none⟩ (.int .u64 sk)).setCell ⟨wr.heap.size, 3, none⟩ (.int .u64 ge)).setCell ⟨wr.heap.size, 4, none⟩ (.int .i64 fx)).setCell ⟨wr.heap.size, 5, none⟩ (.int .i64 fy)).setCell ⟨wr.heap.size, 6, none⟩ (.int .i64 tx)).setCell ⟨wr.heap.size, 7, none⟩ (.int .i64 ty)).setCell ⟨wr.heap.size, 8, none⟩ (.slice a' l.length c')) = w2 at *
      have HO2 := Lib.hid (OwnR.kept HO0.out HB2.out)
      have HV2 := Lib.hid (fun x hx => OwnR.kept (HV0.out x hx) HB2.out)
      have hz2 : wr.heap.size ≤ w2.heap.size := HB2.out.size
      have hzb : w1.heap.size ≤ wr.heap.size := HSZ.out
      have HUN := Lib.hid (fun x hx => OwnR.unlike (HV2.out x hx) HO2.out (by decide))
      have HUC := Lib.hid (OwnR.unlike HC2.out HO2.out (by decide))
      have HC3 := Lib.hid (OwnR.base13 HC2.out (show w1.heap.size ≤ _ by rw [World.size_alloc]; omega))
      have y0 := HX2.out.cell 0 rfl
      have y1 := HX2.out.cell 1 rfl
      have y2 := HX2.out.cell 2 rfl
      have y3 := HX2.out.cell 3 rfl
      have y4 := HX2.out.cell 4 rfl
      have y5 := HX2.out.cell 5 rfl
      have y6 := HX2.out.cell 6 rfl
      have y7 := HX2.out.cell 7 rfl
      have y8 := HX2.out.cell 8 rfl
      have y9 := HX2.out.cell 9 rfl
      have y10 := HX2.out.cell 10 rfl
      have y11 := HX2.out.cell 11 rfl
      have y12 := HX2.out.cell 12 rfl
      have y13 := HX2.out.cell 13 rfl
      go_wp2_with (at_builtin; refine appTk ⟨⟨id, prio, sk, ge, fx, fy, tx, ty, a', c', l⟩, s, 0, 0, 0, none, 0, []⟩ HO2.out (Nat.le_trans hzb hz2) (by have := HLT.out.2.2.2; omega) rfl _ _ rfl rfl rfl ?_; intro v7 w7 o7 b7 q7; have HO7 := Lib.hid o7; have HB7 := Lib.hid b7; have HQ7 := Lib.hid q7; clear o7 b7 q7)
      go_roundg (ids.length - (k + 1))
      case measure => have := HLT.out; omega
      case rel =>
        refine ⟨k + 1, V ++ [⟨⟨id, prio, sk, ge, fx, fy, tx, ty, a', c', l⟩, s, 0, 0, 0, none, 0, []⟩], by have := HLT.out; omega, Nat.le_refl _, by go_num, HO7.out, fun x hx => ?_, ?_, ?_⟩
        · rcases List.mem_append.1 hx with hx | hx
          · exact OwnR.only23 (HV2.out x hx) HQ7.out (fun j hj => HUN.out x hx j hj)
          · rw [List.mem_singleton.1 hx]
            exact OwnR.only23 HC3.out HQ7.out (fun j hj => HUC.out j hj)
        · rw [List.map_append, HVM.out, HTK.out]
          rfl
        · exact (HBb.out.trans (HB2.out.mono hzb)).trans HB7.out
    · have hke : k = ids.length := by omega
      subst hke
      have hvm := HS.out.2.2.1
      rw [HL.out.1, List.take_length] at hvm
      have HVM := Lib.hid hvm
      have ho := OwnR.base13 HS.out.1 HB0.out.size
      have HO := Lib.hid ho
      generalize V.length = m at *
      clear hvm ho hlt hk hkx
      go_wp2
      go_ret
      exact ⟨_, V, rfl, HO.out, fun x hx => OwnR.base13 (HS.out.2.1 x hx) HB0.out.size, HVM.out, HB0.out.trans (HS.out.2.2.2.mono HB0.out.size)⟩
end
end Go.Proofs.YthchkhgimnchcaaGreat
