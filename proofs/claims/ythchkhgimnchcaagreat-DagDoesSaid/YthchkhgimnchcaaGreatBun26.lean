/- Texts of this proof, joined: DgRC; DgRD; BtF; DgH. -/
import Derived.Test.YthchkhgimnchcaaGreatBun25
/- Stage 24: the document's Free; Put, Admit, Waits. (wip/gen/gen24RC.py writes this text.) -/
namespace Go.Proofs.YthchkhgimnchcaaGreat
open Go.RowKit

theorem freeB_all (K : List Tk) (x : Sp) : freeB K x = x.aft.all (overI K) := rfl
set_option maxHeartbeats 16000000 in
set_option maxRecDepth 100000 in
theorem refFree23_any (vk vl : Value) (K : List Tk) (L : List Sp) (w : World) (hk : RowsAt w 14 csTk vk K) (hl : SpsAt w vl L) (hkl : K.length ≤ 1000) (hll : L.length ≤ 80) (ha8 : ∀ x ∈ L, x.aft.length ≤ 8) :
    Calls Tryz.prog 31 #[vk, vl] w fun e w' => ∃ v, e = .returned v ∧ OwnI w' w.heap.size v (freeO K L) ∧ Below w.heap.size w w' := by
  obtain ⟨ka, kc, rfl⟩ := RowsAt.form hk
  obtain ⟨la, lc, rfl⟩ := hl.form
  have HK := Lib.hid hk
  have HL := Lib.hid hl
  have HA8 := Lib.hid ha8
  have GF := Lib.hid fun n w' (hb : Below w.heap.size w w') => refFind23_any (.slice ka K.length kc) K n w' (RowsAt.kept hk hb) (by omega)
  have k2 : (K.length : Int) ≤ 1000 := by omega
  have l2 : (L.length : Int) ≤ 80 := by omega
  clear hk hl hkl ha8
  go_enter Tryz.func31, Tryz.ntmps31
  go_wp2
  go_loopg [5, 6] L.length (fun kx ov iv ws => ∃ k : Nat, k ≤ L.length ∧ L.length - k ≤ kx ∧ iv = .int .i64 k ∧ Hid (OwnI ws w.heap.size ov (freeO K (L.take k))) ∧ Hid (Below w.heap.size w ws))
  case atStart => exact ⟨0, Nat.zero_le _, Nat.le_refl _, rfl, OwnR.nil _ _ _ _ _, Below.refl _ _⟩
  case round =>
    obtain ⟨k, hk, hkx, rfl, HO, HB⟩ := hrel
    obtain ⟨aT, cT, e⟩ := (OwnI.ints HO.out).form
    subst e
    by_cases hlt : k < L.length
    · obtain ⟨g, o, cc, id, prio, sk, ge, fx, fy, tx, ty, a, c, l, he, e, hlc, p0', p1', p2', p3', p4', p5', p6', p7', p8', hi8⟩ := HL.out.spot k hlt
      cases e
      clear p1' p2' p3' p4' p5' p6' p7'
      have HLT := Lib.hid (And.intro hlt hkx)
      have k0 : (0 : Int) ≤ (k : Int) := by omega
      have k1 : (k : Int) < (L.length : Int) := by omega
      have hgl : g < w.heap.size := World.block_lt_of_cell? w ⟨g, o + k * 9 + 8, none⟩ p8'
      have HPC := Lib.hid fun (w' : World) (hb : Below w.heap.size w w') => And.intro ((hb.cell (p := ⟨g, o + k * 9, none⟩) hgl).trans p0') ((hb.cell (p := ⟨g, o + k * 9 + 8, none⟩) hgl).trans p8')
      have HSP := Lib.hid hi8
      have hfn := freeO_take K L k hlt
      have hfl : (freeO K (L.take k)).length ≤ 80 := by have := freeO_len K (L.take k); rw [List.length_take] at this; omega
      have hl8 : l.length ≤ 8 := by have := HA8.out _ (List.getElem_mem hlt); rw [he] at this; exact this
      rw [he, freeB_all] at hfn
      dsimp only at hfn
      have HFN := Lib.hid hfn
      have HFL := Lib.hid hfl
      have l8 : (l.length : Int) ≤ 8 := by omega
      generalize freeO K (L.take k) = D at *
      obtain ⟨p0, p8⟩ := HPC.out _ HB.out
      clear hfn hfl hi8 he hlc hlt hkx hk hl8 hgl p8' p0'
      go_wp2
      clear p0 p8
      go_loopg [7, 8] l.length (fun jx fv iv ws => ∃ j : Nat, j ≤ l.length ∧ l.length - j ≤ jx ∧ iv = .int .i64 j ∧ fv = .bool ((l.take j).all (overI K)) ∧ wr = ws)
      case atStart => exact ⟨0, Nat.zero_le _, Nat.le_refl _, rfl, rfl, rfl⟩
      case round =>
        obtain ⟨j, hj, hjx, rfl, rfl, rfl⟩ := hrel
        obtain ⟨p0, p8⟩ := HPC.out _ HB.out
        by_cases hjl : j < l.length
        · obtain ⟨g5, o5, c5, e, -, hg5, q0'⟩ := HSP.out.spot j hjl
          simp only [Value.slice.injEq] at e
          obtain ⟨rfl, -, rfl⟩ := e
          have q0 := (HB.out.cell (p := ⟨g5, o5 + j, none⟩) hg5).trans q0'
          have HJT := Lib.hid (And.intro hjl hjx)
          have j0 : (0 : Int) ≤ (j : Int) := by omega
          have j1 : (j : Int) < (l.length : Int) := by omega
          have hst : (l.take (j + 1)).all (overI K) = ((l.take j).all (overI K) && overI K (l[j]'hjl)) := by
            rw [List.take_succ_eq_append_getElem hjl, List.all_append]
            simp
          generalize l[j]'hjl = n at *
          have GF1 := Lib.hid (GF.out n wr HB.out)
          have HST := Lib.hid hst
          generalize (l.take j).all (overI K) = β at *
          clear hst hjl hjx hj q0' hg5
          cases β with
          | false =>
            generalize plcL (idsK K) n = u at *
            go_wp2_with (go_at_call 17; (with_reducible refine GF1.out.mono ?_); rintro e w1 ⟨rfl, rfl⟩)
            go_roundg (l.length - (j + 1))
            case measure => have := HJT.out; omega
            case rel => exact ⟨j + 1, by have := HJT.out; omega, Nat.le_refl _, by go_num, by rw [HST.out]; rfl, rfl⟩
          | true =>
            by_cases hu : 0 ≤ plcL (idsK K) n
            · obtain ⟨q, hq⟩ : ∃ q : Nat, plcL (idsK K) n = (q : Int) := ⟨(plcL (idsK K) n).toNat, by omega⟩
              obtain ⟨hqK, hst⟩ := stO_plc hq
              rw [hq] at GF1
              obtain ⟨gk, ok, ck, e, -, -, hx⟩ := RowsAt.spot (RowsAt.kept HK.out HB.out) q hqK
              simp only [Value.slice.injEq] at e
              obtain ⟨rfl, -, rfl⟩ := e
              have s9 : wr.cell? ⟨gk, ok + q * 14 + 9, none⟩ = some (.int .i64 (K[q]'hqK).st) := hx 9 _ rfl
              have q1 : (q : Int) < (K.length : Int) := by omega
              have q2 : (0 : Int) ≤ (q : Int) := by omega
              have hci : overI K n = decide ((K[q]'hqK).st = 4) := by unfold overI; rw [hst]; rfl
              rw [hci] at HST
              generalize (K[q]'hqK).st = s at *
              clear hx hst hqK hq hu hci
              by_cases h4 : s = 4
              · subst h4
                go_wp2_with (go_at_call 17; (with_reducible refine GF1.out.mono ?_); rintro e w1 ⟨rfl, rfl⟩)
                go_roundg (l.length - (j + 1))
                case measure => have := HJT.out; omega
                case rel => exact ⟨j + 1, by have := HJT.out; omega, Nat.le_refl _, by go_num, by rw [HST.out]; rfl, rfl⟩
              · have e4 : (s == 4) = false := beq_noI h4
                have HS2 := Lib.hid (show (l.take (j + 1)).all (overI K) = false by rw [HST.out]; simp [h4])
                clear h4
                go_wp2_with (go_at_call 17; (with_reducible refine GF1.out.mono ?_); rintro e w1 ⟨rfl, rfl⟩)
                go_roundg (l.length - (j + 1))
                case measure => have := HJT.out; omega
                case rel => exact ⟨j + 1, by have := HJT.out; omega, Nat.le_refl _, by go_num, by rw [HS2.out], rfl⟩
            · have hno : n ∉ idsK K := fun hm => hu (plc_ge.2 hm)
              have hci : overI K n = false := by unfold overI; rw [stO_none hno]; rfl
              have HS2 := Lib.hid (show (l.take (j + 1)).all (overI K) = false by rw [HST.out, hci]; rfl)
              generalize plcL (idsK K) n = u at *
              clear hno hci
              go_wp2_with (go_at_call 17; (with_reducible refine GF1.out.mono ?_); rintro e w1 ⟨rfl, rfl⟩)
              go_roundg (l.length - (j + 1))
              case measure => have := HJT.out; omega
              case rel => exact ⟨j + 1, by have := HJT.out; omega, Nat.le_refl _, by go_num, by rw [HS2.out], rfl⟩
        · have hje : j = l.length := by omega
          subst hje
          rw [List.take_length]
          generalize l.all (overI K) = β at *
          clear hjl hjx hj
          cases β with
          | true =>
            go_wp2_with (at_builtin; refine app1 (n := id) HO.out HB.out.size (by have := HFL.out; omega) rfl _ _ rfl rfl rfl ?_; intro v7 w7 o7 b7; have HO7 := Lib.hid o7; have HB7 := Lib.hid (HB.out.trans b7); clear o7 b7)
            go_roundg (L.length - (k + 1))
            case measure => have := HLT.out; omega
            case rel => exact ⟨k + 1, by have := HLT.out; omega, Nat.le_refl _, by go_num, by rw [HFN.out]; exact HO7.out, HB7.out⟩
          | false =>
            go_wp2
            go_roundg (L.length - (k + 1))
            case measure => have := HLT.out; omega
            case rel => exact ⟨k + 1, by have := HLT.out; omega, Nat.le_refl _, by go_num, by rw [HFN.out]; exact HO.out, HB.out⟩
    · have hke : k = L.length := by omega
      subst hke
      have ho := HO.out
      generalize (freeO K (L.take L.length)).length = m7 at *
      rw [List.take_length] at ho
      have H7 := Lib.hid ho
      clear hk hkx hlt HO ho
      go_wp2
      go_ret
      exact ⟨_, rfl, H7.out, HB.out⟩

/-! ### Put -/
theorem insD_none {x : Tk} : ∀ {A B : List Tk}, (A.any fun y => decide (x.sp.id < y.sp.id)) = false → insD x (A ++ B) = A ++ insD x B
  | [], _, _ => rfl
  | y :: A, B, h => by
    rw [List.any_cons, Bool.or_eq_false_iff] at h
    rw [List.cons_append]
    show (if x.sp.id < y.sp.id then x :: y :: (A ++ B) else y :: insD x (A ++ B)) = _
    rw [if_neg (by simpa using h.1), insD_none h.2]
    rfl
theorem insD_some {x y : Tk} : ∀ {A : List Tk}, (A.any fun y => decide (x.sp.id < y.sp.id)) = true → insD x (A ++ [y]) = insD x A ++ [y]
  | [], h => by cases h
  | z :: A, h => by
    rw [List.cons_append]
    show (if x.sp.id < z.sp.id then x :: z :: (A ++ [y]) else z :: insD x (A ++ [y])) = (if x.sp.id < z.sp.id then x :: z :: A else z :: insD x A) ++ [y]
    by_cases hz : x.sp.id < z.sp.id
    · rw [if_pos hz, if_pos hz]
      rfl
    · rw [if_neg hz, if_neg hz]
      rw [List.any_cons, decide_eq_false hz, Bool.false_or] at h
      rw [insD_some h]
      rfl
def gtD (x : Tk) (A : List Tk) : Bool := A.any fun y => decide (x.sp.id < y.sp.id)
def putD (x : Tk) (A : List Tk) : List Tk := if gtD x A then insD x A else A
theorem gtD_snoc (x y : Tk) (A : List Tk) : gtD x (A ++ [y]) = (gtD x A || decide (x.sp.id < y.sp.id)) := by unfold gtD; rw [List.any_append]; simp
theorem putD_snoc (x y : Tk) (A : List Tk) : putD x (A ++ [y]) = if gtD x A then putD x A ++ [y] else if x.sp.id < y.sp.id then (putD x A ++ [x]) ++ [y] else putD x A ++ [y] := by
  unfold putD
  rw [gtD_snoc]
  cases h : gtD x A
  · by_cases h2 : x.sp.id < y.sp.id
    · have e : insD x (A ++ [y]) = A ++ [x, y] := by
        rw [insD_none h]
        show A ++ (if x.sp.id < y.sp.id then [x, y] else _) = _
        rw [if_pos h2]
      simp [h2, e]
    · simp [h2]
  · simp [insD_some h]
theorem putD_end (x : Tk) (A : List Tk) : insD x A = if gtD x A then putD x A else putD x A ++ [x] := by
  unfold putD
  cases h : gtD x A
  · have := insD_none (B := []) h
    rw [List.append_nil] at this
    simp [this, insD]
  · simp
theorem putD_len (x : Tk) (A : List Tk) : (putD x A).length ≤ A.length + 1 := by
  unfold putD
  split
  · rw [(insD_perm x A).length_eq, List.length_cons]
    exact Nat.le_refl _
  · omega
set_option maxHeartbeats 16000000 in
set_option maxRecDepth 100000 in
theorem refPut24_any (va : Value) (T : List Tk) (x : Tk) (W : World) (ha : RowsAt W 14 csTk va T) (hl : T.length ≤ 1000) :
    Calls Tryz.prog 33 #[va, .agg (csTk x).toArray] W fun e w' => ∃ v, e = .returned v ∧ OwnR w' W.heap.size 51 14 csTk v (insD x T) ∧ Below W.heap.size W w' := by
  obtain ⟨a, c, rfl⟩ := RowsAt.form ha
  have hend := putD_end x T
  have hsnoc := fun y A => putD_snoc x y A
  have hgt := fun y A => gtD_snoc x y A
  have hpl := fun A => putD_len x A
  have hp0 : putD x [] = [] := rfl
  have hg0 : gtD x [] = false := rfl
  obtain ⟨I, hI⟩ : ∃ I, insD x T = I := ⟨_, rfl⟩
  rw [hI]
  rw [hI] at hend
  generalize putD x = P at *
  generalize gtD x = G at *
  obtain ⟨⟨xid, xprio, xsk, xge, xfx, xfy, xtx, xty, xa, xc, xl⟩, xs, xq1, xq2, xq3, xba, xbc, xbu⟩ := x
  dsimp only at hsnoc hgt
  have hal := (Below.refl W.heap.size W).alloc (Nat.le_refl _) (.cells #[.int .i64 xid, .int .i64 xprio, .int .u64 xsk, .int .u64 xge, .int .i64 xfx, .int .i64 xfy, .int .i64 xtx, .int .i64 xty, .slice xa xl.length xc, .int .i64 xs, .int .i64 xq1, .int .i64 xq2, .int .i64 xq3, .slice xba xbu.length xbc] 51)
  have hX := Blk.new W [.int .i64 xid, .int .i64 xprio, .int .u64 xsk, .int .u64 xge, .int .i64 xfx, .int .i64 xfy, .int .i64 xtx, .int .i64 xty, .slice xa xl.length xc, .int .i64 xs, .int .i64 xq1, .int .i64 xq2, .int .i64 xq3, .slice xba xbu.length xbc] 51
  have HA := Lib.hid (RowsAt.kept ha hal)
  have HX := Lib.hid hX
  have HB0 := Lib.hid hal
  have HEND := Lib.hid hend
  have HSN := Lib.hid hsnoc
  have HGT := Lib.hid hgt
  have HPL := Lib.hid hpl
  have l2 : (T.length : Int) ≤ 1000 := by omega
  clear hal hX hend hsnoc hgt hpl hI
  simp only [csTk]
  go_enter Tryz.func33, Tryz.ntmps33
  go_upto_region 1 with fail
  generalize W.alloc (.cells #[.int .i64 xid, .int .i64 xprio, .int .u64 xsk, .int .u64 xge, .int .i64 xfx, .int .i64 xfy, .int .i64 xtx, .int .i64 xty, .slice xa xl.length xc, .int .i64 xs, .int .i64 xq1, .int .i64 xq2, .int .i64 xq3, .slice xba xbu.length xbc] 51) = W1 at *
  obtain ⟨bx, hbx⟩ : ∃ bx, W.heap.size = bx := ⟨_, rfl⟩
  rw [hbx] at HX ⊢
  go_wp2
  go_loopg [5, 6, 7] T.length (fun kx ov dv iv ws => ∃ k : Nat, k ≤ T.length ∧ T.length - k ≤ kx ∧ iv = .int .i64 k ∧ dv = .bool (G (T.take k)) ∧ Hid (OwnR ws W1.heap.size 51 14 csTk ov (P (T.take k))) ∧ Hid (Below W1.heap.size W1 ws))
  case atStart => exact ⟨0, Nat.zero_le _, Nat.le_refl _, rfl, by rw [List.take_zero, hg0], by rw [List.take_zero, hp0]; exact OwnR.nil _ _ _ _ _, Below.refl _ _⟩
  case round =>
    obtain ⟨k, hk, hkx, rfl, rfl, HO, HB⟩ := hrel
    by_cases hlt : k < T.length
    · obtain ⟨g, o, cc, yid, yprio, ysk, yge, yfx, yfy, ytx, yty, ya, yc, yl, ys, yq1, yq2, yq3, yba, ybc, ybu, he, e, hlc, p0, p1, p2, p3, p4, p5, p6, p7, p8, p9, p10, p11, p12, p13⟩ := tks_spot (RowsAt.kept HA.out HB.out) k hlt
      cases e
      have HLT := Lib.hid (And.intro hlt hkx)
      have k0 : (0 : Int) ≤ (k : Int) := by omega
      have k1 : (k : Int) < (T.length : Int) := by omega
      have hsn := HSN.out T[k] (T.take k)
      have hgn := HGT.out T[k] (T.take k)
      rw [← List.take_succ_eq_append_getElem hlt, he] at hsn hgn
      have hlen := HPL.out (T.take k)
      rw [List.length_take] at hlen
      have hlen2 : (P (T.take k)).length ≤ 1001 := by omega
      have hlt2 : k < T.length := hlt
      have HSPT := Lib.hid fun (w' : World) (hb : Below W1.heap.size W1 w') => (show RowsAt w' 14 csTk (.slice (some ⟨g, o, none⟩) T.length c) T from RowsAt.kept HA.out hb)
      have HKL := Lib.hid (And.intro he hlt)
      have x0 := (HX.out.kept HB.out).cell 0 rfl
      dsimp only at hsn hgn
      generalize P (T.take k) = O at *
      generalize G (T.take k) = β at *
      have HSN2 := Lib.hid hsn
      have HGN := Lib.hid hgn
      have HLEN := Lib.hid hlen2
      clear hsn hgn hlen hlen2 hkx hk he hlc
      cases β with
      | true =>
        have hO := HSN2.out
        rw [if_pos rfl] at hO
        have HO5 := Lib.hid hO
        go_upto_region 6 with fail
        refine wp_region_calm0 (by kernel_rfl) (by kernel_rfl) fun M => ?_
        repeat (go_big_quiet_step (fail))
        refine wpQuiet_nil ?_
        clear M
        intro w5 hb5
        have HO6 := Lib.hid (OwnR.kept HO.out hb5)
        have HB6 := Lib.hid (HB.out.trans (hb5.mono HB.out.size))
        clear hb5 x0 p0 p1 p2 p3 p4 p5 p6 p7 p8 p9 p10 p11 p12 p13 HO HB
        obtain ⟨g', o', cc', zyid, zyprio, zysk, zyge, zyfx, zyfy, zytx, zyty, zya, zyc, zyl, zys, zyq1, zyq2, zyq3, zyba, zybc, zybu, he', e', hlc', p0, p1, p2, p3, p4, p5, p6, p7, p8, p9, p10, p11, p12, p13⟩ := tks_spot (HSPT.out _ HB6.out) k HKL.out.2
        cases e'
        rw [HKL.out.1] at he'
        cases he'
        clear hlc'
        go_wp2_with (at_builtin; refine appTk ⟨⟨yid, yprio, ysk, yge, yfx, yfy, ytx, yty, ya, yc, yl⟩, ys, yq1, yq2, yq3, yba, ybc, ybu⟩ HO6.out HB6.out.size (by have := HLEN.out; omega) rfl _ _ rfl rfl rfl ?_; intro v7 w7 o7 b7 _; have HO7 := Lib.hid o7; have HB7 := Lib.hid (HB6.out.trans b7); clear o7 b7)
        go_roundg (T.length - (k + 1))
        case measure => have := HLT.out; omega
        case rel => exact ⟨k + 1, by have := HLT.out; omega, Nat.le_refl _, by go_num, by rw [HGN.out]; rfl, by rw [HO5.out]; exact HO7.out, HB7.out⟩
      | false =>
        by_cases hid : xid < yid
        · have hO := HSN2.out
          rw [if_neg (by simp), if_pos hid] at hO
          have hG := HGN.out
          rw [decide_eq_true hid] at hG
          have HO5 := Lib.hid hO
          have HG5 := Lib.hid hG
          have hx1 := HX.out.kept HB.out
          have b0 := hx1.cell 0 rfl
          have b1 := hx1.cell 1 rfl
          have b2 := hx1.cell 2 rfl
          have b3 := hx1.cell 3 rfl
          have b4 := hx1.cell 4 rfl
          have b5 := hx1.cell 5 rfl
          have b6 := hx1.cell 6 rfl
          have b7 := hx1.cell 7 rfl
          have b8 := hx1.cell 8 rfl
          have b9 := hx1.cell 9 rfl
          have b10 := hx1.cell 10 rfl
          have b11 := hx1.cell 11 rfl
          have b12 := hx1.cell 12 rfl
          have b13 := hx1.cell 13 rfl
          go_upto_region 6 with fail
          refine wp_region_calm0 (by kernel_rfl) (by kernel_rfl) fun M => ?_
          have m0 := fun n : In M.w => n.cell (M.cell x0)
          have m1 := fun n : In M.w => n.cell (M.cell p0)
          repeat (go_big_quiet_step (fail))
          refine wpQuiet_nil ?_
          clear m0 m1 M
          intro w5 hb5
          have HO6 := Lib.hid (OwnR.kept HO.out hb5)
          have HB6 := Lib.hid (HB.out.trans (hb5.mono HB.out.size))
          have hx5 := HX.out.kept HB6.out
          clear hb5 x0 p0 p1 p2 p3 p4 p5 p6 p7 p8 p9 p10 p11 p12 p13 b0 b1 b2 b3 b4 b5 b6 b7 b8 b9 b10 b11 b12 b13 hx1 HO HB
          have b0 := hx5.cell 0 rfl
          have b1 := hx5.cell 1 rfl
          have b2 := hx5.cell 2 rfl
          have b3 := hx5.cell 3 rfl
          have b4 := hx5.cell 4 rfl
          have b5 := hx5.cell 5 rfl
          have b6 := hx5.cell 6 rfl
          have b7 := hx5.cell 7 rfl
          have b8 := hx5.cell 8 rfl
          have b9 := hx5.cell 9 rfl
          have b10 := hx5.cell 10 rfl
          have b11 := hx5.cell 11 rfl
          have b12 := hx5.cell 12 rfl
          have b13 := hx5.cell 13 rfl
          clear hx5
          go_upto_region 9 with (at_builtin; refine appTk ⟨⟨xid, xprio, xsk, xge, xfx, xfy, xtx, xty, xa, xc, xl⟩, xs, xq1, xq2, xq3, xba, xbc, xbu⟩ HO6.out HB6.out.size (by have := HLEN.out; omega) rfl _ _ rfl rfl rfl ?_; intro v7 w7 o7 b7 _; have HO7 := Lib.hid o7; have HB7 := Lib.hid (HB6.out.trans b7); clear o7 b7)
          obtain ⟨g', o', cc', zyid, zyprio, zysk, zyge, zyfx, zyfy, zytx, zyty, zya, zyc, zyl, zys, zyq1, zyq2, zyq3, zyba, zybc, zybu, he', e', hlc', p0, p1, p2, p3, p4, p5, p6, p7, p8, p9, p10, p11, p12, p13⟩ := tks_spot (HSPT.out _ HB7.out) k HKL.out.2
          cases e'
          rw [HKL.out.1] at he'
          cases he'
          clear hlc'
          go_wp2_with (at_builtin; refine appTk ⟨⟨yid, yprio, ysk, yge, yfx, yfy, ytx, yty, ya, yc, yl⟩, ys, yq1, yq2, yq3, yba, ybc, ybu⟩ HO7.out HB7.out.size (by have := HLEN.out; simp; omega) rfl _ _ rfl rfl rfl ?_; intro v8 w8 o8 b8 _; have HO8 := Lib.hid o8; have HB8 := Lib.hid (HB7.out.trans b8); clear o8 b8)
          go_roundg (T.length - (k + 1))
          case measure => have := HLT.out; omega
          case rel => exact ⟨k + 1, by have := HLT.out; omega, Nat.le_refl _, by go_num, by rw [HG5.out]; rfl, by rw [HO5.out]; exact HO8.out, HB8.out⟩
        · have hO := HSN2.out
          rw [if_neg (by simp), if_neg hid] at hO
          have hG := HGN.out
          rw [decide_eq_false hid] at hG
          have HO5 := Lib.hid hO
          have HG5 := Lib.hid hG
          go_upto_region 6 with fail
          refine wp_region_calm0 (by kernel_rfl) (by kernel_rfl) fun M => ?_
          have m0 := fun n : In M.w => n.cell (M.cell x0)
          have m1 := fun n : In M.w => n.cell (M.cell p0)
          repeat (go_big_quiet_step (fail))
          refine wpQuiet_nil ?_
          clear m0 m1 M
          intro w5 hb5
          have HO6 := Lib.hid (OwnR.kept HO.out hb5)
          have HB6 := Lib.hid (HB.out.trans (hb5.mono HB.out.size))
          clear hb5 x0 p0 p1 p2 p3 p4 p5 p6 p7 p8 p9 p10 p11 p12 p13 HO HB
          obtain ⟨g', o', cc', zyid, zyprio, zysk, zyge, zyfx, zyfy, zytx, zyty, zya, zyc, zyl, zys, zyq1, zyq2, zyq3, zyba, zybc, zybu, he', e', hlc', p0, p1, p2, p3, p4, p5, p6, p7, p8, p9, p10, p11, p12, p13⟩ := tks_spot (HSPT.out _ HB6.out) k HKL.out.2
          cases e'
          rw [HKL.out.1] at he'
          cases he'
          clear hlc'
          go_wp2_with (at_builtin; refine appTk ⟨⟨yid, yprio, ysk, yge, yfx, yfy, ytx, yty, ya, yc, yl⟩, ys, yq1, yq2, yq3, yba, ybc, ybu⟩ HO6.out HB6.out.size (by have := HLEN.out; omega) rfl _ _ rfl rfl rfl ?_; intro v8 w8 o8 b8 _; have HO8 := Lib.hid o8; have HB8 := Lib.hid (HB6.out.trans b8); clear o8 b8)
          go_roundg (T.length - (k + 1))
          case measure => have := HLT.out; omega
          case rel => exact ⟨k + 1, by have := HLT.out; omega, Nat.le_refl _, by go_num, by rw [HG5.out]; rfl, by rw [HO5.out]; exact HO8.out, HB8.out⟩
    · have hke : k = T.length := by omega
      subst hke
      have hO := HO.out
      have hlen := HPL.out T
      rw [List.take_length] at hO ⊢
      have hend := HEND.out
      generalize P T = O at *
      generalize G T = β at *
      have HO5 := Lib.hid hO
      have HLEN := Lib.hid hlen
      have hz := HB0.out.size
      clear hO hlen hlt hk hkx HO
      cases β with
      | true =>
        have HE := Lib.hid (show I = O by rw [hend]; rfl)
        obtain ⟨ao, co, e⟩ := RowsAt.form (OwnR.rows csTk_len HO5.out)
        subst e
        clear hend
        go_wp2
        go_ret
        exact ⟨_, rfl, by rw [HE.out, ← hbx]; exact OwnR.base13 HO5.out HB0.out.size, by first | exact HB0.out.trans (HB.out.mono HB0.out.size) | (rw [← hbx]; exact HB0.out.trans (HB.out.mono HB0.out.size))⟩
      | false =>
        have HE := Lib.hid (show I = O ++ [⟨⟨xid, xprio, xsk, xge, xfx, xfy, xtx, xty, xa, xc, xl⟩, xs, xq1, xq2, xq3, xba, xbc, xbu⟩] by rw [hend]; rfl)
        have hx1 := HX.out.kept HB.out
        have b0 := hx1.cell 0 rfl
        have b1 := hx1.cell 1 rfl
        have b2 := hx1.cell 2 rfl
        have b3 := hx1.cell 3 rfl
        have b4 := hx1.cell 4 rfl
        have b5 := hx1.cell 5 rfl
        have b6 := hx1.cell 6 rfl
        have b7 := hx1.cell 7 rfl
        have b8 := hx1.cell 8 rfl
        have b9 := hx1.cell 9 rfl
        have b10 := hx1.cell 10 rfl
        have b11 := hx1.cell 11 rfl
        have b12 := hx1.cell 12 rfl
        have b13 := hx1.cell 13 rfl
        clear hend hx1
        go_wp2_with (at_builtin; refine appTk ⟨⟨xid, xprio, xsk, xge, xfx, xfy, xtx, xty, xa, xc, xl⟩, xs, xq1, xq2, xq3, xba, xbc, xbu⟩ HO5.out HB.out.size (by have := HLEN.out; omega) rfl _ _ rfl rfl rfl ?_; intro v8 w8 o8 b8 _; have HO8 := Lib.hid o8; have HB8 := Lib.hid (HB.out.trans b8); clear o8 b8)
        go_ret
        exact ⟨_, rfl, by rw [HE.out, ← hbx]; exact OwnR.base13 HO8.out HB0.out.size, by first | exact HB0.out.trans (HB8.out.mono HB0.out.size) | (rw [← hbx]; exact HB0.out.trans (HB8.out.mono HB0.out.size))⟩
end Go.Proofs.YthchkhgimnchcaaGreat
/- Stage 24: the document's Waits, Set, Freed. -/
namespace Go.Proofs.YthchkhgimnchcaaGreat
open Go.RowKit

theorem find_plc {K : List Tk} {n : Int} {q : Nat} (h : plcL (idsK K) n = (q : Int)) : ∃ hq : q < K.length, K.find? (fun t => decide (t.sp.id = n)) = some (K[q]'hq) := by
  have hm : n ∈ idsK K := plc_ge.1 (by omega)
  obtain ⟨h1, h2, h3⟩ := plc_lt hm
  have e : (idsK K).idxOf n = q := by omega
  rw [e] at h2 h3
  have hl : (idsK K).length = K.length := List.length_map _
  refine ⟨by omega, ?_⟩
  rw [List.find?_eq_some_iff_getElem]
  have h6 : (K[q]'(by omega)).sp.id = n := by
    rw [List.getElem?_eq_getElem (by omega)] at h3
    have := Option.some.inj h3
    simpa [idsK] using this
  refine ⟨by simp [h6], q, by omega, rfl, fun j hj => ?_⟩
  have h7 : ¬ (K[j]'(by omega)).sp.id = n := fun e2 => by
    have h8 : n ∈ (idsK K).take (j + 1) := by
      rw [List.take_succ_eq_append_getElem (by omega)]
      exact List.mem_append.2 (.inr (List.mem_singleton.2 (by simp [idsK, e2])))
    have h9 := idx_take h8
    omega
  simp [h7]
set_option maxHeartbeats 16000000 in
set_option maxRecDepth 100000 in
theorem refWaits24_any (va : Value) (T : List Tk) (id : Int) (W : World) (ha : RowsAt W 14 csTk va T) (hI : ∀ t ∈ T, IntsAt W t.sp.v t.sp.aft) (hl : T.length ≤ 1000) (h8 : ∀ t ∈ T, t.sp.aft.length ≤ 8) :
    Calls Tryz.prog 16 #[va, .int .i64 id] W fun e w' => e = .returned (.int .i64 (waitsT T id)) ∧ W = w' := by
  obtain ⟨a, c, rfl⟩ := RowsAt.form ha
  have GF := Lib.hid fun n => refFind23_any (.slice a T.length c) T n W ha (by omega)
  have l2 : (T.length : Int) ≤ 1000 := by omega
  obtain ⟨r, hr⟩ : ∃ r, waitsT T id = r := ⟨_, rfl⟩
  rw [hr]
  have HR := Lib.hid hr
  clear hr
  by_cases hu : 0 ≤ plcL (idsK T) id
  · obtain ⟨q, hq⟩ : ∃ q : Nat, plcL (idsK T) id = (q : Int) := ⟨(plcL (idsK T) id).toNat, by omega⟩
    have GF0 := Lib.hid (GF.out id)
    rw [hq] at GF0
    obtain ⟨hqT, hfi⟩ := find_plc hq
    obtain ⟨g, o, cc, e, -, -, hx⟩ := RowsAt.spot ha q hqT
    simp only [Value.slice.injEq] at e
    obtain ⟨rfl, -, rfl⟩ := e
    have p8 : W.cell? ⟨g, o + q * 14 + 8, none⟩ = some (T[q]'hqT).sp.v := hx 8 _ rfl
    have hi8 := hI _ (List.getElem_mem hqT)
    have hl8 := h8 _ (List.getElem_mem hqT)
    have hw : waitsT T id = cntW T (T[q]'hqT).sp.aft := by unfold waitsT; rw [hfi]
    have HA := Lib.hid ha
    generalize (T[q]'hqT).sp = x at *
    obtain ⟨_, _, _, _, _, _, _, _, xa, xc, l⟩ := x
    dsimp only [Sp.v] at p8 hi8 hl8 hw
    have HSP := Lib.hid hi8
    have HW := Lib.hid (hw.symm.trans HR.out)
    have q1 : (q : Int) < (T.length : Int) := by omega
    have q2 : (0 : Int) ≤ (q : Int) := by omega
    have l8 : (l.length : Int) ≤ 8 := by omega
    clear hx hi8 hw hfi hq hu hl8 hI h8 ha hqT
    go_enter Tryz.func16, Tryz.ntmps16
    go_wp2_with (go_at_call 17; (with_reducible refine GF0.out.mono ?_); rintro e w1 ⟨rfl, rfl⟩)
    go_loopg [6, 7] l.length (fun jx nv iv ws => ∃ j : Nat, j ≤ l.length ∧ l.length - j ≤ jx ∧ iv = .int .i64 j ∧ nv = .int .i64 (cntW T (l.take j)) ∧ W = ws)
    case atStart => exact ⟨0, Nat.zero_le _, Nat.le_refl _, rfl, rfl, rfl⟩
    case round =>
      obtain ⟨j, hj, hjx, rfl, rfl, rfl⟩ := hrel
      by_cases hjl : j < l.length
      · obtain ⟨g5, o5, c5, e, -, -, q0⟩ := HSP.out.spot j hjl
        simp only [Value.slice.injEq] at e
        obtain ⟨rfl, -, rfl⟩ := e
        have HJT := Lib.hid (And.intro hjl hjx)
        have j0 : (0 : Int) ≤ (j : Int) := by omega
        have j1 : (j : Int) < (l.length : Int) := by omega
        have hct := cntW_take T l j hjl
        have hcb := cntW_le T (l.take j)
        have hcl : (l.take j).length ≤ j := by rw [List.length_take]; omega
        generalize l[j]'hjl = n at *
        have GF1 := Lib.hid (GF.out n)
        generalize cntW T (l.take j) = m at *
        have m0 : 0 ≤ m ∧ m ≤ 8 := by omega
        have HCT := Lib.hid hct
        clear hct hcb hcl hjl hjx hj
        by_cases hu2 : 0 ≤ plcL (idsK T) n
        · obtain ⟨q', hq'⟩ : ∃ q : Nat, plcL (idsK T) n = (q : Int) := ⟨(plcL (idsK T) n).toNat, by omega⟩
          obtain ⟨hqK, hst⟩ := stO_plc hq'
          rw [hq'] at GF1
          obtain ⟨gk, ok, ck, e, -, -, hx⟩ := RowsAt.spot HA.out q' hqK
          simp only [Value.slice.injEq, Option.some.injEq, Addr.mk.injEq] at e
          obtain ⟨⟨rfl, rfl, -⟩, -, rfl⟩ := e
          have s9 : W.cell? ⟨g, o + q' * 14 + 9, none⟩ = some (.int .i64 (T[q']'hqK).st) := hx 9 _ rfl
          have q3 : (q' : Int) < (T.length : Int) := by omega
          have q4 : (0 : Int) ≤ (q' : Int) := by omega
          have qn : ¬ (q' : Int) < 0 := by omega
          have hci : overI T n = decide ((T[q']'hqK).st = 4) := by unfold overI; rw [hst]; rfl
          rw [hci] at HCT
          generalize (T[q']'hqK).st = s at *
          clear hx hst hqK hq' hu2 hci
          by_cases h4 : s = 4
          · subst h4
            go_wp2_with (go_at_call 17; (with_reducible refine GF1.out.mono ?_); rintro e w1 ⟨rfl, rfl⟩)
            go_roundg (l.length - (j + 1))
            case measure => have := HJT.out; omega
            case rel => exact ⟨j + 1, by have := HJT.out; omega, Nat.le_refl _, by go_num, by rw [HCT.out]; rfl, rfl⟩
          · have e4 : (s == 4) = false := beq_noI h4
            have en : (s != 4) = true := by simp [h4]
            have HC2 := Lib.hid (show cntW T (l.take (j + 1)) = m + 1 by rw [HCT.out]; simp [h4])
            clear h4
            go_wp2_with (go_at_call 17; (with_reducible refine GF1.out.mono ?_); rintro e w1 ⟨rfl, rfl⟩)
            go_roundg (l.length - (j + 1))
            case measure => have := HJT.out; omega
            case rel => exact ⟨j + 1, by have := HJT.out; omega, Nat.le_refl _, by go_num, by rw [HC2.out], rfl⟩
        · have hno : n ∉ idsK T := fun hm => hu2 (plc_ge.2 hm)
          have hci : overI T n = false := by unfold overI; rw [stO_none hno]; rfl
          have HC2 := Lib.hid (show cntW T (l.take (j + 1)) = m + 1 by rw [HCT.out, hci]; simp)
          generalize plcL (idsK T) n = u at *
          clear hno hci
          go_wp2_with (go_at_call 17; (with_reducible refine GF1.out.mono ?_); rintro e w1 ⟨rfl, rfl⟩)
          go_roundg (l.length - (j + 1))
          case measure => have := HJT.out; omega
          case rel => exact ⟨j + 1, by have := HJT.out; omega, Nat.le_refl _, by go_num, by rw [HC2.out], rfl⟩
      · have hje : j = l.length := by omega
        subst hje
        rw [List.take_length, HW.out]
        clear hjl hjx hj
        go_wp2
        go_ret
        exact ⟨rfl, rfl⟩
  · have hno : id ∉ idsK T := fun hm => hu (plc_ge.2 hm)
    have HW := Lib.hid ((waitsT_none hno).symm.trans HR.out)
    have GF0 := Lib.hid (GF.out id)
    generalize plcL (idsK T) id = u at *
    clear hno hI h8 ha
    go_enter Tryz.func16, Tryz.ntmps16
    go_wp2_with (go_at_call 17; (with_reducible refine GF0.out.mono ?_); rintro e w1 ⟨rfl, rfl⟩)
    go_loopg [6, 7] 1 (fun jx nv iv ws => iv = .int .i64 0 ∧ nv = .int .i64 0 ∧ W = ws)
    case atStart => exact ⟨rfl, rfl, rfl⟩
    case round =>
      obtain ⟨rfl, rfl, rfl⟩ := hrel
      go_wp2
      go_ret
      exact ⟨ret_i HW.out, rfl⟩

/-! ### Set -/
theorem flatsTk_set : ∀ (L : List Tk) (i : Nat) (hi : i < L.length) (s : Int), flats csTk (L.set i { L[i] with st := s }) = (flats csTk L).set (i * 14 + 9) (.int .i64 s)
  | [], _, hi, _ => by simp at hi
  | x :: t, 0, _, s => by
    show csTk { x with st := s } ++ flats csTk t = (csTk x ++ flats csTk t).set (0 * 14 + 9) (.int .i64 s)
    rw [List.set_append_left _ _ (by rw [csTk_len]; omega)]
    rfl
  | x :: t, i + 1, hi, s => by
    have ih := flatsTk_set t i (by simpa using hi) s
    show csTk x ++ flats csTk (t.set i { t[i]'(by simpa using hi) with st := s }) = (csTk x ++ flats csTk t).set ((i + 1) * 14 + 9) (.int .i64 s)
    rw [List.set_append_right _ _ (by rw [csTk_len]; omega), ih, csTk_len]
    congr 2
    omega
theorem Own24.put {w : World} {B g n cap : Nat} {L : List Tk} (h : OwnR w B 51 14 csTk (.slice (some ⟨g, 0, none⟩) n cap) L) (i : Nat) (hi : i < L.length) (s : Int) :
    OwnR (w.setCell ⟨g, i * 14 + 9, none⟩ (.int .i64 s)) B 51 14 csTk (.slice (some ⟨g, 0, none⟩) n cap) (L.set i { L[i] with st := s }) := by
  unfold OwnR at *
  rw [List.length_set, flatsTk_set L i hi]
  refine ⟨by rw [List.length_set]; exact h.1, ?_⟩
  rcases h.2 with ⟨h0, _⟩ | ⟨g', cap', cur, e, hg, hh, hnc, hcp, hcs, htake⟩
  · cases h0
  · cases e
    refine .inr ⟨g, cap, cur.setIfInBounds (i * 14 + 9) (.int .i64 s), rfl, hg, ?_, hnc, hcp, by simpa using hcs, ?_⟩
    · unfold World.setCell
      simp only [Array.getElem?_modify, if_pos, hh, Option.map_some]
      rfl
    · rw [Array.toList_setIfInBounds, List.take_set, htake]
theorem Own24.place {w : World} {B : Nat} {v : Value} {L : List Tk} (h : OwnR w B 51 14 csTk v L) (i : Nat) (hi : i < L.length) :
    ∃ g cap, v = .slice (some ⟨g, 0, none⟩) L.length cap ∧ B ≤ g ∧ g < w.heap.size ∧ w.cell? ⟨g, i * 14, none⟩ = some (.int .i64 L[i].sp.id) ∧ w.cell? ⟨g, i * 14 + 9, none⟩ = some (.int .i64 L[i].st) ∧ w.frozen? ⟨g, i * 14 + 9, none⟩ = false := by
  obtain ⟨g, o, c, e, hc, hg, hx⟩ := RowsAt.spot (OwnR.rows csTk_len h) i hi
  have hB := ownGe h
  rcases h.2 with ⟨rfl, h0⟩ | ⟨g', cap', cur, rfl, hg', hh, _⟩
  · simp at h0
    subst h0
    simp at hi
  · cases e
    have h0 := hx 0 _ rfl
    have h9 := hx 9 _ rfl
    simp only [Nat.zero_add, Nat.add_zero] at h0 h9
    exact ⟨_, _, rfl, hg', hg, h0, h9, by simp [World.frozen?, hh]⟩
/-- with the first k looked at -/
def setP (T : List Tk) (id s : Int) (k : Nat) : List Tk := setsT (T.take k) [id] s ++ T.drop k
theorem setP_len (T : List Tk) (id s : Int) (k : Nat) : (setP T id s k).length = T.length := by
  unfold setP
  rw [List.length_append, setsT_len, List.length_take, List.length_drop]
  omega
theorem setP_at (T : List Tk) (id s : Int) (k : Nat) (hk : k < T.length) : (setP T id s k)[k]'(by rw [setP_len]; exact hk) = T[k] := by
  unfold setP
  rw [List.getElem_append_right (by rw [setsT_len, List.length_take]; omega)]
  simp only [setsT_len, List.length_take, Nat.min_eq_left (Nat.le_of_lt hk), Nat.sub_self, List.getElem_drop]
  rfl
theorem setP_next (T : List Tk) (id s : Int) (k : Nat) (hk : k < T.length) : setP T id s (k + 1) = if T[k].sp.id = id then (setP T id s k).set k { T[k] with st := s } else setP T id s k := by
  have e1 : setsT (T.take (k + 1)) [id] s = setsT (T.take k) [id] s ++ [if inL [id] T[k].sp.id then { T[k] with st := s } else T[k]] := by
    unfold setsT
    rw [List.take_succ_eq_append_getElem hk, List.map_append]
    rfl
  have hl : (setsT (T.take k) [id] s).length = k := by rw [setsT_len, List.length_take]; omega
  unfold setP
  rw [e1, List.append_assoc, List.drop_eq_getElem_cons hk]
  by_cases h : T[k].sp.id = id
  · rw [if_pos h, if_pos (inL_iff.2 (List.mem_singleton.2 h)), List.set_append_right _ _ (by omega), hl, Nat.sub_self]
    rfl
  · rw [if_neg h, if_neg (fun e => h (List.mem_singleton.1 (inL_iff.1 e)))]
    rfl
set_option maxHeartbeats 16000000 in
set_option maxRecDepth 100000 in
theorem refSet24_any (va : Value) (T : List Tk) (id s : Int) (W : World) (ha : RowsAt W 14 csTk va T) (hl : T.length ≤ 1000) :
    Calls Tryz.prog 25 #[va, .int .i64 id, .int .i64 s] W fun e w' => ∃ v, e = .returned v ∧ OwnR w' W.heap.size 51 14 csTk v (setsT T [id] s) ∧ Below W.heap.size W w' := by
  obtain ⟨a, c, rfl⟩ := RowsAt.form ha
  have HA := Lib.hid ha
  obtain ⟨i0, hi, hz0, hz1, hz2⟩ := info_parts info_task
  have l2 : (T.length : Int) ≤ 1000 := by omega
  clear ha
  go_enter Tryz.func25, Tryz.ntmps25
  go_wp2_with (at_builtin; refine wpList_append_rows csTk_len (by decide) csTk_one rfl _ _ 28 rfl W.heap.size 51 i0 _ 144 Tryz.underlying28 hi hz0 hz1 hz2 rfl (.slice (some ⟨W.heap.size, 0, none⟩) 0 0) [] rfl (OwnR.empty W 14 csTk 51 W.heap.size rfl) _ T rfl (RowsAt.kept HA.out ((Below.refl W.heap.size W).alloc (Nat.le_refl _) (.cells #[] 51))) (by unfold maxLen; simp; omega) (by simp; omega) (by simp) ?_; intro v5 w5 o5' g5'; have HO5 := Lib.hid (show OwnR w5 W.heap.size 51 14 csTk v5 T from o5'); have HB5 := Lib.hid (OwnR.below (OwnR.empty W 14 csTk 51 W.heap.size rfl) ((Below.refl W.heap.size W).alloc (Nat.le_refl _) (.cells #[] 51)) (by simp) g5'); clear o5' g5')
  obtain ⟨a5, c5, e⟩ := RowsAt.form (OwnR.rows csTk_len HO5.out)
  subst e
  clear hi hz0 hz1 hz2
  go_loopg [8] T.length (fun kx iv ws => ∃ k : Nat, k ≤ T.length ∧ T.length - k ≤ kx ∧ iv = .int .i64 k ∧ Hid (OwnR ws W.heap.size 51 14 csTk (.slice a5 T.length c5) (setP T id s k)) ∧ Hid (Below W.heap.size W ws))
  case atStart => exact ⟨0, Nat.zero_le _, Nat.le_refl _, rfl, HO5.out, HB5.out⟩
  case round =>
    clear HO5 HB5
    obtain ⟨k, hk, hkx, rfl, HO, HB⟩ := hrel
    by_cases hlt : k < T.length
    · obtain ⟨g, cc, e, hgB, -, q0, q9, f9⟩ := Own24.place HO.out k (by rw [setP_len]; exact hlt)
      simp only [Value.slice.injEq] at e
      obtain ⟨rfl, -, rfl⟩ := e
      rw [setP_at T id s k hlt] at q0 q9
      have HLT := Lib.hid (And.intro hlt hkx)
      have k0 : (0 : Int) ≤ (k : Int) := by omega
      have k1 : (k : Int) < (T.length : Int) := by omega
      have hnx := setP_next T id s k hlt
      have hput := Own24.put HO.out k (by rw [setP_len]; exact hlt) s
      rw [setP_at T id s k hlt] at hput
      have HPUT := Lib.hid hput
      have HBS := Lib.hid (HB.out.setCell (p := ⟨g, k * 14 + 9, none⟩) hgB (.int .i64 s))
      generalize T[k].st = st at *
      generalize T[k] = t at *
      by_cases he : t.sp.id = id
      · rw [if_pos he] at hnx
        rw [he] at q0
        have HNX := Lib.hid hnx
        clear hnx hput he hlt hkx hk
        go_wp2
        go_roundg (T.length - (k + 1))
        case measure => have := HLT.out; omega
        case rel => exact ⟨k + 1, by have := HLT.out; omega, Nat.le_refl _, by go_num, by rw [HNX.out]; exact HPUT.out, HBS.out⟩
      · rw [if_neg he] at hnx
        have e0 : (t.sp.id == id) = false := beq_noI he
        have HNX := Lib.hid hnx
        generalize t.sp.id = ti at *
        clear hnx hput he hlt hkx hk
        go_wp2
        go_roundg (T.length - (k + 1))
        case measure => have := HLT.out; omega
        case rel => exact ⟨k + 1, by have := HLT.out; omega, Nat.le_refl _, by go_num, by rw [HNX.out]; exact HO.out, HB.out⟩
    · have hke : k = T.length := by omega
      subst hke
      have ho := HO.out
      unfold setP at ho
      rw [List.take_length, List.drop_length, List.append_nil] at ho
      have HE := Lib.hid ho
      clear ho HO hlt hk hkx
      go_wp2
      go_ret
      exact ⟨_, rfl, HE.out, HB.out⟩

/-! ### Freed -/
def freedP (T : List Tk) (k : Nat) : List Int := idsK ((T.take k).filter fun t => decide (t.st = 1) && decide (waitsT T t.sp.id = 0))
theorem freedP_next (T : List Tk) (k : Nat) (hk : k < T.length) : freedP T (k + 1) = if (decide (T[k].st = 1) && decide (waitsT T T[k].sp.id = 0)) = true then freedP T k ++ [T[k].sp.id] else freedP T k := by
  unfold freedP
  rw [List.take_succ_eq_append_getElem hk, List.filter_append]
  by_cases h : (decide (T[k].st = 1) && decide (waitsT T T[k].sp.id = 0)) = true
  · rw [if_pos h, List.filter_cons_of_pos (p := fun t : Tk => decide (t.st = 1) && decide (waitsT T t.sp.id = 0)) h]
    unfold idsK
    rw [List.map_append]
    rfl
  · rw [if_neg h, List.filter_cons_of_neg (p := fun t : Tk => decide (t.st = 1) && decide (waitsT T t.sp.id = 0)) h]
    simp
set_option maxHeartbeats 16000000 in
set_option maxRecDepth 100000 in
theorem refFreed24_any (va : Value) (T : List Tk) (W : World) (ha : RowsAt W 14 csTk va T) (hI : ∀ t ∈ T, IntsAt W t.sp.v t.sp.aft) (hl : T.length ≤ 1000) (h8 : ∀ t ∈ T, t.sp.aft.length ≤ 8) :
    Calls Tryz.prog 26 #[va] W fun e w' => ∃ v, e = .returned v ∧ OwnI w' W.heap.size v (freedT T) ∧ Below W.heap.size W w' := by
  obtain ⟨a, c, rfl⟩ := RowsAt.form ha
  have HA := Lib.hid ha
  have GW := Lib.hid fun n w' (hb : Below W.heap.size W w') => refWaits24_any (.slice a T.length c) T n w' (RowsAt.kept ha hb) (fun t ht => (hI t ht).below hb) hl h8
  have l2 : (T.length : Int) ≤ 1000 := by omega
  have hend : freedP T T.length = freedT T := by unfold freedP freedT; rw [List.take_length]
  have HEND := Lib.hid hend
  clear ha hI h8 hend
  go_enter Tryz.func26, Tryz.ntmps26
  go_wp2
  go_loopg [3, 4] T.length (fun kx ov iv ws => ∃ k : Nat, k ≤ T.length ∧ T.length - k ≤ kx ∧ iv = .int .i64 k ∧ Hid (OwnI ws W.heap.size ov (freedP T k)) ∧ Hid (Below W.heap.size W ws))
  case atStart => exact ⟨0, Nat.zero_le _, Nat.le_refl _, rfl, OwnR.nil _ _ _ _ _, Below.refl _ _⟩
  case round =>
    obtain ⟨k, hk, hkx, rfl, HO, HB⟩ := hrel
    obtain ⟨ao, co, e⟩ := (OwnI.ints HO.out).form
    subst e
    by_cases hlt : k < T.length
    · obtain ⟨g, o, cc, e, -, -, hx⟩ := RowsAt.spot (RowsAt.kept HA.out HB.out) k hlt
      simp only [Value.slice.injEq] at e
      obtain ⟨rfl, -, rfl⟩ := e
      have p0 : wr.cell? ⟨g, o + k * 14, none⟩ = some (.int .i64 (T[k]'hlt).sp.id) := hx 0 _ rfl
      have p9 : wr.cell? ⟨g, o + k * 14 + 9, none⟩ = some (.int .i64 (T[k]'hlt).st) := hx 9 _ rfl
      have HLT := Lib.hid (And.intro hlt hkx)
      have k0 : (0 : Int) ≤ (k : Int) := by omega
      have k1 : (k : Int) < (T.length : Int) := by omega
      have hfn := freedP_next T k hlt
      have hfl : (freedP T k).length ≤ 1000 := by
        unfold freedP idsK
        rw [List.length_map]
        have h1 := List.length_filter_le (fun t : Tk => decide (t.st = 1) && decide (waitsT T t.sp.id = 0)) (T.take k)
        rw [List.length_take] at h1
        omega
      have GW1 := Lib.hid (GW.out (T[k]'hlt).sp.id wr HB.out)
      generalize (T[k]'hlt).st = s at *
      generalize (T[k]'hlt).sp.id = n at *
      generalize waitsT T n = wv at *
      generalize freedP T k = O at *
      have HFL := Lib.hid hfl
      clear hx hfl hlt hkx hk
      by_cases h1 : s = 1
      · subst h1
        by_cases h2 : wv = 0
        · subst h2
          have HFN := Lib.hid (show freedP T (k + 1) = O ++ [n] by rw [hfn]; rfl)
          clear hfn
          go_wp2_with (first
            | (go_at_call 16; (with_reducible refine GW1.out.mono ?_); rintro e w1 ⟨rfl, rfl⟩)
            | (at_builtin; refine app1 (n := n) HO.out HB.out.size (by have := HFL.out; omega) rfl _ _ rfl rfl rfl ?_; intro v7 w7 o7 b7; have HO7 := Lib.hid o7; have HB7 := Lib.hid (HB.out.trans b7); clear o7 b7))
          go_roundg (T.length - (k + 1))
          case measure => have := HLT.out; omega
          case rel => exact ⟨k + 1, by have := HLT.out; omega, Nat.le_refl _, by go_num, by rw [HFN.out]; exact HO7.out, HB7.out⟩
        · have e2 : (wv == 0) = false := beq_noI h2
          have HFN := Lib.hid (show freedP T (k + 1) = O by rw [hfn]; simp [h2])
          clear hfn h2
          go_wp2_with (go_at_call 16; (with_reducible refine GW1.out.mono ?_); rintro e w1 ⟨rfl, rfl⟩)
          go_roundg (T.length - (k + 1))
          case measure => have := HLT.out; omega
          case rel => exact ⟨k + 1, by have := HLT.out; omega, Nat.le_refl _, by go_num, by rw [HFN.out]; exact HO.out, HB.out⟩
      · have e1 : (s == 1) = false := beq_noI h1
        have HFN := Lib.hid (show freedP T (k + 1) = O by rw [hfn]; simp [h1])
        clear hfn h1
        go_wp2
        go_roundg (T.length - (k + 1))
        case measure => have := HLT.out; omega
        case rel => exact ⟨k + 1, by have := HLT.out; omega, Nat.le_refl _, by go_num, by rw [HFN.out]; exact HO.out, HB.out⟩
    · have hke : k = T.length := by omega
      subst hke
      generalize (freedP T T.length).length = m7 at *
      have ho := HO.out
      rw [HEND.out] at ho
      have HE := Lib.hid ho
      clear ho HO hlt hk hkx
      go_wp2
      go_ret
      exact ⟨_, rfl, HE.out, HB.out⟩
end Go.Proofs.YthchkhgimnchcaaGreat
/- Stage 23: the document's Few: are there few tasks, few specs. -/
namespace Go.Proofs.YthchkhgimnchcaaGreat
open Go.RowKit

def fewS (L : List Sp) (most : Int) : Bool := decide ((L.length : Int) ≤ most) && L.all fun x => decide (x.aft.length ≤ 20)
def fewT (K : List Tk) (most : Int) : Bool := decide ((K.length : Int) ≤ most) && K.all fun t => decide (t.sp.aft.length ≤ 20) && decide (t.burnt.length ≤ 40)
theorem fewS_iff {L : List Sp} {most : Int} : fewS L most = true ↔ (L.length : Int) ≤ most ∧ ∀ x ∈ L, x.aft.length ≤ 20 := by
  unfold fewS
  rw [Bool.and_eq_true, decide_eq_true_iff, List.all_eq_true]
  simp only [decide_eq_true_iff]
theorem fewT_iff {K : List Tk} {most : Int} : fewT K most = true ↔ (K.length : Int) ≤ most ∧ ∀ t ∈ K, t.sp.aft.length ≤ 20 ∧ t.burnt.length ≤ 40 := by
  unfold fewT
  rw [Bool.and_eq_true, decide_eq_true_iff, List.all_eq_true]
  simp only [Bool.and_eq_true, decide_eq_true_iff]

set_option maxHeartbeats 2000000 in
set_option maxRecDepth 100000 in
theorem refFew22_any (va : Value) (l : List Sp) (most : Int) (W : World) (ha : RowsAt W 9 csSp va l) (hm : most ≤ 1000) :
    Calls Tryz.prog 19 #[va, .int .i64 most] W fun e w' => e = .returned (.bool (fewS l most)) ∧ Below W.heap.size W w' := by
  obtain ⟨r, hr⟩ : ∃ r, fewS l most = r := ⟨_, rfl⟩
  rw [hr]
  have HR := Lib.hid hr
  have HA := Lib.hid ha
  obtain ⟨a, c, rfl⟩ := RowsAt.form ha
  clear hr ha
  by_cases h1 : (l.length : Int) ≤ most
  · have k1 : ¬ most < (l.length : Int) := by omega
    have HL := Lib.hid (show l.length ≤ 1000 by omega)
    have HH1 := Lib.hid h1
    clear h1
    go_enter Tryz.func19, Tryz.ntmps19
    go_wp2
    go_loopg [5] l.length (fun kx iv wr => ∃ k : Nat, k ≤ l.length ∧ l.length - k ≤ kx ∧ iv = .int .i64 k ∧ Hid (∀ x ∈ l.take k, x.aft.length ≤ 20) ∧ wr = W)
    case atStart => exact ⟨0, Nat.zero_le _, Nat.le_refl _, rfl, fun x hx => (by simp at hx), rfl⟩
    case round =>
      obtain ⟨k, hk, hkx, rfl, hall, rfl⟩ := hrel
      by_cases hlt : k < l.length
      · obtain ⟨g, o, cc, e, _, _, hx⟩ := RowsAt.spot HA.out k hlt
        cases e
        have p8 := hx 8 _ rfl
        have j1 : (k : Int) < (l.length : Int) := by omega
        have j0 : (0 : Int) ≤ (k : Int) := by omega
        have j2 : (k : Int) ≤ 1000 := by have := HL.out; omega
        clear hx
        obtain ⟨x, hx⟩ : ∃ x, l[k] = x := ⟨_, rfl⟩
        rw [hx] at p8
        have hxm : x ∈ l := by rw [← hx]; exact List.getElem_mem hlt
        by_cases h20 : x.aft.length ≤ 20
        · have HALL := Lib.hid (show ∀ y ∈ l.take (k + 1), y.aft.length ≤ 20 from fun y hy => by
            rw [List.take_succ_eq_append_getElem hlt] at hy
            rcases List.mem_append.1 hy with hy | hy
            · exact hall.out y hy
            · rw [List.mem_singleton.1 hy, hx]; exact h20)
          have k20 : ¬ (20 : Int) < (x.aft.length : Int) := by omega
          have HK := Lib.hid (And.intro hk (And.intro hkx hlt))
          clear hall hx hxm h20 hk hkx
          go_wp2
          go_roundg (l.length - (k + 1))
          case measure => have := HK.out; omega
          case rel => exact ⟨k + 1, by have := HK.out; omega, Nat.le_refl _, by go_num, HALL.out, rfl⟩
        · have HF := Lib.hid (show false = r by
            rw [← HR.out]
            unfold fewS
            rw [List.all_eq_false.2 ⟨x, hxm, by simpa using h20⟩, Bool.and_false])
          have k20 : (20 : Int) < (x.aft.length : Int) := by omega
          clear hall hx hxm h20
          go_wp2
          go_ret
          exact ⟨ret_b HF.out, Below.refl _ _⟩
      · have hke : k = l.length := by omega
        subst hke
        have hall2 := hall.out
        rw [List.take_length] at hall2
        have HT := Lib.hid (show true = r from (fewS_iff.2 ⟨HH1.out, hall2⟩).symm.trans HR.out)
        clear hall hall2 hlt
        go_wp2
        go_ret
        exact ⟨ret_b HT.out, Below.refl _ _⟩
  · have k1 : most < (l.length : Int) := by omega
    have HF := Lib.hid (show false = r by rw [← HR.out]; unfold fewS; rw [decide_eq_false h1, Bool.false_and])
    clear h1
    go_enter Tryz.func19, Tryz.ntmps19
    go_wp2
    go_ret
    exact ⟨ret_b HF.out, Below.refl _ _⟩

end Go.Proofs.YthchkhgimnchcaaGreat
/- Stage 24: acts; the document's Few; the law's do. -/
namespace Go.Proofs.YthchkhgimnchcaaGreat
open Go.RowKit

structure Da where
  kind : Int
  id : Int
  a : Option Addr
  c : Nat
  batch : List Sp
deriving Inhabited
abbrev Da.v (x : Da) : Value := .slice x.a x.batch.length x.c
def csDa (x : Da) : List Value := [.int .i64 x.kind, .int .i64 x.id, x.v]
theorem csDa_len (x : Da) : (csDa x).length = 3 := rfl
structure DasAt (w : World) (v : Value) (l : List Da) : Prop where
  rows : RowsAt w 3 csDa v l
  each : ∀ x ∈ l, SpsAt w x.v x.batch
theorem DasAt.kept {w w' : World} {v : Value} {l : List Da} (h : DasAt w v l) (hb : Below w.heap.size w w') : DasAt w' v l := ⟨RowsAt.kept h.rows hb, fun x hx => (h.each x hx).kept hb⟩
theorem DasAt.spot {w : World} {v : Value} {l : List Da} (h : DasAt w v l) (k : Nat) (hk : k < l.length) :
    ∃ g o cc kind id a c b, l[k] = ⟨kind, id, a, c, b⟩ ∧ v = .slice (some ⟨g, o, none⟩) l.length cc ∧ l.length ≤ cc ∧ w.cell? ⟨g, o + k * 3, none⟩ = some (.int .i64 kind) ∧ w.cell? ⟨g, o + k * 3 + 1, none⟩ = some (.int .i64 id) ∧ w.cell? ⟨g, o + k * 3 + 2, none⟩ = some (.slice a b.length c) ∧ SpsAt w (.slice a b.length c) b := by
  obtain ⟨g, o, cc, e, hc, _, hx⟩ := RowsAt.spot h.rows k hk
  have hi := h.each _ (List.getElem_mem hk)
  generalize l[k] = x at *
  obtain ⟨kind, id, a, c, b⟩ := x
  exact ⟨g, o, cc, kind, id, a, c, b, rfl, e, hc, hx 0 _ rfl, hx 1 _ rfl, hx 2 _ rfl, hi⟩
def fewDa (l : List Da) (most : Int) : Bool := decide ((l.length : Int) ≤ most) && l.all fun x => fewS x.batch 12

set_option maxHeartbeats 4000000 in
set_option maxRecDepth 100000 in
theorem refFew24_any (va : Value) (l : List Da) (most : Int) (W : World) (ha : DasAt W va l) (hm : most ≤ 1000) :
    Calls Tryz.prog 4 #[va, .int .i64 most] W fun e w' => e = .returned (.bool (fewDa l most)) ∧ Below W.heap.size W w' := by
  obtain ⟨r, hr⟩ : ∃ r, fewDa l most = r := ⟨_, rfl⟩
  rw [hr]
  have HR := Lib.hid hr
  have HA := Lib.hid ha
  obtain ⟨a, c, rfl⟩ := RowsAt.form ha.rows
  clear hr ha
  by_cases h1 : (l.length : Int) ≤ most
  · have k1 : ¬ most < (l.length : Int) := by omega
    have HL := Lib.hid (show l.length ≤ 1000 by omega)
    have HH1 := Lib.hid h1
    clear h1
    go_enter Tryz.func4, Tryz.ntmps4
    go_wp2
    go_loopg [5] l.length (fun kx iv wr => ∃ k : Nat, k ≤ l.length ∧ l.length - k ≤ kx ∧ iv = .int .i64 k ∧ Hid ((l.take k).all (fun x => fewS x.batch 12) = true) ∧ Hid (Below W.heap.size W wr))
    case atStart => exact ⟨0, Nat.zero_le _, Nat.le_refl _, rfl, rfl, Below.refl _ _⟩
    case round =>
      obtain ⟨k, hk, hkx, rfl, HALL, HB⟩ := hrel
      by_cases hlt : k < l.length
      · obtain ⟨g, o, cc, kind, id, a2, c2, b, he, e, hc, p0, p1, p2, hs⟩ := (HA.out.kept HB.out).spot k hlt
        cases e
        have j1 : (k : Int) < (l.length : Int) := by omega
        have j0 : (0 : Int) ≤ (k : Int) := by omega
        have j2 : (k : Int) ≤ 1000 := by have := HL.out; omega
        have GF := Lib.hid (refFew22_any (.slice a2 b.length c2) b 12 wr hs.1 (by omega))
        have htk : (l.take (k + 1)).all (fun x => fewS x.batch 12) = ((l.take k).all (fun x => fewS x.batch 12) && fewS b 12) := by
          rw [List.take_succ_eq_append_getElem hlt, List.all_append, he]
          simp
        have hall : fewS b 12 = false → l.all (fun x => fewS x.batch 12) = false := fun hf => by
          rw [List.all_eq_false]
          exact ⟨l[k], List.getElem_mem hlt, by rw [he]; simp [hf]⟩
        generalize fewS b 12 = t at *
        have HTK := Lib.hid htk
        have HNO := Lib.hid hall
        have HLT := Lib.hid (And.intro hlt hkx)
        clear htk hall he hs hc hlt hkx hk
        cases t with
        | true =>
          go_wp2_with (go_at_call 19; (with_reducible refine GF.out.mono ?_); rintro e w1 ⟨rfl, hb⟩; have HB1 := Lib.hid (HB.out.trans (hb.mono HB.out.size)); clear hb)
          go_roundg (l.length - (k + 1))
          case measure => have := HLT.out; omega
          case rel => exact ⟨k + 1, by have := HLT.out; omega, Nat.le_refl _, by go_num, by rw [HTK.out, HALL.out]; rfl, HB1.out⟩
        | false =>
          have HF := Lib.hid (show false = r by rw [← HR.out]; unfold fewDa; rw [HNO.out rfl]; simp)
          go_wp2_with (go_at_call 19; (with_reducible refine GF.out.mono ?_); rintro e w1 ⟨rfl, hb⟩; have HB1 := Lib.hid (HB.out.trans (hb.mono HB.out.size)); clear hb)
          go_ret
          exact ⟨ret_b HF.out, HB1.out⟩
      · have hke : k = l.length := by omega
        subst hke
        have hal := HALL.out
        rw [List.take_length] at hal
        have HF := Lib.hid (show true = r by rw [← HR.out]; unfold fewDa; rw [hal]; simp [HH1.out])
        clear hal HALL hlt hk hkx
        go_wp2
        go_ret
        exact ⟨ret_b HF.out, HB.out⟩
  · have k1 : most < (l.length : Int) := by omega
    have HF := Lib.hid (show false = r by rw [← HR.out]; unfold fewDa; simp [h1])
    clear h1
    go_enter Tryz.func4, Tryz.ntmps4
    go_wp2
    go_ret
    exact ⟨ret_b HF.out, Below.refl _ _⟩

/-- what an act makes -/
def actDg (room : Int) (T : List Tk) (x : Da) : List Tk × List Int × Int := if x.kind = 1 then endDg T x.id 1 else if x.kind = 2 then endDg T x.id 2 else if x.kind = 3 then endDg T x.id 3 else admDg room T x.batch
section
variable {F : Nat → Prop} {p mb : Nat} {room : Int} {T : List Tk} {nx : Int → List Int} {g : Int → Option Nat} {Fm : Int → Nat → Prop}
theorem EndsDg.adms {w : World} (hlt : ∀ k, F k → k < w.heap.size) {r : List Tk × List Int × Int} {e : Ending} {w' : World} (h : EndsDg F w p mb room nx g Fm r e w') : AdmsDg F w p mb room r e w' := by
  obtain ⟨v, h1, h2, h3, h4, h5⟩ := h
  exact ⟨v, F, nx, g, Fm, h1, h2, fun k hk => ⟨h3 k hk, fun e => by have := h3 k hk; have := hlt k e; omega⟩, h4, ⟨h5, fun k hk => .inl hk⟩⟩
theorem AdmsDg.after {w w0 : World} {r : List Tk × List Int × Int} {e : Ending} {w' : World} (hb : Below w0.heap.size w0 w) (h : AdmsDg F w p mb room r e w') : AdmsDg F w0 p mb room r e w' := by
  obtain ⟨v, F', nx', g', Fm', h1, h2, h3, h4, h5⟩ := h
  exact ⟨v, F', nx', g', Fm', h1, h2, fun k hk => ⟨Nat.le_trans hb.size (h3 k hk).1, (h3 k hk).2⟩, h4, (Mv.of_below hb).trans h5⟩
set_option maxHeartbeats 4000000 in
set_option maxRecDepth 100000 in
theorem dDo_any (w : World) (h : DagP F w p mb room T nx g Fm) (x : Da) (hi : I64 x.id) (hs : ∀ w', Only F w w' → SpsAt w' x.v x.batch) (hL : x.batch.length ≤ 30) (h64 : Sp64 x.batch) (haf : ∀ y ∈ x.batch, y.aft.length ≤ 9223372036854775807) :
    Calls Tryz.prog 8 #[ndv p, .agg #[.int .i64 x.kind, .int .i64 x.id, .slice x.a x.batch.length x.c]] w (AdmsDg F w p mb room (actDg room T x)) := by
  obtain ⟨kind, id, a, c, b⟩ := x
  dsimp only [Da.v] at *
  have hal := (Below.refl w.heap.size w).alloc (Nat.le_refl _) (.cells #[.int .i64 kind, .int .i64 id, .slice a b.length c] 31)
  have hX := Blk.new w [.int .i64 kind, .int .i64 id, .slice a b.length c] 31
  have hlt := h.lt
  have h1 := h.kept hal
  have G1 := Lib.hid (dDone_any _ h1 id hi)
  have G2 := Lib.hid (dFail_any _ h1 id hi)
  have G3 := Lib.hid (dCancel_any _ h1 id hi)
  have G4 := Lib.hid (dAdmit_any _ h1 (.slice a b.length c) b (fun w' ho => hs w' (((Only.of_below hal).mono fun _ h => h).trans ho)) hL h64 haf)
  have HC := Lib.hid fun r e w' (hh : EndsDg F (w.alloc (.cells #[.int .i64 kind, .int .i64 id, .slice a b.length c] 31)) p mb room nx g Fm r e w') => AdmsDg.after hal (EndsDg.adms (fun k hk => Nat.lt_of_lt_of_le (hlt k hk) hal.size) hh)
  have HC4 := Lib.hid fun r e w' (hh : AdmsDg F (w.alloc (.cells #[.int .i64 kind, .int .i64 id, .slice a b.length c] 31)) p mb room r e w') => AdmsDg.after hal hh
  have x0 := hX.cell 0 rfl
  have x1 := hX.cell 1 rfl
  have x2 := hX.cell 2 rfl
  clear hX h1 h hs hL h64 haf hal hlt hi
  by_cases k1 : kind = 1
  · have e : actDg room T ⟨kind, id, a, c, b⟩ = endDg T id 1 := by unfold actDg; rw [if_pos k1]
    rw [e]
    subst k1
    clear e
    generalize endDg T id 1 = r at *
    obtain ⟨T', l', q⟩ := r
    go_enter Tryz.func8, Tryz.ntmps8
    go_wp2_with (go_at_call 21; (with_reducible refine G1.out.mono ?_); rintro e w1 hh; have HH := Lib.hid (HC.out _ _ _ hh); clear hh; obtain ⟨v, F', nx', g', Fm', rfl, hq⟩ := HH.out)
    exact bodyPost_ret (v := .tuple #[v, .int .i64 q]) (by simp [results, Tryz.results8, go_sem]) rfl HH.out
  have e1 : (kind == 1) = false := beq_noI k1
  by_cases k2 : kind = 2
  · have e : actDg room T ⟨kind, id, a, c, b⟩ = endDg T id 2 := by unfold actDg; rw [if_neg k1, if_pos k2]
    rw [e]
    subst k2
    clear e e1 k1
    generalize endDg T id 2 = r at *
    obtain ⟨T', l', q⟩ := r
    go_enter Tryz.func8, Tryz.ntmps8
    go_wp2_with (go_at_call 23; (with_reducible refine G2.out.mono ?_); rintro e w1 hh; have HH := Lib.hid (HC.out _ _ _ hh); clear hh; obtain ⟨v, F', nx', g', Fm', rfl, hq⟩ := HH.out)
    exact bodyPost_ret (v := .tuple #[v, .int .i64 q]) (by simp [results, Tryz.results8, go_sem]) rfl HH.out
  have e2 : (kind == 2) = false := beq_noI k2
  by_cases k3 : kind = 3
  · have e : actDg room T ⟨kind, id, a, c, b⟩ = endDg T id 3 := by unfold actDg; rw [if_neg k1, if_neg k2, if_pos k3]
    rw [e]
    subst k3
    clear e e1 e2 k1 k2
    generalize endDg T id 3 = r at *
    obtain ⟨T', l', q⟩ := r
    go_enter Tryz.func8, Tryz.ntmps8
    go_wp2_with (go_at_call 22; (with_reducible refine G3.out.mono ?_); rintro e w1 hh; have HH := Lib.hid (HC.out _ _ _ hh); clear hh; obtain ⟨v, F', nx', g', Fm', rfl, hq⟩ := HH.out)
    exact bodyPost_ret (v := .tuple #[v, .int .i64 q]) (by simp [results, Tryz.results8, go_sem]) rfl HH.out
  have e3 : (kind == 3) = false := beq_noI k3
  have e : actDg room T ⟨kind, id, a, c, b⟩ = admDg room T b := by unfold actDg; rw [if_neg k1, if_neg k2, if_neg k3]
  rw [e]
  clear e k1 k2 k3
  generalize admDg room T b = r at *
  obtain ⟨T', l', q⟩ := r
  go_enter Tryz.func8, Tryz.ntmps8
  go_wp2_with (go_at_call 20; (with_reducible refine G4.out.mono ?_); rintro e w1 hh; have HH := Lib.hid (HC4.out _ _ _ hh); clear hh; obtain ⟨v, F', nx', g', Fm', rfl, hq⟩ := HH.out)
  exact bodyPost_ret (v := .tuple #[v, .int .i64 q]) (by simp [results, Tryz.results8, go_sem]) rfl HH.out
end
end Go.Proofs.YthchkhgimnchcaaGreat
