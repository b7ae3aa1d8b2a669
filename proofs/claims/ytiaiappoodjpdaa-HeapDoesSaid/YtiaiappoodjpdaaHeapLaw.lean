/- The law HeapDoes. -/
import Derived.Test.YtiaiappoodjpdaaHeapBase
namespace Go.Proofs.Ytiaiappoodjpdaa
open Go.RowKit

/-- an act: its kind, its thing -/
structure A13 where
  k : Int
  x : Th
deriving Inhabited
def csA13 (a : A13) : List Value := [.int .i64 a.k, .int .i64 a.x.id, .int .i64 a.x.key, .int .i64 a.x.seq]
theorem csA13_len (a : A13) : (csA13 a).length = 4 := rfl
abbrev Acts13 (w : World) (v : Value) (l : List A13) : Prop := RowsAt w 4 csA13 v l
theorem Acts13.at {w : World} {v : Value} {l : List A13} (h : Acts13 w v l) (k : Nat) (hk : k < l.length) :
    ∃ g o c, v = .slice (some ⟨g, o, none⟩) l.length c ∧ w.cell? ⟨g, o + k * 4, none⟩ = some (.int .i64 l[k].k) ∧ w.cell? ⟨g, o + k * 4 + 1, none⟩ = some (.int .i64 l[k].x.id) ∧ w.cell? ⟨g, o + k * 4 + 2, none⟩ = some (.int .i64 l[k].x.key) ∧ w.cell? ⟨g, o + k * 4 + 3, none⟩ = some (.int .i64 l[k].x.seq) := by
  obtain ⟨g, o, c, e, hc, hg, hx⟩ := h.spot k hk
  exact ⟨g, o, c, e, hx 0 _ rfl, hx 1 _ rfl, hx 2 _ rfl, hx 3 _ rfl⟩

/-- the heap and the document's row, side by side -/
structure Side13 (W : World) (p : Nat) (wr : World) (S : List Th) (v : Value) : Prop where
  heap : ∃ F, HeapAt F wr p S ∧ OffV F v S.length ∧ ∀ k, F k → W.heap.size ≤ k
  row : ThAt wr v S
  below : Below W.heap.size W wr
theorem Side13.mv {W w w' : World} {p : Nat} {S' : List Th} {v' : Value} {F F' : Nat → Prop} (hF : ∀ k, F k → W.heap.size ≤ k) (hB : Below W.heap.size W w) (hm : Mv F F' w w') (h : HeapAt F' w' p S') (hr : ThAt w' v' S') (ho : OffV F' v' S'.length) : Side13 W p w' S' v' :=
  ⟨⟨F', h, ho, hm.from_ hF hB.size⟩, hr, hB.trans (hm.only.below hF hB.size)⟩
theorem Side13.kept {W w w' : World} {p : Nat} {S : List Th} {v : Value} (h : Side13 W p w S v) (hb : Below w.heap.size w w') : Side13 W p w' S v := by
  obtain ⟨⟨F, h1, h2, h3⟩, h4, h5⟩ := h
  exact ⟨⟨F, h1.kept hb, h2, h3⟩, RowsAt.kept h4 hb, h5.trans (hb.mono h5.size)⟩
/-- a new row of the document's -/
theorem Side13.new {W w w' : World} {p : Nat} {S' : List Th} {v' : Value} {n : Nat} (F' : Nat → Prop) (h : HeapAt F' w p S') (hF : ∀ k, F' k → W.heap.size ≤ k) (hB : Below W.heap.size W w) (ho : OwnT w' n v' S') (hn : n = w.heap.size) (hb : Below w.heap.size w w') : Side13 W p w' S' v' := by
  subst hn
  exact ⟨⟨F', h.kept hb, OwnR.off ho h.lt, hF⟩, OwnR.rows csT_len ho, hB.trans (hb.mono hB.size)⟩

set_option maxHeartbeats 8000000 in
set_option maxRecDepth 100000 in
theorem heapDoes_any (va : Value) (l : List A13) (w : World) (ha : Acts13 w va l) (hg : ∀ a ∈ l, I64 a.x.id) :
    Calls Try.prog 3 #[va] w fun e w' => e = .returned (.bool true) ∧ Below w.heap.size w w' := by
  have HAL := Lib.hid fun w => hAlive_any w
  have HA := Lib.hid ha
  have HGI := Lib.hid hg
  obtain ⟨a, c, rfl⟩ := RowsAt.form ha
  clear ha hg
  by_cases h60 : 60 < l.length
  · have h1 : (60 : Int) < (l.length : Int) := by omega
    go_enter Try.func3, Try.ntmps3
    go_wp2_with (go_at_call 5; (with_reducible refine (HAL.out _).mono ?_); rintro e w1 ⟨rfl, hb⟩)
    go_ret
    exact ⟨rfl, hb⟩
  · have h1 : ¬ (60 : Int) < (l.length : Int) := by omega
    go_enter Try.func3, Try.ntmps3
    go_wp2_with (go_at_call 6; (with_reducible refine (hNew_any _).mono ?_); rintro e w1 ⟨p, F0, rfl, hp, ht, hb⟩; have HS0 := Lib.hid (show Side13 w p w1 [] (.slice none 0 0) from ⟨⟨_, ht, OffV.nil, hp⟩, RowsAt.nil _ _ _, hb⟩); clear hp ht hb)
    go_loopw [4, 27] (fun ov iv wr => ∃ (k : Nat) (S : List Th), k ≤ l.length ∧ iv = .int .i64 k ∧ Side13 w p wr S ov ∧ S.length ≤ k) (fun _ iv _ => l.length - (intOf iv).toNat)
    case atStart => exact ⟨0, [], Nat.zero_le _, rfl, HS0.out, Nat.le_refl _⟩
    case round =>
      obtain ⟨k, S, hk, rfl, hS, hn⟩ := hrel
      by_cases hlt : k < l.length
      · obtain ⟨g, o, cc, e, p0, p1, p2, p3⟩ := Acts13.at (RowsAt.kept HA.out hS.below) k hlt
        cases e
        have hi64 := HGI.out l[k] (List.getElem_mem hlt)
        generalize l[k].k = kk at *
        obtain ⟨⟨i1, i2, i3⟩, hx⟩ : ∃ x, l[k].x = x := ⟨_, rfl⟩
        rw [hx] at p1 p2 p3 hi64
        simp only at p1 p2 p3 hi64
        have HI := Lib.hid hi64
        clear hx hi64
        have k0 : (0 : Int) ≤ (k : Int) := by omega
        have k1 : (k : Int) < (l.length : Int) := by omega
        have hal := (Below.refl wr.heap.size wr).alloc (Nat.le_refl _) (.cells #[.int .i64 kk, .int .i64 i1, .int .i64 i2, .int .i64 i3] 30)
        have hbx := Blk.new wr [.int .i64 kk, .int .i64 i1, .int .i64 i2, .int .i64 i3] 30
        obtain ⟨⟨F, hh, ho, hF⟩, hr, hB⟩ := hS
        have hFl := hh.lt
        have hFx : ¬ F wr.heap.size := fun h => by have := hFl _ h; omega
        have hBa := hB.alloc hB.size (.cells #[.int .i64 kk, .int .i64 i1, .int .i64 i2, .int .i64 i3] 30)
        have hha := hh.al (.cells #[.int .i64 kk, .int .i64 i1, .int .i64 i2, .int .i64 i3] 30)
        have hra := RowsAt.kept hr hal
        obtain ⟨a0, c0, e0⟩ := RowsAt.form hr
        subst e0
        by_cases e1 : kk = 1
        · subst e1
          have HP2 := Lib.hid (hPut_any ⟨i1, i2, i3⟩ _ hha (by omega) HI.out)
          have HH := Lib.hid (show _ from ⟨hbx, hFx, hBa, hra, hF, ho⟩ : _ ∧ _ ∧ _ ∧ _ ∧ _ ∧ _)
          clear hbx hFl hFx hBa hra hF ho hh hha hr hB hal
          go_upto_region 11 with (go_at_call 7; (with_reducible refine HP2.out.mono ?_); rintro e w2 ⟨rfl, F2, ht, hm⟩; have HT2 := Lib.hid ht; have HM2 := Lib.hid hm; clear ht hm)
          obtain ⟨hbx, hFx, hBa, hra, hF, ho⟩ := HH.out
          have b2 := hbx.same (HM2.out.only.block wr.heap.size (by simp) hFx)
          have r2 := RowsAt.only hra HM2.out.only ho
          have hB2 := hBa.trans (HM2.out.only.below hF hBa.size)
          have F2s := HM2.out.from_ hF hBa.size
          have d0 := b2.cell 1 rfl
          have d5 := b2.cell 2 rfl
          have d6 := b2.cell 3 rfl
          have HP3 := Lib.hid (refPut13_any _ S ⟨i1, i2, i3⟩ w2 r2 (by omega))
          have hpl := putT_len S ⟨i1, i2, i3⟩
          have HK := Lib.hid (show _ from ⟨b2, hB2, F2s⟩ : _ ∧ _ ∧ _)
          obtain ⟨S2, hS2⟩ : ∃ S2, putT S ⟨i1, i2, i3⟩ = S2 := ⟨_, rfl⟩
          rw [hS2] at HP3 HT2 hpl
          simp only at HP3 ⊢
          obtain ⟨tb, htb⟩ : ∃ tb, hasT S i1 = tb := ⟨_, rfl⟩
          rw [htb] at HP3 ⊢
          clear HP2 HH hbx hFx hBa hra hF ho b2 r2 hB2 F2s hS2 htb HM2
          go_upto_region 25 with (go_at_call 8; (with_reducible refine HP3.out.mono ?_); rintro e w4 ⟨v3, rfl, ho3, hb3⟩; obtain ⟨a4, c4, e4⟩ := RowsAt.form (OwnR.rows csT_len ho3); subst e4; have HS4 := Lib.hid (Side13.new F2 HT2.out HK.out.2.2 HK.out.2.1 ho3 rfl hb3); have HD1 := Lib.hid (fun w' (hb : Below w4.heap.size w4 w') => ((HK.out.1.kept hb3).kept hb).cell 1 rfl); clear ho3 hb3 d0 d5 d6)
          clear HP3 HT2 HK
          have hn4 : S2.length ≤ k + 1 := by omega
          have HN4 := Lib.hid hn4
          obtain ⟨⟨F4, hh4, ho4, hF4⟩, hr4, hB4⟩ := HS4.out
          have CF := Lib.hid fun (n : World) (hb : Below w4.heap.size w4 n) => hFirst_any n (hh4.kept hb) (by omega)
          have CH := Lib.hid fun (n : World) (hb : Below w4.heap.size w4 n) => hHas_any i1 n (hh4.kept hb) (by omega) HI.out
          have CFi := Lib.hid fun (n : World) (hb : Below w4.heap.size w4 n) => refFind13_any _ S2 i1 n (RowsAt.kept hr4 hb) (by omega)
          have CL := Lib.hid fun (n : World) (hb : Below w4.heap.size w4 n) => hLen_any n (hh4.kept hb) (by omega)
          have CA := Lib.hid fun (n : World) (hb : Below w4.heap.size w4 n) => hAll_any n (hh4.kept hb) (by omega)
          have CI := Lib.hid fun (n : World) (hb : Below w4.heap.size w4 n) => refIDs_any _ S2 n (RowsAt.kept hr4 hb) (by omega)
          have hil := idsT_len S2
          have CS := Lib.hid fun (n : World) va vb (ha : IntsAt n va (idsT S2)) (hb : IntsAt n vb (idsT S2)) => refInts_any va vb (idsT S2) (idsT S2) n ha hb (by omega) (by omega)
          rw [decide_eq_true rfl] at CS
          obtain ⟨⟨⟨f1, f2, f3⟩, fb⟩, hfn⟩ : ∃ r, fndT S2 i1 = r := ⟨_, rfl⟩
          rw [hfn] at CH CFi
          simp only at CH CFi
          generalize idsT S2 = X at *
          have HBX := Lib.hid (Below.refl w4.heap.size w4)
          have d1 := HD1.out _ HBX.out
          clear hfn hil hh4 ho4 hF4 hB4
          cases S2 with
          | nil =>
            have hfr : frsT [] = (0, false) := rfl
            rw [hfr] at CF
            clear hfr hr4
            simp only [List.length_nil] at CFi CI CL
            go_wp2_with (first
              | (go_at_call 12; (with_reducible refine (CF.out _ HBX.out).mono ?_); rintro e w5 ⟨rfl, hb⟩; replace HBX := Lib.hid (HBX.out.trans (hb.mono HBX.out.size)); have d2 := HD1.out _ HBX.out; clear hb d1)
              | (go_at_call 13; (with_reducible refine (CH.out _ HBX.out).mono ?_); rintro e w6 ⟨rfl, hb⟩; replace HBX := Lib.hid (HBX.out.trans (hb.mono HBX.out.size)); have d3 := HD1.out _ HBX.out; clear hb d2)
              | (go_at_call 14; (with_reducible refine (CFi.out _ HBX.out).mono ?_); rintro e w7 ⟨rfl, hb⟩; replace HBX := Lib.hid (HBX.out.trans (hb.mono HBX.out.size)); replace HBX := Lib.hid (HBX.out.alloc HBX.out.size (.cells #[.int .i64 f1, .int .i64 f2, .int .i64 f3] 28)); clear hb d3)
              | (go_at_call 15; (with_reducible refine (CL.out _ HBX.out).mono ?_); rintro e w8 ⟨rfl, hb⟩; replace HBX := Lib.hid (HBX.out.trans (hb.mono HBX.out.size)); clear hb)
              | (go_at_call 17; (with_reducible refine (CA.out _ HBX.out).mono ?_); rintro e w9 ⟨v9, rfl, ho, hb⟩; replace HBX := Lib.hid (HBX.out.trans (hb.mono HBX.out.size)); have HO9 := Lib.hid (OwnI.ints ho); clear hb ho)
              | (go_at_call 18; (with_reducible refine (CI.out _ HBX.out).mono ?_); rintro e w10 ⟨v10, rfl, ho, hb⟩; replace HBX := Lib.hid (HBX.out.trans (hb.mono HBX.out.size)); have HO10 := Lib.hid (OwnI.ints ho); have HO11 := Lib.hid (IntsAt.below HO9.out hb); clear hb ho)
              | (go_at_call 16; (with_reducible refine (CS.out _ _ _ HO11.out HO10.out).mono ?_); rintro e w11 ⟨rfl, hb⟩; replace HBX := Lib.hid (HBX.out.trans (hb.mono HBX.out.size)); clear hb))
            go_roundw
            case rel => exact ⟨k + 1, [], by omega, by go_num, HS4.out.kept HBX.out, by simp⟩
            case measure => simp [intOf] <;> omega
          | cons y t =>
            have hfr : frsT (y :: t) = (y.id, true) := rfl
            rw [hfr] at CF
            obtain ⟨g4, o4, cc4, e4, _, hg4, q0, _, _⟩ := ThAt.at hr4 0 (by simp)
            simp only [List.getElem_cons_zero, Nat.zero_mul, Nat.add_zero] at q0
            have hq : ∀ n, Below w4.heap.size w4 n → n.cell? ⟨g4, o4, none⟩ = some (.int .i64 y.id) := fun n hb => (hb.cell (p := ⟨g4, o4, none⟩) hg4).trans q0
            have HQ := Lib.hid hq
            cases e4
            have hlt4 : (y :: t).length ≤ k + 1 := HN4.out
            have h0 : 0 < (y :: t).length := by simp
            generalize hge : (y :: t).length = n4 at *
            have HGE := Lib.hid hge
            clear hge
            have u0 : (0 : Int) < (n4 : Int) := by omega
            clear hfr hq q0 hr4
            go_wp2_with (first
              | (go_at_call 12; (with_reducible refine (CF.out _ HBX.out).mono ?_); rintro e w5 ⟨rfl, hb⟩; replace HBX := Lib.hid (HBX.out.trans (hb.mono HBX.out.size)); have d2 := HD1.out _ HBX.out; clear hb d1)
              | (go_at_call 13; (with_reducible refine (CH.out _ HBX.out).mono ?_); rintro e w6 ⟨rfl, hb⟩; replace HBX := Lib.hid (HBX.out.trans (hb.mono HBX.out.size)); have d3 := HD1.out _ HBX.out; clear hb d2)
              | (go_at_call 14; (with_reducible refine (CFi.out _ HBX.out).mono ?_); rintro e w7 ⟨rfl, hb⟩; replace HBX := Lib.hid (HBX.out.trans (hb.mono HBX.out.size)); have q1 := HQ.out _ (HBX.out.alloc HBX.out.size (.cells #[.int .i64 f1, .int .i64 f2, .int .i64 f3] 28)); replace HBX := Lib.hid (HBX.out.alloc HBX.out.size (.cells #[.int .i64 f1, .int .i64 f2, .int .i64 f3] 28)); clear hb d3)
              | (go_at_call 15; (with_reducible refine (CL.out _ HBX.out).mono ?_); rintro e w8 ⟨rfl, hb⟩; replace HBX := Lib.hid (HBX.out.trans (hb.mono HBX.out.size)); clear hb q1)
              | (go_at_call 17; (with_reducible refine (CA.out _ HBX.out).mono ?_); rintro e w9 ⟨v9, rfl, ho, hb⟩; replace HBX := Lib.hid (HBX.out.trans (hb.mono HBX.out.size)); have HO9 := Lib.hid (OwnI.ints ho); clear hb ho)
              | (go_at_call 18; (with_reducible refine (CI.out _ HBX.out).mono ?_); rintro e w10 ⟨v10, rfl, ho, hb⟩; replace HBX := Lib.hid (HBX.out.trans (hb.mono HBX.out.size)); have HO10 := Lib.hid (OwnI.ints ho); have HO11 := Lib.hid (IntsAt.below HO9.out hb); clear hb ho)
              | (go_at_call 16; (with_reducible refine (CS.out _ _ _ HO11.out HO10.out).mono ?_); rintro e w11 ⟨rfl, hb⟩; replace HBX := Lib.hid (HBX.out.trans (hb.mono HBX.out.size)); clear hb))
            go_roundw
            case rel => exact ⟨k + 1, y :: t, by omega, by go_num, HS4.out.kept HBX.out, by have := HGE.out; omega⟩
            case measure => simp [intOf] <;> omega
        by_cases e2 : kk = 2
        · subst e2
          have HP2 := Lib.hid (hDrop_any i1 _ hha (by omega) HI.out)
          have HH := Lib.hid (show _ from ⟨hbx, hFx, hBa, hra, hF, ho⟩ : _ ∧ _ ∧ _ ∧ _ ∧ _ ∧ _)
          clear hbx hFl hFx hBa hra hF ho hh hha hr hB hal
          go_upto_region 16 with (go_at_call 9; (with_reducible refine HP2.out.mono ?_); rintro e w2 ⟨rfl, F2, ht, hm⟩; have HT2 := Lib.hid ht; have HM2 := Lib.hid hm; clear ht hm)
          obtain ⟨hbx, hFx, hBa, hra, hF, ho⟩ := HH.out
          have b2 := hbx.same (HM2.out.only.block wr.heap.size (by simp) hFx)
          have r2 := RowsAt.only hra HM2.out.only ho
          have hB2 := hBa.trans (HM2.out.only.below hF hBa.size)
          have F2s := HM2.out.from_ hF hBa.size
          have d0 := b2.cell 1 rfl
          have HP3 := Lib.hid (refDrop13_any _ S i1 w2 r2 (by omega))
          have hpl := dropT_len S i1
          have HK := Lib.hid (show _ from ⟨b2, hB2, F2s⟩ : _ ∧ _ ∧ _)
          obtain ⟨S2, hS2⟩ : ∃ S2, dropT S i1 = S2 := ⟨_, rfl⟩
          rw [hS2] at HP3 HT2 hpl
          obtain ⟨tb, htb⟩ : ∃ tb, hasT S i1 = tb := ⟨_, rfl⟩
          rw [htb] at HP3 ⊢
          clear HP2 HH hbx hFx hBa hra hF ho b2 r2 hB2 F2s hS2 htb HM2
          go_upto_region 25 with (go_at_call 10; (with_reducible refine HP3.out.mono ?_); rintro e w4 ⟨v3, rfl, ho3, hb3⟩; obtain ⟨a4, c4, e4⟩ := RowsAt.form (OwnR.rows csT_len ho3); subst e4; have HS4 := Lib.hid (Side13.new F2 HT2.out HK.out.2.2 HK.out.2.1 ho3 rfl hb3); have HD1 := Lib.hid (fun w' (hb : Below w4.heap.size w4 w') => ((HK.out.1.kept hb3).kept hb).cell 1 rfl); clear ho3 hb3 d0)
          clear HP3 HT2 HK
          have hn4 : S2.length ≤ k + 1 := by omega
          have HN4 := Lib.hid hn4
          obtain ⟨⟨F4, hh4, ho4, hF4⟩, hr4, hB4⟩ := HS4.out
          have CF := Lib.hid fun (n : World) (hb : Below w4.heap.size w4 n) => hFirst_any n (hh4.kept hb) (by omega)
          have CH := Lib.hid fun (n : World) (hb : Below w4.heap.size w4 n) => hHas_any i1 n (hh4.kept hb) (by omega) HI.out
          have CFi := Lib.hid fun (n : World) (hb : Below w4.heap.size w4 n) => refFind13_any _ S2 i1 n (RowsAt.kept hr4 hb) (by omega)
          have CL := Lib.hid fun (n : World) (hb : Below w4.heap.size w4 n) => hLen_any n (hh4.kept hb) (by omega)
          have CA := Lib.hid fun (n : World) (hb : Below w4.heap.size w4 n) => hAll_any n (hh4.kept hb) (by omega)
          have CI := Lib.hid fun (n : World) (hb : Below w4.heap.size w4 n) => refIDs_any _ S2 n (RowsAt.kept hr4 hb) (by omega)
          have hil := idsT_len S2
          have CS := Lib.hid fun (n : World) va vb (ha : IntsAt n va (idsT S2)) (hb : IntsAt n vb (idsT S2)) => refInts_any va vb (idsT S2) (idsT S2) n ha hb (by omega) (by omega)
          rw [decide_eq_true rfl] at CS
          obtain ⟨⟨⟨f1, f2, f3⟩, fb⟩, hfn⟩ : ∃ r, fndT S2 i1 = r := ⟨_, rfl⟩
          rw [hfn] at CH CFi
          simp only at CH CFi
          generalize idsT S2 = X at *
          have HBX := Lib.hid (Below.refl w4.heap.size w4)
          have d1 := HD1.out _ HBX.out
          clear hfn hil hh4 ho4 hF4 hB4
          cases S2 with
          | nil =>
            have hfr : frsT [] = (0, false) := rfl
            rw [hfr] at CF
            clear hfr hr4
            simp only [List.length_nil] at CFi CI CL
            go_wp2_with (first
              | (go_at_call 12; (with_reducible refine (CF.out _ HBX.out).mono ?_); rintro e w5 ⟨rfl, hb⟩; replace HBX := Lib.hid (HBX.out.trans (hb.mono HBX.out.size)); have d2 := HD1.out _ HBX.out; clear hb d1)
              | (go_at_call 13; (with_reducible refine (CH.out _ HBX.out).mono ?_); rintro e w6 ⟨rfl, hb⟩; replace HBX := Lib.hid (HBX.out.trans (hb.mono HBX.out.size)); have d3 := HD1.out _ HBX.out; clear hb d2)
              | (go_at_call 14; (with_reducible refine (CFi.out _ HBX.out).mono ?_); rintro e w7 ⟨rfl, hb⟩; replace HBX := Lib.hid (HBX.out.trans (hb.mono HBX.out.size)); replace HBX := Lib.hid (HBX.out.alloc HBX.out.size (.cells #[.int .i64 f1, .int .i64 f2, .int .i64 f3] 28)); clear hb d3)
              | (go_at_call 15; (with_reducible refine (CL.out _ HBX.out).mono ?_); rintro e w8 ⟨rfl, hb⟩; replace HBX := Lib.hid (HBX.out.trans (hb.mono HBX.out.size)); clear hb)
              | (go_at_call 17; (with_reducible refine (CA.out _ HBX.out).mono ?_); rintro e w9 ⟨v9, rfl, ho, hb⟩; replace HBX := Lib.hid (HBX.out.trans (hb.mono HBX.out.size)); have HO9 := Lib.hid (OwnI.ints ho); clear hb ho)
              | (go_at_call 18; (with_reducible refine (CI.out _ HBX.out).mono ?_); rintro e w10 ⟨v10, rfl, ho, hb⟩; replace HBX := Lib.hid (HBX.out.trans (hb.mono HBX.out.size)); have HO10 := Lib.hid (OwnI.ints ho); have HO11 := Lib.hid (IntsAt.below HO9.out hb); clear hb ho)
              | (go_at_call 16; (with_reducible refine (CS.out _ _ _ HO11.out HO10.out).mono ?_); rintro e w11 ⟨rfl, hb⟩; replace HBX := Lib.hid (HBX.out.trans (hb.mono HBX.out.size)); clear hb))
            go_roundw
            case rel => exact ⟨k + 1, [], by omega, by go_num, HS4.out.kept HBX.out, by simp⟩
            case measure => simp [intOf] <;> omega
          | cons y t =>
            have hfr : frsT (y :: t) = (y.id, true) := rfl
            rw [hfr] at CF
            obtain ⟨g4, o4, cc4, e4, _, hg4, q0, _, _⟩ := ThAt.at hr4 0 (by simp)
            simp only [List.getElem_cons_zero, Nat.zero_mul, Nat.add_zero] at q0
            have hq : ∀ n, Below w4.heap.size w4 n → n.cell? ⟨g4, o4, none⟩ = some (.int .i64 y.id) := fun n hb => (hb.cell (p := ⟨g4, o4, none⟩) hg4).trans q0
            have HQ := Lib.hid hq
            cases e4
            have hlt4 : (y :: t).length ≤ k + 1 := HN4.out
            have h0 : 0 < (y :: t).length := by simp
            generalize hge : (y :: t).length = n4 at *
            have HGE := Lib.hid hge
            clear hge
            have u0 : (0 : Int) < (n4 : Int) := by omega
            clear hfr hq q0 hr4
            go_wp2_with (first
              | (go_at_call 12; (with_reducible refine (CF.out _ HBX.out).mono ?_); rintro e w5 ⟨rfl, hb⟩; replace HBX := Lib.hid (HBX.out.trans (hb.mono HBX.out.size)); have d2 := HD1.out _ HBX.out; clear hb d1)
              | (go_at_call 13; (with_reducible refine (CH.out _ HBX.out).mono ?_); rintro e w6 ⟨rfl, hb⟩; replace HBX := Lib.hid (HBX.out.trans (hb.mono HBX.out.size)); have d3 := HD1.out _ HBX.out; clear hb d2)
              | (go_at_call 14; (with_reducible refine (CFi.out _ HBX.out).mono ?_); rintro e w7 ⟨rfl, hb⟩; replace HBX := Lib.hid (HBX.out.trans (hb.mono HBX.out.size)); have q1 := HQ.out _ (HBX.out.alloc HBX.out.size (.cells #[.int .i64 f1, .int .i64 f2, .int .i64 f3] 28)); replace HBX := Lib.hid (HBX.out.alloc HBX.out.size (.cells #[.int .i64 f1, .int .i64 f2, .int .i64 f3] 28)); clear hb d3)
              | (go_at_call 15; (with_reducible refine (CL.out _ HBX.out).mono ?_); rintro e w8 ⟨rfl, hb⟩; replace HBX := Lib.hid (HBX.out.trans (hb.mono HBX.out.size)); clear hb q1)
              | (go_at_call 17; (with_reducible refine (CA.out _ HBX.out).mono ?_); rintro e w9 ⟨v9, rfl, ho, hb⟩; replace HBX := Lib.hid (HBX.out.trans (hb.mono HBX.out.size)); have HO9 := Lib.hid (OwnI.ints ho); clear hb ho)
              | (go_at_call 18; (with_reducible refine (CI.out _ HBX.out).mono ?_); rintro e w10 ⟨v10, rfl, ho, hb⟩; replace HBX := Lib.hid (HBX.out.trans (hb.mono HBX.out.size)); have HO10 := Lib.hid (OwnI.ints ho); have HO11 := Lib.hid (IntsAt.below HO9.out hb); clear hb ho)
              | (go_at_call 16; (with_reducible refine (CS.out _ _ _ HO11.out HO10.out).mono ?_); rintro e w11 ⟨rfl, hb⟩; replace HBX := Lib.hid (HBX.out.trans (hb.mono HBX.out.size)); clear hb))
            go_roundw
            case rel => exact ⟨k + 1, y :: t, by omega, by go_num, HS4.out.kept HBX.out, by have := HGE.out; omega⟩
            case measure => simp [intOf] <;> omega
        by_cases e3 : kk = 3
        · subst e3
          have HH := Lib.hid (show _ from ⟨hbx, hFx, hBa, hra, hF, ho⟩ : _ ∧ _ ∧ _ ∧ _ ∧ _ ∧ _)
          clear hbx hFl hFx hBa hra hF ho hh hr hB hal
          cases S with
          | nil =>
            have HP2 := Lib.hid (hPop_any _ hha (by omega))
            have hfr : frsT [] = (0, false) := rfl
            rw [hfr] at HP2
            simp only [List.drop_nil] at HP2
            have HL2 := Lib.hid (show ([] : List Th).length = 0 from rfl)
            clear hfr hha
            go_upto_region 25 with (go_at_call 11; (with_reducible refine HP2.out.mono ?_); rintro e w4 ⟨rfl, F2, ht, hm⟩; have HT2 := Lib.hid ht; have HM2 := Lib.hid hm; clear ht hm)
            obtain ⟨hbx, hFx, hBa, hra, hF, ho⟩ := HH.out
            have b2 := hbx.same (HM2.out.only.block wr.heap.size (by simp) hFx)
            have r2 := RowsAt.only hra HM2.out.only ho
            have HS4 := Lib.hid (show Side13 w p w4 [] (.slice a0 0 c0) from ⟨⟨F2, HT2.out, OffV.nil, HM2.out.from_ hF hBa.size⟩, r2, hBa.trans (HM2.out.only.below hF hBa.size)⟩)
            have HD1 := Lib.hid (fun w' (hb : Below w4.heap.size w4 w') => (b2.kept hb).cell 1 rfl)
            clear HP2 HH hbx hFx hBa hra hF ho b2 r2 HT2 HM2 HL2
            obtain ⟨⟨F4, hh4, ho4, hF4⟩, hr4, hB4⟩ := HS4.out
            have CF := Lib.hid fun (n : World) (hb : Below w4.heap.size w4 n) => hFirst_any n (hh4.kept hb) (by simp)
            have CH := Lib.hid fun (n : World) (hb : Below w4.heap.size w4 n) => hHas_any i1 n (hh4.kept hb) (by simp) HI.out
            have CFi := Lib.hid fun (n : World) (hb : Below w4.heap.size w4 n) => refFind13_any _ [] i1 n (RowsAt.kept hr4 hb) (by simp)
            have CL := Lib.hid fun (n : World) (hb : Below w4.heap.size w4 n) => hLen_any n (hh4.kept hb) (by simp)
            have CA := Lib.hid fun (n : World) (hb : Below w4.heap.size w4 n) => hAll_any n (hh4.kept hb) (by simp)
            have CI := Lib.hid fun (n : World) (hb : Below w4.heap.size w4 n) => refIDs_any _ [] n (RowsAt.kept hr4 hb) (by simp)
            have CS := Lib.hid fun (n : World) va vb (ha : IntsAt n va (idsT [])) (hb : IntsAt n vb (idsT [])) => refInts_any va vb (idsT []) (idsT []) n ha hb (by simp [idsT]) (by simp [idsT])
            rw [decide_eq_true rfl] at CS
            obtain ⟨⟨⟨f1, f2, f3⟩, fb⟩, hfn⟩ : ∃ r, fndT [] i1 = r := ⟨_, rfl⟩
            rw [hfn] at CH CFi
            simp only at CH CFi
            generalize idsT [] = X at *
            have HBX := Lib.hid (Below.refl w4.heap.size w4)
            have d1 := HD1.out _ HBX.out
            have hfr : frsT [] = (0, false) := rfl
            rw [hfr] at CF
            simp only [List.length_nil] at CL
            clear hfn hh4 ho4 hF4 hB4 hfr hr4
            go_wp2_with (first
              | (go_at_call 12; (with_reducible refine (CF.out _ HBX.out).mono ?_); rintro e w5 ⟨rfl, hb⟩; replace HBX := Lib.hid (HBX.out.trans (hb.mono HBX.out.size)); have d2 := HD1.out _ HBX.out; clear hb d1)
              | (go_at_call 13; (with_reducible refine (CH.out _ HBX.out).mono ?_); rintro e w6 ⟨rfl, hb⟩; replace HBX := Lib.hid (HBX.out.trans (hb.mono HBX.out.size)); have d3 := HD1.out _ HBX.out; clear hb d2)
              | (go_at_call 14; (with_reducible refine (CFi.out _ HBX.out).mono ?_); rintro e w7 ⟨rfl, hb⟩; replace HBX := Lib.hid (HBX.out.trans (hb.mono HBX.out.size)); replace HBX := Lib.hid (HBX.out.alloc HBX.out.size (.cells #[.int .i64 f1, .int .i64 f2, .int .i64 f3] 28)); clear hb d3)
              | (go_at_call 15; (with_reducible refine (CL.out _ HBX.out).mono ?_); rintro e w8 ⟨rfl, hb⟩; replace HBX := Lib.hid (HBX.out.trans (hb.mono HBX.out.size)); clear hb)
              | (go_at_call 17; (with_reducible refine (CA.out _ HBX.out).mono ?_); rintro e w9 ⟨v9, rfl, ho, hb⟩; replace HBX := Lib.hid (HBX.out.trans (hb.mono HBX.out.size)); have HO9 := Lib.hid (OwnI.ints ho); clear hb ho)
              | (go_at_call 18; (with_reducible refine (CI.out _ HBX.out).mono ?_); rintro e w10 ⟨v10, rfl, ho, hb⟩; replace HBX := Lib.hid (HBX.out.trans (hb.mono HBX.out.size)); have HO10 := Lib.hid (OwnI.ints ho); have HO11 := Lib.hid (IntsAt.below HO9.out hb); clear hb ho)
              | (go_at_call 16; (with_reducible refine (CS.out _ _ _ HO11.out HO10.out).mono ?_); rintro e w11 ⟨rfl, hb⟩; replace HBX := Lib.hid (HBX.out.trans (hb.mono HBX.out.size)); clear hb))
            go_roundw
            case rel => exact ⟨k + 1, [], by omega, by go_num, HS4.out.kept HBX.out, by simp⟩
            case measure => simp [intOf] <;> omega
          | cons y t =>
            have HP2 := Lib.hid (hPop_any _ hha (by omega))
            have hfr : frsT (y :: t) = (y.id, true) := rfl
            have hdr : (y :: t).drop 1 = t := rfl
            rw [hfr, hdr] at HP2
            have hlt1 : (y :: t).length = t.length + 1 := rfl
            have hn2 : t.length + 1 ≤ k := by rw [← hlt1]; exact hn
            rw [hlt1] at HH ⊢
            have hu : (0 : Int) < (t.length : Int) + 1 := by omega
            clear hfr hdr hha
            go_upto_region 21 with (go_at_call 11; (with_reducible refine HP2.out.mono ?_); rintro e w4 ⟨rfl, F2, ht, hm⟩; have HT2 := Lib.hid ht; have HM2 := Lib.hid hm; clear ht hm)
            obtain ⟨hbx, hFx, hBa, hra, hF, ho⟩ := HH.out
            have b2 := hbx.same (HM2.out.only.block wr.heap.size (by simp) hFx)
            have r2 := RowsAt.only hra HM2.out.only ho
            have o2 := OffV.mv (l := y :: t) ho hra HM2.out
            have B2 := hBa.trans (HM2.out.only.below hF hBa.size)
            have F2s := HM2.out.from_ hF hBa.size
            obtain ⟨gy, oy, cy, ey, hcy, q7, q0, q8, q9⟩ := ThAt.at r2 0 (by simp)
            clear q7 q8 q9
            simp only [List.getElem_cons_zero, Nat.zero_mul, Nat.add_zero] at q0
            injection ey with ey1 ey2 ey3
            subst ey1
            subst ey3
            have hc1 : (1 : Int) ≤ (c0 : Int) := by rw [hlt1] at hcy; omega
            have HD1 := Lib.hid (fun w' (hb : Below w4.heap.size w4 w') => (b2.kept hb).cell 1 rfl)
            obtain ⟨a4, c4, HA4⟩ : ∃ a4 c4, (∀ w', (Instr.sliceAt 26 (.slice (some ⟨gy, oy, none⟩) (t.length + 1) c0) (some (.int .i64 1)) none none).run Try.prog w' = .ok (.slice a4 t.length c4) w') ∧ Side13 w p w4 t (.slice a4 t.length c4) := by
              by_cases hcc : c0 = 1
              · subst hcc
                refine ⟨some ⟨gy, oy, none⟩, 0, fun w' => ?_, ?_⟩
                · have h9 : (1 : Int) ≤ (t.length : Int) + 1 := by omega
                  simp [go_sem, sliced, h9]
                · have hr := restAt13 r2 1 (by simp) (some ⟨gy, oy, none⟩) (fun h => by omega)
                  rw [show t.length + 1 - 1 = t.length by omega, show 1 - 1 = 0 from rfl] at hr
                  exact ⟨⟨F2, HT2.out, fun h0 gg hg => o2 (by simp) gg hg, F2s⟩, hr, B2⟩
              · refine ⟨some ⟨gy, oy + 3, none⟩, c0 - 1, fun w' => ?_, ?_⟩
                · have h9 : (1 : Int) ≤ (t.length : Int) + 1 := by omega
                  simp [go_sem, sliced, h9, hcc, Addr.add]
                · have hr := restAt13 r2 1 (by simp) (some ⟨gy, oy + 3, none⟩) (fun _ g' o' e => by cases e; simp)
                  rw [show t.length + 1 - 1 = t.length by omega] at hr
                  exact ⟨⟨F2, HT2.out, fun h0 gg hg => o2 (by simp) gg (by simpa [Value.ownBlock] using hg), F2s⟩, hr, B2⟩
            obtain ⟨hsl, hs4⟩ := HA4
            have HS4 := Lib.hid hs4
            clear hbx hFx hBa hra hF ho b2 r2 o2 B2 F2s HT2 HM2 HH HP2 hs4 hcy ey2 hc1 hlt1
            go_upto_region 25 with fail
            obtain ⟨S2, hS2⟩ : ∃ S2, t = S2 := ⟨_, rfl⟩
            subst hS2
            have hn4 : t.length ≤ k + 1 := by omega
            clear hu hsl q0
            have HN4 := Lib.hid hn4
            obtain ⟨⟨F4, hh4, ho4, hF4⟩, hr4, hB4⟩ := HS4.out
            have CF := Lib.hid fun (n : World) (hb : Below w4.heap.size w4 n) => hFirst_any n (hh4.kept hb) (by omega)
            have CH := Lib.hid fun (n : World) (hb : Below w4.heap.size w4 n) => hHas_any i1 n (hh4.kept hb) (by omega) HI.out
            have CFi := Lib.hid fun (n : World) (hb : Below w4.heap.size w4 n) => refFind13_any _ t i1 n (RowsAt.kept hr4 hb) (by omega)
            have CL := Lib.hid fun (n : World) (hb : Below w4.heap.size w4 n) => hLen_any n (hh4.kept hb) (by omega)
            have CA := Lib.hid fun (n : World) (hb : Below w4.heap.size w4 n) => hAll_any n (hh4.kept hb) (by omega)
            have CI := Lib.hid fun (n : World) (hb : Below w4.heap.size w4 n) => refIDs_any _ t n (RowsAt.kept hr4 hb) (by omega)
            have hil := idsT_len t
            have CS := Lib.hid fun (n : World) va vb (ha : IntsAt n va (idsT t)) (hb : IntsAt n vb (idsT t)) => refInts_any va vb (idsT t) (idsT t) n ha hb (by omega) (by omega)
            rw [decide_eq_true rfl] at CS
            obtain ⟨⟨⟨f1, f2, f3⟩, fb⟩, hfn⟩ : ∃ r, fndT t i1 = r := ⟨_, rfl⟩
            rw [hfn] at CH CFi
            simp only at CH CFi
            generalize idsT t = X at *
            have HBX := Lib.hid (Below.refl w4.heap.size w4)
            have d1 := HD1.out _ HBX.out
            clear hfn hil hh4 ho4 hF4 hB4
            cases t with
            | nil =>
              have hfr : frsT [] = (0, false) := rfl
              rw [hfr] at CF
              clear hfr hr4
              simp only [List.length_nil] at CFi CI CL
              go_wp2_with (first
                | (go_at_call 12; (with_reducible refine (CF.out _ HBX.out).mono ?_); rintro e w5 ⟨rfl, hb⟩; replace HBX := Lib.hid (HBX.out.trans (hb.mono HBX.out.size)); have d2 := HD1.out _ HBX.out; clear hb d1)
                | (go_at_call 13; (with_reducible refine (CH.out _ HBX.out).mono ?_); rintro e w6 ⟨rfl, hb⟩; replace HBX := Lib.hid (HBX.out.trans (hb.mono HBX.out.size)); have d3 := HD1.out _ HBX.out; clear hb d2)
                | (go_at_call 14; (with_reducible refine (CFi.out _ HBX.out).mono ?_); rintro e w7 ⟨rfl, hb⟩; replace HBX := Lib.hid (HBX.out.trans (hb.mono HBX.out.size)); replace HBX := Lib.hid (HBX.out.alloc HBX.out.size (.cells #[.int .i64 f1, .int .i64 f2, .int .i64 f3] 28)); clear hb d3)
                | (go_at_call 15; (with_reducible refine (CL.out _ HBX.out).mono ?_); rintro e w8 ⟨rfl, hb⟩; replace HBX := Lib.hid (HBX.out.trans (hb.mono HBX.out.size)); clear hb)
                | (go_at_call 17; (with_reducible refine (CA.out _ HBX.out).mono ?_); rintro e w9 ⟨v9, rfl, ho, hb⟩; replace HBX := Lib.hid (HBX.out.trans (hb.mono HBX.out.size)); have HO9 := Lib.hid (OwnI.ints ho); clear hb ho)
                | (go_at_call 18; (with_reducible refine (CI.out _ HBX.out).mono ?_); rintro e w10 ⟨v10, rfl, ho, hb⟩; replace HBX := Lib.hid (HBX.out.trans (hb.mono HBX.out.size)); have HO10 := Lib.hid (OwnI.ints ho); have HO11 := Lib.hid (IntsAt.below HO9.out hb); clear hb ho)
                | (go_at_call 16; (with_reducible refine (CS.out _ _ _ HO11.out HO10.out).mono ?_); rintro e w11 ⟨rfl, hb⟩; replace HBX := Lib.hid (HBX.out.trans (hb.mono HBX.out.size)); clear hb))
              go_roundw
              case rel => exact ⟨k + 1, [], by omega, by go_num, HS4.out.kept HBX.out, by simp⟩
              case measure => simp [intOf] <;> omega
            | cons y2 t2 =>
              have hfr : frsT (y2 :: t2) = (y2.id, true) := rfl
              rw [hfr] at CF
              obtain ⟨g4, o4, cc4, e4, _, hg4, q0, _, _⟩ := ThAt.at hr4 0 (by simp)
              simp only [List.getElem_cons_zero, Nat.zero_mul, Nat.add_zero] at q0
              have hq : ∀ n, Below w4.heap.size w4 n → n.cell? ⟨g4, o4, none⟩ = some (.int .i64 y2.id) := fun n hb => (hb.cell (p := ⟨g4, o4, none⟩) hg4).trans q0
              have HQ := Lib.hid hq
              cases e4
              have hlt4 : (y2 :: t2).length ≤ k + 1 := HN4.out
              have h0 : 0 < (y2 :: t2).length := by simp
              generalize hge : (y2 :: t2).length = n4 at *
              have HGE := Lib.hid hge
              clear hge
              have u0 : (0 : Int) < (n4 : Int) := by omega
              clear hfr hq q0 hr4
              go_wp2_with (first
                | (go_at_call 12; (with_reducible refine (CF.out _ HBX.out).mono ?_); rintro e w5 ⟨rfl, hb⟩; replace HBX := Lib.hid (HBX.out.trans (hb.mono HBX.out.size)); have d2 := HD1.out _ HBX.out; clear hb d1)
                | (go_at_call 13; (with_reducible refine (CH.out _ HBX.out).mono ?_); rintro e w6 ⟨rfl, hb⟩; replace HBX := Lib.hid (HBX.out.trans (hb.mono HBX.out.size)); have d3 := HD1.out _ HBX.out; clear hb d2)
                | (go_at_call 14; (with_reducible refine (CFi.out _ HBX.out).mono ?_); rintro e w7 ⟨rfl, hb⟩; replace HBX := Lib.hid (HBX.out.trans (hb.mono HBX.out.size)); have q1 := HQ.out _ (HBX.out.alloc HBX.out.size (.cells #[.int .i64 f1, .int .i64 f2, .int .i64 f3] 28)); replace HBX := Lib.hid (HBX.out.alloc HBX.out.size (.cells #[.int .i64 f1, .int .i64 f2, .int .i64 f3] 28)); clear hb d3)
                | (go_at_call 15; (with_reducible refine (CL.out _ HBX.out).mono ?_); rintro e w8 ⟨rfl, hb⟩; replace HBX := Lib.hid (HBX.out.trans (hb.mono HBX.out.size)); clear hb q1)
                | (go_at_call 17; (with_reducible refine (CA.out _ HBX.out).mono ?_); rintro e w9 ⟨v9, rfl, ho, hb⟩; replace HBX := Lib.hid (HBX.out.trans (hb.mono HBX.out.size)); have HO9 := Lib.hid (OwnI.ints ho); clear hb ho)
                | (go_at_call 18; (with_reducible refine (CI.out _ HBX.out).mono ?_); rintro e w10 ⟨v10, rfl, ho, hb⟩; replace HBX := Lib.hid (HBX.out.trans (hb.mono HBX.out.size)); have HO10 := Lib.hid (OwnI.ints ho); have HO11 := Lib.hid (IntsAt.below HO9.out hb); clear hb ho)
                | (go_at_call 16; (with_reducible refine (CS.out _ _ _ HO11.out HO10.out).mono ?_); rintro e w11 ⟨rfl, hb⟩; replace HBX := Lib.hid (HBX.out.trans (hb.mono HBX.out.size)); clear hb))
              go_roundw
              case rel => exact ⟨k + 1, y2 :: t2, by omega, by go_num, HS4.out.kept HBX.out, by have := HGE.out; omega⟩
              case measure => simp [intOf] <;> omega
        · have HS4 := Lib.hid (show Side13 w p (wr.alloc (.cells #[.int .i64 kk, .int .i64 i1, .int .i64 i2, .int .i64 i3] 30)) S (.slice a0 S.length c0) from ⟨⟨F, hha, ho, hF⟩, hra, hBa⟩)
          have HD1 := Lib.hid (fun w' (hb : Below (wr.alloc (.cells #[.int .i64 kk, .int .i64 i1, .int .i64 i2, .int .i64 i3] 30)).heap.size (wr.alloc (.cells #[.int .i64 kk, .int .i64 i1, .int .i64 i2, .int .i64 i3] 30)) w') => (hbx.kept hb).cell 1 rfl)
          have hn4 : S.length ≤ k + 1 := by omega
          clear hbx hFl hFx hBa hra hF ho hh hha hr hB hal
          go_upto_region 25 with fail
          generalize wr.alloc (.cells #[.int .i64 kk, .int .i64 i1, .int .i64 i2, .int .i64 i3] 30) = w4 at *
          obtain ⟨S2, hS2⟩ : ∃ S2, S = S2 := ⟨_, rfl⟩
          subst hS2
          have HN4 := Lib.hid hn4
          obtain ⟨⟨F4, hh4, ho4, hF4⟩, hr4, hB4⟩ := HS4.out
          have CF := Lib.hid fun (n : World) (hb : Below w4.heap.size w4 n) => hFirst_any n (hh4.kept hb) (by omega)
          have CH := Lib.hid fun (n : World) (hb : Below w4.heap.size w4 n) => hHas_any i1 n (hh4.kept hb) (by omega) HI.out
          have CFi := Lib.hid fun (n : World) (hb : Below w4.heap.size w4 n) => refFind13_any _ S i1 n (RowsAt.kept hr4 hb) (by omega)
          have CL := Lib.hid fun (n : World) (hb : Below w4.heap.size w4 n) => hLen_any n (hh4.kept hb) (by omega)
          have CA := Lib.hid fun (n : World) (hb : Below w4.heap.size w4 n) => hAll_any n (hh4.kept hb) (by omega)
          have CI := Lib.hid fun (n : World) (hb : Below w4.heap.size w4 n) => refIDs_any _ S n (RowsAt.kept hr4 hb) (by omega)
          have hil := idsT_len S
          have CS := Lib.hid fun (n : World) va vb (ha : IntsAt n va (idsT S)) (hb : IntsAt n vb (idsT S)) => refInts_any va vb (idsT S) (idsT S) n ha hb (by omega) (by omega)
          rw [decide_eq_true rfl] at CS
          obtain ⟨⟨⟨f1, f2, f3⟩, fb⟩, hfn⟩ : ∃ r, fndT S i1 = r := ⟨_, rfl⟩
          rw [hfn] at CH CFi
          simp only at CH CFi
          generalize idsT S = X at *
          have HBX := Lib.hid (Below.refl w4.heap.size w4)
          have d1 := HD1.out _ HBX.out
          clear hfn hil hh4 ho4 hF4 hB4
          cases S with
          | nil =>
            have hfr : frsT [] = (0, false) := rfl
            rw [hfr] at CF
            clear hfr hr4
            simp only [List.length_nil] at CFi CI CL
            go_wp2_with (first
              | (go_at_call 12; (with_reducible refine (CF.out _ HBX.out).mono ?_); rintro e w5 ⟨rfl, hb⟩; replace HBX := Lib.hid (HBX.out.trans (hb.mono HBX.out.size)); have d2 := HD1.out _ HBX.out; clear hb d1)
              | (go_at_call 13; (with_reducible refine (CH.out _ HBX.out).mono ?_); rintro e w6 ⟨rfl, hb⟩; replace HBX := Lib.hid (HBX.out.trans (hb.mono HBX.out.size)); have d3 := HD1.out _ HBX.out; clear hb d2)
              | (go_at_call 14; (with_reducible refine (CFi.out _ HBX.out).mono ?_); rintro e w7 ⟨rfl, hb⟩; replace HBX := Lib.hid (HBX.out.trans (hb.mono HBX.out.size)); replace HBX := Lib.hid (HBX.out.alloc HBX.out.size (.cells #[.int .i64 f1, .int .i64 f2, .int .i64 f3] 28)); clear hb d3)
              | (go_at_call 15; (with_reducible refine (CL.out _ HBX.out).mono ?_); rintro e w8 ⟨rfl, hb⟩; replace HBX := Lib.hid (HBX.out.trans (hb.mono HBX.out.size)); clear hb)
              | (go_at_call 17; (with_reducible refine (CA.out _ HBX.out).mono ?_); rintro e w9 ⟨v9, rfl, ho, hb⟩; replace HBX := Lib.hid (HBX.out.trans (hb.mono HBX.out.size)); have HO9 := Lib.hid (OwnI.ints ho); clear hb ho)
              | (go_at_call 18; (with_reducible refine (CI.out _ HBX.out).mono ?_); rintro e w10 ⟨v10, rfl, ho, hb⟩; replace HBX := Lib.hid (HBX.out.trans (hb.mono HBX.out.size)); have HO10 := Lib.hid (OwnI.ints ho); have HO11 := Lib.hid (IntsAt.below HO9.out hb); clear hb ho)
              | (go_at_call 16; (with_reducible refine (CS.out _ _ _ HO11.out HO10.out).mono ?_); rintro e w11 ⟨rfl, hb⟩; replace HBX := Lib.hid (HBX.out.trans (hb.mono HBX.out.size)); clear hb))
            go_roundw
            case rel => exact ⟨k + 1, [], by omega, by go_num, HS4.out.kept HBX.out, by simp⟩
            case measure => simp [intOf] <;> omega
          | cons y t =>
            have hfr : frsT (y :: t) = (y.id, true) := rfl
            rw [hfr] at CF
            obtain ⟨g4, o4, cc4, e4, _, hg4, q0, _, _⟩ := ThAt.at hr4 0 (by simp)
            simp only [List.getElem_cons_zero, Nat.zero_mul, Nat.add_zero] at q0
            have hq : ∀ n, Below w4.heap.size w4 n → n.cell? ⟨g4, o4, none⟩ = some (.int .i64 y.id) := fun n hb => (hb.cell (p := ⟨g4, o4, none⟩) hg4).trans q0
            have HQ := Lib.hid hq
            cases e4
            have hlt4 : (y :: t).length ≤ k + 1 := HN4.out
            have h0 : 0 < (y :: t).length := by simp
            generalize hge : (y :: t).length = n4 at *
            have HGE := Lib.hid hge
            clear hge
            have u0 : (0 : Int) < (n4 : Int) := by omega
            clear hfr hq q0 hr4
            go_wp2_with (first
              | (go_at_call 12; (with_reducible refine (CF.out _ HBX.out).mono ?_); rintro e w5 ⟨rfl, hb⟩; replace HBX := Lib.hid (HBX.out.trans (hb.mono HBX.out.size)); have d2 := HD1.out _ HBX.out; clear hb d1)
              | (go_at_call 13; (with_reducible refine (CH.out _ HBX.out).mono ?_); rintro e w6 ⟨rfl, hb⟩; replace HBX := Lib.hid (HBX.out.trans (hb.mono HBX.out.size)); have d3 := HD1.out _ HBX.out; clear hb d2)
              | (go_at_call 14; (with_reducible refine (CFi.out _ HBX.out).mono ?_); rintro e w7 ⟨rfl, hb⟩; replace HBX := Lib.hid (HBX.out.trans (hb.mono HBX.out.size)); have q1 := HQ.out _ (HBX.out.alloc HBX.out.size (.cells #[.int .i64 f1, .int .i64 f2, .int .i64 f3] 28)); replace HBX := Lib.hid (HBX.out.alloc HBX.out.size (.cells #[.int .i64 f1, .int .i64 f2, .int .i64 f3] 28)); clear hb d3)
              | (go_at_call 15; (with_reducible refine (CL.out _ HBX.out).mono ?_); rintro e w8 ⟨rfl, hb⟩; replace HBX := Lib.hid (HBX.out.trans (hb.mono HBX.out.size)); clear hb q1)
              | (go_at_call 17; (with_reducible refine (CA.out _ HBX.out).mono ?_); rintro e w9 ⟨v9, rfl, ho, hb⟩; replace HBX := Lib.hid (HBX.out.trans (hb.mono HBX.out.size)); have HO9 := Lib.hid (OwnI.ints ho); clear hb ho)
              | (go_at_call 18; (with_reducible refine (CI.out _ HBX.out).mono ?_); rintro e w10 ⟨v10, rfl, ho, hb⟩; replace HBX := Lib.hid (HBX.out.trans (hb.mono HBX.out.size)); have HO10 := Lib.hid (OwnI.ints ho); have HO11 := Lib.hid (IntsAt.below HO9.out hb); clear hb ho)
              | (go_at_call 16; (with_reducible refine (CS.out _ _ _ HO11.out HO10.out).mono ?_); rintro e w11 ⟨rfl, hb⟩; replace HBX := Lib.hid (HBX.out.trans (hb.mono HBX.out.size)); clear hb))
            go_roundw
            case rel => exact ⟨k + 1, y :: t, by omega, by go_num, HS4.out.kept HBX.out, by have := HGE.out; omega⟩
            case measure => simp [intOf] <;> omega
      · have hke : k = l.length := by omega
        subst hke
        have HBW := Lib.hid hS.below
        clear hS
        go_wp2_with (go_at_call 5; (with_reducible refine (HAL.out _).mono ?_); rintro e w8 ⟨rfl, hb⟩)
        go_ret
        exact ⟨rfl, HBW.out.trans (hb.mono HBW.out.size)⟩
end Go.Proofs.Ytiaiappoodjpdaa
