/- Texts of this proof, joined: WpF; WpG; WpH; WpI; HeapMath. -/
import Derived.Test.YtjmgokjljmmmgaaBun13
import Derived.Deep.DeepCutAuto
import Derived.Test.YtjmgokjljmmmgaaRows
/- Stage 21's program: Right. -/
namespace Go.Proofs.Ytjmgokjljmmmgaa
open Go.RowKit Go.Maps

set_option maxHeartbeats 8000000 in
set_option maxRecDepth 100000 in
theorem pRight_any (vx vl : Value) (Xs : List Le) (Ls : List Lr) (W : World) (hx : LeasesAt W vx Xs) (hl : LocksAt W vl Ls) (hxl : Xs.length ≤ 1000) (hll : Ls.length ≤ 1000) (hxw : ∀ x ∈ Xs, x.want.length ≤ 1000) (hlw : ∀ x ∈ Ls, x.wait.length ≤ 1000) (hx64 : ∀ x ∈ Xs, I64 x.token ∧ ∀ t ∈ x.want, I64 t) (hl64 : ∀ x ∈ Ls, I64 x.id ∧ I64 x.holder ∧ ∀ t ∈ x.wait, I64 t) :
    Calls Try.prog 6 #[vx, vl] W fun e w' => e = .returned (.bool (rightW Xs Ls)) ∧ Below W.heap.size W w' := by
  obtain ⟨r, hr⟩ : ∃ r, rightW Xs Ls = r := ⟨_, rfl⟩
  rw [hr]
  have hrr : r = (rightB (idsL Ls) && (lesW 0 Xs && (seatsW Xs Ls && locksW Xs Ls))) := hr.symm
  have HI := Lib.hid (pIdsRise_any vl Ls W hl.rows hll)
  have HM := Lib.hid fun w' (hb : Below W.heap.size W w') => pMayBe_any vx Xs w' ⟨RowsAt.kept hx.rows hb, fun y hy => (hx.each y hy).below hb⟩ hxl hxw
  cases h1 : rightB (idsL Ls) with
  | false =>
    rw [h1, Bool.false_and] at hrr
    rw [h1] at HI
    subst hrr
    clear hr hx hl hxl hll hxw hlw hx64 hl64 h1 HM
    go_enter Try.func6, Try.ntmps6
    go_wp2_with (go_at_call 18; (with_reducible refine HI.out.mono ?_); rintro e w1 ⟨rfl, b1⟩; have HB1 := Lib.hid b1; clear b1)
    go_ret
    exact ⟨rfl, HB1.out⟩
  | true =>
    rw [h1, Bool.true_and] at hrr
    rw [h1] at HI
    cases h2 : lesW 0 Xs with
    | false =>
      rw [h2, Bool.false_and] at hrr
      simp only [h2] at HM
      subst hrr
      clear hr hx hl hxl hll hxw hlw hx64 hl64 h1 h2
      go_enter Try.func6, Try.ntmps6
      go_wp2_with (first
        | (go_at_call 18; (with_reducible refine HI.out.mono ?_); rintro e w1 ⟨rfl, b1⟩; have HB1 := Lib.hid b1; clear b1)
        | (go_at_call 19; (with_reducible refine (HM.out _ HB1.out).mono ?_); rintro e w2 ⟨rfl, b2⟩; have HB2 := Lib.hid (HB1.out.trans (b2.mono HB1.out.size)); clear b2))
      go_ret
      exact ⟨rfl, HB2.out⟩
    | true =>
      rw [h2, Bool.true_and] at hrr
      simp only [h2] at HM
      have HK := Lib.hid fun w' (hb : Below W.heap.size W w') => pLocksFit_any vx vl Xs Ls w' ⟨RowsAt.kept hx.rows hb, fun y hy => (hx.each y hy).below hb⟩ (hl.below hb) h2 h1 hxl hll hxw hlw (fun x h => (hx64 x h).1) (fun x h => (hl64 x h).2)
      cases h3 : locksW Xs Ls with
      | false =>
        rw [h3, Bool.and_false] at hrr
        simp only [h3] at HK
        subst hrr
        clear hr hx hl hxl hll hxw hlw hx64 hl64 h1 h2 h3
        go_enter Try.func6, Try.ntmps6
        go_wp2_with (first
          | (go_at_call 18; (with_reducible refine HI.out.mono ?_); rintro e w1 ⟨rfl, b1⟩; have HB1 := Lib.hid b1; clear b1)
          | (go_at_call 19; (with_reducible refine (HM.out _ HB1.out).mono ?_); rintro e w2 ⟨rfl, b2⟩; have HB2 := Lib.hid (HB1.out.trans (b2.mono HB1.out.size)); clear b2)
          | (go_at_call 20; (with_reducible refine (HK.out _ HB2.out).mono ?_); rintro e w3 ⟨rfl, b3⟩; have HB3 := Lib.hid (HB2.out.trans (b3.mono HB2.out.size)); clear b3))
        go_ret
        exact ⟨rfl, HB3.out⟩
      | true =>
        rw [h3, Bool.and_true] at hrr
        simp only [h3] at HK
        have HS := Lib.hid fun w' (hb : Below W.heap.size W w') => pLeasesFit_any vx vl Xs Ls w' ⟨RowsAt.kept hx.rows hb, fun y hy => (hx.each y hy).below hb⟩ (hl.below hb) h2 h1 h3 hxl hll hxw hlw hx64 hl64
        simp only [← hrr] at HS
        clear hr hx hl hxl hll hxw hlw hx64 hl64 h1 h2 h3 hrr
        go_enter Try.func6, Try.ntmps6
        go_wp2_with (first
          | (go_at_call 18; (with_reducible refine HI.out.mono ?_); rintro e w1 ⟨rfl, b1⟩; have HB1 := Lib.hid b1; clear b1)
          | (go_at_call 19; (with_reducible refine (HM.out _ HB1.out).mono ?_); rintro e w2 ⟨rfl, b2⟩; have HB2 := Lib.hid (HB1.out.trans (b2.mono HB1.out.size)); clear b2)
          | (go_at_call 20; (with_reducible refine (HK.out _ HB2.out).mono ?_); rintro e w3 ⟨rfl, b3⟩; have HB3 := Lib.hid (HB2.out.trans (b3.mono HB2.out.size)); clear b3)
          | (go_at_call 21; (with_reducible refine (HS.out _ HB3.out).mono ?_); rintro e w4 ⟨rfl, b4⟩; have HB4 := Lib.hid (HB3.out.trans (b4.mono HB3.out.size)); clear b4))
        go_ret
        exact ⟨rfl, HB4.out⟩
end Go.Proofs.Ytjmgokjljmmmgaa
/- Stage 21's program: awaitedAmong: a function that tells which lock a lease waits for. -/
namespace Go.Proofs.Ytjmgokjljmmmgaa
open Go.RowKit Go.Maps

def lrhW (x : Lr) : Kh := ⟨x.id, x.holder, ⟨x.a, x.wait.length, x.c⟩⟩
def firstG (Ls : List Lr) : Int → Option Kh := fun id => (lkF Ls id).map lrhW
theorem lkF_old {Ps : List Lr} {x : Lr} (h : x.id ∈ idsL Ps) : firstG (Ps ++ [x]) = firstG Ps := by
  funext id
  unfold firstG lkF
  rw [List.find?_append]
  by_cases e : x.id = id
  · subst e
    obtain ⟨k, hk, _⟩ := lkF_in h
    unfold lkF at hk
    rw [hk]
    rfl
  · rw [List.find?_cons_of_neg (by simpa using e)]
    simp
theorem lkF_new {Ps : List Lr} {x : Lr} (h : x.id ∉ idsL Ps) : updG (firstG Ps) x.id (some (lrhW x)) = firstG (Ps ++ [x]) := by
  funext id
  unfold firstG lkF
  rw [List.find?_append]
  by_cases e : id = x.id
  · subst e
    have := lkF_none h
    unfold lkF at this
    rw [updG_same, this]
    simp
  · rw [updG_other _ _ e, List.find?_cons_of_neg (by simpa using fun h => e h.symm)]
    simp
theorem firstG_is (Ps : List Lr) (id : Int) : (firstG Ps id).isSome = decide (id ∈ idsL Ps) := by
  unfold firstG
  by_cases h : id ∈ idsL Ps
  · obtain ⟨k, hk, _⟩ := lkF_in h
    rw [hk, decide_eq_true h]
    rfl
  · rw [lkF_none h, decide_eq_false h]
    rfl
theorem blkOf {w : World} {b : Nat} {vs : List Value} {t : TypeId} (hh : w.heap[b]? = some (.cells vs.toArray t)) : Blk w b vs := fun j u hu =>
  ⟨by unfold World.cell?; simp only [hh]; simpa using hu, by unfold World.frozen?; simp only [hh]; simp⟩
set_option maxHeartbeats 8000000 in
set_option maxRecDepth 100000 in
theorem pAwt1_any (x : Le) (Ls : List Lr) (b mb m : Nat) (w : World) (hB : Blk w b [.map (some mb)]) (hM : MapK w mb m (firstG Ls)) (hi : IntsAt w (.slice x.a x.want.length x.c) x.want) (hw : x.want.length ≤ 1000) (h64 : ∀ t ∈ x.want, I64 t) :
    Calls Try.prog 49 #[lv7 x.token x.task x.worker x.unit x.due x.got (.slice x.a x.want.length x.c), .pointer (some ⟨b, 0, none⟩)] w fun e w' => e = .returned (.tuple #[khv (((awX Ls x).map lrhW).getD kh0), .bool (awX Ls x).isSome]) ∧ Below w.heap.size w w' := by
  have hrr : awX Ls x = (nxX x).bind (lkF Ls) := rfl
  have hnone := fun h => nxX_none (x := x) h
  have hat := fun h0 h1 => nxX_at (x := x) h0 h1
  obtain ⟨r, hr⟩ : ∃ r, awX Ls x = r := ⟨_, rfl⟩
  obtain ⟨nx, hnx⟩ : ∃ nx, nxX x = nx := ⟨_, rfl⟩
  rw [hr, hnx] at hrr
  rw [hr]
  simp only [hnx] at hnone hat
  clear hr hnx
  obtain ⟨tk, ta, wo, un, du, go, xa, xc, xw⟩ := x
  simp only at hi hw h64 hnone hat ⊢
  obtain ⟨n, hn⟩ : ∃ n, xw.length = n := ⟨_, rfl⟩
  rw [hn] at hi hw hnone ⊢
  have hb1 := (Below.refl w.heap.size w).alloc (Nat.le_refl _) (.cells #[.int .i64 tk, .int .i64 ta, .int .i64 wo, .int .i64 un, .int .i64 du, .int .i64 go, .slice xa n xc] 35)
  have hX := Blk.new w [.int .i64 tk, .int .i64 ta, .int .i64 wo, .int .i64 un, .int .i64 du, .int .i64 go, .slice xa n xc] 35
  have hz1 : (w.alloc (.cells #[.int .i64 tk, .int .i64 ta, .int .i64 wo, .int .i64 un, .int .i64 du, .int .i64 go, .slice xa n xc] 35)).heap.size = w.heap.size + 1 := by simp
  obtain ⟨w1, hw1⟩ : ∃ w1, w.alloc (.cells #[.int .i64 tk, .int .i64 ta, .int .i64 wo, .int .i64 un, .int .i64 du, .int .i64 go, .slice xa n xc] 35) = w1 := ⟨_, rfl⟩
  replace hX : Blk w1 w.heap.size [.int .i64 tk, .int .i64 ta, .int .i64 wo, .int .i64 un, .int .i64 du, .int .i64 go, .slice xa n xc] := by rw [← hw1]; exact hX
  rw [hw1] at hb1 hz1
  have hb2 := (Below.refl w1.heap.size w1).alloc (Nat.le_refl _) (.cells #[.int .i64 0, .int .i64 0, .slice none 0 0] 37)
  have hY := Blk.new w1 [.int .i64 0, .int .i64 0, .slice none 0 0] 37
  rw [hz1] at hY
  have hX2 := hX.kept hb2
  have hB2 := hb1.trans (hb2.mono hb1.size)
  have HBK := Lib.hid (hB.kept hB2)
  have HMK := Lib.hid (MapG.kept hM hB2)
  have HIK := Lib.hid (hi.below hB2)
  have GW := Lib.hid fun w' => pWaiting_any tk ta wo un du go xa n xc w'
  have HB := Lib.hid hB2
  have hx0 := hX2.cell 0 rfl
  have hx1 := hX2.cell 1 rfl
  have hx2 := hX2.cell 2 rfl
  have hx3 := hX2.cell 3 rfl
  have hx4 := hX2.cell 4 rfl
  have hx5 := hX2.cell 5 rfl
  have hx6 := hX2.cell 6 rfl
  have HX := Lib.hid hX2
  have HY := Lib.hid hY
  clear hX hX2 hY hB2 hb1 hb2 hz1 hB hM hi
  by_cases h : 0 ≤ go ∧ go < (n : Int)
  · have hjl : go.toNat < xw.length := by omega
    have hx := hat h.1 (by rw [hn]; exact h.2)
    have hg64 := h64 _ (List.getElem_mem hjl)
    obtain ⟨g2, o2, c2, e2, z0, z1, m0⟩ := HIK.out.spot go.toNat hjl
    obtain ⟨id, hid⟩ : ∃ id, xw[go.toNat]'hjl = id := ⟨_, rfl⟩
    rw [hid] at hx hg64 m0
    rw [hn] at e2
    cases e2
    have HM0 := Lib.hid m0
    have hlk := fun w' (hb : Below (w1.alloc (.cells #[.int .i64 0, .int .i64 0, .slice none 0 0] 37)).heap.size (w1.alloc (.cells #[.int .i64 0, .int .i64 0, .slice none 0 0] 37)) w') => MapK.look (MapG.kept HMK.out hb) hg64
    have hrs : r = lkF Ls id := by rw [hrr, hx]; rfl
    subst hrs
    have he : firstG Ls id = (lkF Ls id).map lrhW := rfl
    simp only [he, Option.isSome_map] at hlk
    obtain ⟨y, hy⟩ : ∃ y, ((lkF Ls id).map lrhW).getD kh0 = y := ⟨_, rfl⟩
    obtain ⟨q, hq2⟩ : ∃ q, (lkF Ls id).isSome = q := ⟨_, rfl⟩
    simp only [hy, hq2] at hlk ⊢
    obtain ⟨y1, y2, ⟨ya, yn, yc⟩⟩ := y
    replace hlk : ∀ w', Below (w1.alloc (.cells #[.int .i64 0, .int .i64 0, .slice none 0 0] 37)).heap.size (w1.alloc (.cells #[.int .i64 0, .int .i64 0, .slice none 0 0] 37)) w' → (Instr.lookup 74 (.map (some mb)) (.int .i64 id) true).run Try.prog w' = .ok (.tuple #[.agg #[.int .i64 y1, .int .i64 y2, .slice ya yn yc], .bool q]) w' := hlk
    have HLK := Lib.hid hlk
    show Calls _ _ _ _ fun e w' => e = .returned (.tuple #[.agg #[.int .i64 y1, .int .i64 y2, .slice ya yn yc], .bool q]) ∧ _
    obtain ⟨j, rfl⟩ : ∃ j : Nat, go = (j : Int) := ⟨go.toNat, by omega⟩
    rw [Int.toNat_natCast] at HM0
    have hq : (decide ((0 : Int) ≤ (j : Int)) && decide ((j : Int) < (n : Int))) = true := by rw [decide_eq_true h.1, decide_eq_true h.2]; rfl
    rw [hq] at GW
    have j0 : (0 : Int) ≤ (j : Int) := by omega
    have j1 : (j : Int) < (n : Int) := h.2
    have j2 : (j : Int) ≤ 1000 := by omega
    subst hw1
    clear hjl h hx hg64 z0 z1 hid m0 hlk hrr he hy hq2 hnone hat h64 hn hw hq HIK HMK
    go_enter Try.func49, Try.ntmps49
    go_upto_region 1 with fail
    generalize (w.alloc (.cells #[.int .i64 tk, .int .i64 ta, .int .i64 wo, .int .i64 un, .int .i64 du, .int .i64 (j : Int), .slice (some ⟨g2, o2, none⟩) n xc] 35)).alloc (.cells #[.int .i64 0, .int .i64 0, .slice none 0 0] 37) = w2 at *
    go_upto_region 3 with (go_at_call 37; (with_reducible refine (GW.out _).mono ?_); rintro e w3 ⟨rfl, b3⟩; have HB3 := Lib.hid b3; clear b3)
    have HY3 := Lib.hid (HY.out.kept HB3.out)
    clear hx0 hx1 hx2 hx3 hx4 hx5 hx6
    have hP0 := Blk.new w3 [.int .i64 0, .int .i64 0, .slice none 0 0] 37
    have hbA : Below w3.heap.size w3 w3 := (Below.refl w3.heap.size w3)
    have c0A := ((HBK.out.kept HB3.out).kept hbA).cell 0 rfl
    have x5A := ((HX.out.kept HB3.out).kept hbA).cell 5 rfl
    have x6A := ((HX.out.kept HB3.out).kept hbA).cell 6 rfl
    have m0A := ((HB3.out.trans (hbA.mono HB3.out.size)).cell (World.block_lt_of_cell? _ _ HM0.out)).trans HM0.out
    have flA := HLK.out _ (HB3.out.trans (hbA.mono HB3.out.size))
    have hbB : Below w3.heap.size w3 w3.drew := (Below.refl w3.heap.size w3).drew
    have c0B := ((HBK.out.kept HB3.out).kept hbB).cell 0 rfl
    have x5B := ((HX.out.kept HB3.out).kept hbB).cell 5 rfl
    have x6B := ((HX.out.kept HB3.out).kept hbB).cell 6 rfl
    have m0B := ((HB3.out.trans (hbB.mono HB3.out.size)).cell (World.block_lt_of_cell? _ _ HM0.out)).trans HM0.out
    have flB := HLK.out _ (HB3.out.trans (hbB.mono HB3.out.size))
    have hbC : Below w3.heap.size w3 (w3.alloc (.cells #[.int .i64 0, .int .i64 0, .slice none 0 0] 37)) := ((Below.refl w3.heap.size w3).alloc (Nat.le_refl _) (.cells #[.int .i64 0, .int .i64 0, .slice none 0 0] 37))
    have c0C := ((HBK.out.kept HB3.out).kept hbC).cell 0 rfl
    have x5C := ((HX.out.kept HB3.out).kept hbC).cell 5 rfl
    have x6C := ((HX.out.kept HB3.out).kept hbC).cell 6 rfl
    have m0C := ((HB3.out.trans (hbC.mono HB3.out.size)).cell (World.block_lt_of_cell? _ _ HM0.out)).trans HM0.out
    have flC := HLK.out _ (HB3.out.trans (hbC.mono HB3.out.size))
    have hbD : Below w3.heap.size w3 (w3.alloc (.cells #[.int .i64 0, .int .i64 0, .slice none 0 0] 37)).drew := ((Below.refl w3.heap.size w3).alloc (Nat.le_refl _) (.cells #[.int .i64 0, .int .i64 0, .slice none 0 0] 37)).drew
    have c0D := ((HBK.out.kept HB3.out).kept hbD).cell 0 rfl
    have x5D := ((HX.out.kept HB3.out).kept hbD).cell 5 rfl
    have x6D := ((HX.out.kept HB3.out).kept hbD).cell 6 rfl
    have m0D := ((HB3.out.trans (hbD.mono HB3.out.size)).cell (World.block_lt_of_cell? _ _ HM0.out)).trans HM0.out
    have flD := HLK.out _ (HB3.out.trans (hbD.mono HB3.out.size))
    have hPC : Blk (w3.alloc (.cells #[.int .i64 0, .int .i64 0, .slice none 0 0] 37)) w3.heap.size [.int .i64 0, .int .i64 0, .slice none 0 0] := hP0
    have p0C := hPC.cell 0 rfl
    have z0C := hPC.free 0 rfl
    have p1C := hPC.cell 1 rfl
    have z1C := hPC.free 1 rfl
    have p2C := hPC.cell 2 rfl
    have z2C := hPC.free 2 rfl
    have hPD : Blk (w3.alloc (.cells #[.int .i64 0, .int .i64 0, .slice none 0 0] 37)).drew w3.heap.size [.int .i64 0, .int .i64 0, .slice none 0 0] := hP0
    have p0D := hPD.cell 0 rfl
    have z0D := hPD.free 0 rfl
    have p1D := hPD.cell 1 rfl
    have z1D := hPD.free 1 rfl
    have p2D := hPD.cell 2 rfl
    have z2D := hPD.free 2 rfl
    clear hP0 hbA hbB hbC hbD
    go_cut [5, 6] (fun a5 a6 wx => a5 = .pointer (some ⟨w3.heap.size, 0, none⟩) ∧ a6 = .bool q ∧ Hid (Blk wx w3.heap.size [.int .i64 y1, .int .i64 y2, .slice ya yn yc]) ∧ Below w3.heap.size w3 wx)
    case first =>
      have hbE : Below w3.heap.size w3 (w3.alloc (.cells #[.int .i64 y1, .int .i64 y2, .slice ya yn yc] 37)).drew := ((Below.refl w3.heap.size w3).alloc (Nat.le_refl _) (.cells #[.int .i64 y1, .int .i64 y2, .slice ya yn yc] 37)).drew
      have hPE : Blk (w3.alloc (.cells #[.int .i64 y1, .int .i64 y2, .slice ya yn yc] 37)).drew w3.heap.size [.int .i64 y1, .int .i64 y2, .slice ya yn yc] := Blk.new w3 [.int .i64 y1, .int .i64 y2, .slice ya yn yc] 37
      have HPE := Lib.hid hPE
      clear hPE
      go_region
      all_goals (
        go_wp2
        go_meet
        exact ⟨rfl, rfl, HPE.out, hbE⟩)
    case rest =>
      obtain ⟨rfl, rfl, hP5, hb5⟩ := hcut
      clear c0A x5A x6A m0A flA c0B x5B x6B m0B flB c0C x5C x6C m0C flC c0D x5D x6D m0D flD p0C z0C p1C z1C p2C z2C p0D z0D p1D z1D p2D z2D hPC hPD
      have hP5 := hP5.out
      have hY5 := HY3.out.kept hb5
      have hB5 := HB.out.trans ((HB3.out.trans (hb5.mono HB3.out.size)).mono HB.out.size)
      have q0 := hP5.cell 0 rfl
      have q1 := hP5.cell 1 rfl
      have q2 := hP5.cell 2 rfl
      have c0 := hY5.cell 0 rfl
      have c1 := hY5.cell 1 rfl
      have c2 := hY5.cell 2 rfl
      have z0 := hY5.free 0 rfl
      have z1 := hY5.free 1 rfl
      have z2 := hY5.free 2 rfl
      have hY6 := ((hY5.set 0 (.int .i64 y1)).set 1 (.int .i64 y2)).set 2 (.slice ya yn yc)
      have r0 := hY6.cell 0 rfl
      have r1 := hY6.cell 1 rfl
      have r2 := hY6.cell 2 rfl
      have HB6 := Lib.hid (((hB5.setCell (p := ⟨w.heap.size + 1, 0, none⟩) (by simp) (.int .i64 y1)).setCell (p := ⟨w.heap.size + 1, 1, none⟩) (by simp) (.int .i64 y2)).setCell (p := ⟨w.heap.size + 1, 2, none⟩) (by simp) (.slice ya yn yc))
      clear hP5 hY5 hY6 hB5 hb5
      go_wp2
      exact bodyPost_ret (v := .tuple #[.agg #[.int .i64 y1, .int .i64 y2, .slice ya yn yc], .bool q]) (by simp [results, Try.results49, go_sem, r0, r1, r2]) rfl ⟨rfl, HB6.out⟩
  · have hx := hnone h
    subst hx
    have hq : (decide (0 ≤ go) && decide (go < (n : Int))) = false := by
      rw [Bool.eq_false_iff]
      intro h2
      rw [Bool.and_eq_true, decide_eq_true_eq, decide_eq_true_eq] at h2
      exact h h2
    rw [hq] at GW
    have hrs : r = none := hrr
    subst hrs
    show Calls _ _ _ _ fun e w' => e = .returned (.tuple #[.agg #[.int .i64 0, .int .i64 0, .slice none 0 0], .bool false]) ∧ _
    subst hw1
    clear h hat hnone h64 hq hrr HIK HMK hn hw
    go_enter Try.func49, Try.ntmps49
    go_upto_region 1 with fail
    generalize (w.alloc (.cells #[.int .i64 tk, .int .i64 ta, .int .i64 wo, .int .i64 un, .int .i64 du, .int .i64 go, .slice xa n xc] 35)).alloc (.cells #[.int .i64 0, .int .i64 0, .slice none 0 0] 37) = w2 at *
    go_upto_region 2 with (go_at_call 37; (with_reducible refine (GW.out _).mono ?_); rintro e w3 ⟨rfl, b3⟩; have HB3 := Lib.hid b3; clear b3)
    clear hx0 hx1 hx2 hx3 hx4 hx5 hx6
    have hY3 := HY.out.kept HB3.out
    have c0 := hY3.cell 0 rfl
    have c1 := hY3.cell 1 rfl
    have c2 := hY3.cell 2 rfl
    have z0 := hY3.free 0 rfl
    have z1 := hY3.free 1 rfl
    have z2 := hY3.free 2 rfl
    have hY6 := ((hY3.set 0 (.int .i64 0)).set 1 (.int .i64 0)).set 2 (.slice none 0 0)
    have r0 := hY6.cell 0 rfl
    have r1 := hY6.cell 1 rfl
    have r2 := hY6.cell 2 rfl
    have HB6 := Lib.hid ((((HB.out.trans (HB3.out.mono HB.out.size)).setCell (p := ⟨w.heap.size + 1, 0, none⟩) (by simp) (.int .i64 0)).setCell (p := ⟨w.heap.size + 1, 1, none⟩) (by simp) (.int .i64 0)).setCell (p := ⟨w.heap.size + 1, 2, none⟩) (by simp) (.slice none 0 0))
    clear hY3 hY6
    go_wp2
    exact bodyPost_ret (v := .tuple #[.agg #[.int .i64 0, .int .i64 0, .slice none 0 0], .bool false]) (by simp [results, Try.results49, go_sem, r0, r1, r2]) rfl ⟨rfl, HB6.out⟩
end Go.Proofs.Ytjmgokjljmmmgaa
/- Stage 21's program: awaitedAmong, Arcs. -/
namespace Go.Proofs.Ytjmgokjljmmmgaa
open Go.RowKit Go.Maps

/-- what awaitedAmong leaves behind its function -/
def AwtAt (B : Nat) (w : World) (b : Nat) (Ls : List Lr) : Prop := ∃ mb n, Blk w b [.map (some mb)] ∧ MapK w mb n (firstG Ls) ∧ B ≤ b ∧ B ≤ mb
theorem AwtAt.kept {B b : Nat} {w w' : World} {Ls : List Lr} (h : AwtAt B w b Ls) (hb : Below w.heap.size w w') : AwtAt B w' b Ls := by
  obtain ⟨mb, n, h1, h2, h3, h4⟩ := h
  exact ⟨mb, n, h1.kept hb, MapG.kept h2 hb, h3, h4⟩
theorem pAwtC_any {B b : Nat} {w : World} {Ls : List Lr} (h : AwtAt B w b Ls) (x : Le) (hi : IntsAt w (.slice x.a x.want.length x.c) x.want) (hw : x.want.length ≤ 1000) (h64 : ∀ t ∈ x.want, I64 t) :
    Calls Try.prog 49 #[lv7 x.token x.task x.worker x.unit x.due x.got (.slice x.a x.want.length x.c), .pointer (some ⟨b, 0, none⟩)] w fun e w' => e = .returned (.tuple #[khv (((awX Ls x).map lrhW).getD kh0), .bool (awX Ls x).isSome]) ∧ Below w.heap.size w w' := by
  obtain ⟨mb, n, h1, h2, _⟩ := h
  exact pAwt1_any x Ls b mb n w h1 h2 hi hw h64
set_option maxHeartbeats 8000000 in
set_option maxRecDepth 100000 in
theorem pAwaited_any (vl : Value) (Ls : List Lr) (W : World) (hl : RowsAt W 3 csL vl Ls) (hll : Ls.length ≤ 1000) (h64 : ∀ x ∈ Ls, I64 x.id) :
    Calls Try.prog 26 #[vl] W fun e w' => ∃ b, e = .returned (.func (.func 49) #[] #[.pointer (some ⟨b, 0, none⟩)]) ∧ AwtAt W.heap.size w' b Ls ∧ Below W.heap.size W w' := by
  have hmf : ∀ (fn : Fn) (first cap : Array Value) (w : World), (Instr.makeFunc fn first cap).run Try.prog w = .ok (.func fn first cap) w := fun _ _ _ _ => rfl
  have HL := Lib.hid hl
  have HLL := Lib.hid hll
  have H64 := Lib.hid h64
  obtain ⟨al, cl, rfl⟩ := RowsAt.form hl
  obtain ⟨P, hP⟩ : ∃ P : World → Nat → Prop, (fun w b => AwtAt W.heap.size w b Ls) = P := ⟨_, rfl⟩
  have HP := Lib.hid (show ∀ w b, AwtAt W.heap.size w b Ls → P w b from fun w b h => by rw [← hP]; exact h)
  suffices hs : Calls Try.prog 26 #[.slice al Ls.length cl] W fun e w' => ∃ b, e = .returned (.func (.func 49) #[] #[.pointer (some ⟨b, 0, none⟩)]) ∧ P w' b ∧ Below W.heap.size W w' by
    rw [← hP] at hs
    exact hs
  have hmk : (Instr.makeMap 74 none).run Try.prog W = .ok (.map (some W.heap.size)) (W.alloc (.map #[] 0)) := by kernel_rfl
  have hz : (W.alloc (.map #[] 0)).heap.size = W.heap.size + 1 := by simp
  have hal1 := (Below.refl W.heap.size W).alloc (Nat.le_refl _) (.map #[] 0)
  have hal2 := (Below.refl (W.alloc (.map #[] 0)).heap.size (W.alloc (.map #[] 0))).alloc (Nat.le_refl _) (.cells #[.map (some W.heap.size)] 74)
  have hX := Blk.new (W.alloc (.map #[] 0)) [.map (some W.heap.size)] 74
  rw [hz] at hX
  have hm0 := MapG.kept (MapK.new W) hal2
  have hb0 := hal1.trans (hal2.mono hal1.size)
  clear hl hll h64 hP hal1 hal2 hz
  go_enter Try.func26, Try.ntmps26
  go_wp2
  clear hmk
  generalize (W.alloc (.map #[] 0)).alloc (.cells #[.map (some W.heap.size)] 74) = w1 at *
  replace hX : Blk w1 (W.heap.size + 1) [.map (some W.heap.size)] := hX
  go_loopg [11] Ls.length (fun kx iv ws => ∃ (k m : Nat), k ≤ Ls.length ∧ Ls.length - k ≤ kx ∧ iv = .int .i64 k ∧ Hid (m ≤ k) ∧ Hid (MapK ws W.heap.size m (firstG (Ls.take k))) ∧ Hid (Blk ws (W.heap.size + 1) [.map (some W.heap.size)]) ∧ Hid (Below W.heap.size W ws))
  case atStart => exact ⟨0, 0, Nat.zero_le _, Nat.le_refl _, rfl, Nat.le_refl _, hm0, hX, hb0⟩
  case round =>
    clear hm0 hX hb0
    obtain ⟨k, m, hk, hkx, rfl, HM, HMK, HBK, HB⟩ := hrel
    by_cases hlt : k < Ls.length
    · have HLT := Lib.hid (And.intro hlt hkx)
      have k0 : (0 : Int) ≤ (k : Int) := by omega
      have k1 : (k : Int) < (Ls.length : Int) := by omega
      have k2 : (k : Int) ≤ 1000 := by have := HLL.out; omega
      obtain ⟨g, o, cc, e, z0, z1, p0, p1, p2⟩ := RowsAt.atL (RowsAt.kept HL.out HB.out) k hlt
      cases e
      clear z0 z1
      have hsn : Ls.take (k + 1) = Ls.take k ++ [Ls[k]] := List.take_succ_eq_append_getElem hlt
      have h64 := H64.out _ (List.getElem_mem hlt)
      obtain ⟨x, hx⟩ : ∃ x, Ls[k]'hlt = x := ⟨_, rfl⟩
      rw [hx] at p0 p1 p2 hsn h64
      have hold := fun h => lkF_old (Ps := Ls.take k) (x := x) h
      have hnew := fun h => lkF_new (Ps := Ls.take k) (x := x) h
      rw [← hsn] at hold hnew
      have hbx := (Below.refl wr.heap.size wr).alloc (Nat.le_refl _) (.cells #[.int .i64 x.id, .int .i64 x.holder, .slice x.a x.wait.length x.c] 37)
      have hX := Blk.new wr [.int .i64 x.id, .int .i64 x.holder, .slice x.a x.wait.length x.c] 37
      have hlk := MapK.look (MapG.kept HMK.out hbx) h64
      rw [firstG_is] at hlk
      have hnh : khv (lrhW x) = .agg #[.int .i64 x.id, .int .i64 x.holder, .slice x.a x.wait.length x.c] := rfl
      obtain ⟨q, hq⟩ : ∃ q, decide (x.id ∈ idsL (Ls.take k)) = q := ⟨_, rfl⟩
      rw [hq] at hlk
      obtain ⟨y, hy⟩ : ∃ y, ((firstG (Ls.take k)) x.id).getD kh0 = y := ⟨_, rfl⟩
      rw [hy] at hlk
      obtain ⟨y1, y2, ⟨ya, yn, yc⟩⟩ := y
      have HOLD := Lib.hid (show q = true → firstG (Ls.take (k + 1)) = firstG (Ls.take k) from fun h => hold (of_decide_eq_true (hq.trans h)))
      have HNEW := Lib.hid (show q = false → updG (firstG (Ls.take k)) x.id (some (lrhW x)) = firstG (Ls.take (k + 1)) from fun h => hnew (of_decide_eq_false (hq.trans h)))
      have HX64 := Lib.hid h64
      have HBX := Lib.hid hbx
      obtain ⟨z, hz⟩ : ∃ z, lrhW x = z := ⟨_, rfl⟩
      rw [hz] at HNEW hnh
      obtain ⟨id, hh, xa, xc, xw⟩ := x
      simp only at p0 p1 hX hlk hnh HNEW HX64 HBX
      change _ = some (Value.slice xa xw.length xc) at p2
      replace hlk : (Instr.lookup 74 (.map (some W.heap.size)) (.int .i64 id) true).run Try.prog _ = .ok (.tuple #[.agg #[.int .i64 y1, .int .i64 y2, .slice ya yn yc], .bool q]) _ := hlk
      generalize xw.length = xn at *
      have HNH := Lib.hid hnh
      have HXB := Lib.hid hX
      have HBK3 := Lib.hid (HBK.out.kept hbx)
      have HMK3 := Lib.hid (MapG.kept HMK.out hbx)
      have HB3 := Lib.hid (HB.out.trans (hbx.mono HB.out.size))
      clear hk hkx hlt hsn h64 hold hnew hq hy hz hx hnh hbx
      go_upto_region 5 with fail
      generalize wr.alloc (.cells #[.int .i64 id, .int .i64 hh, .slice xa xn xc] 37) = w3 at *
      generalize wr.heap.size = bx at *
      replace hX : Blk w3 bx [.int .i64 id, .int .i64 hh, .slice xa xn xc] := hX
      have x0 := hX.cell 0 rfl
      have c0 := HBK3.out.cell 0 rfl
      have hb4 := (Below.refl w3.heap.size w3).alloc (Nat.le_refl _) (.cells #[.int .i64 y1, .int .i64 y2, .slice ya yn yc] 37)
      have HM4 := Lib.hid (MapG.kept HMK3.out hb4)
      have HBK4 := Lib.hid (HBK3.out.kept hb4)
      have HB4 := Lib.hid (HB3.out.trans (hb4.mono HB3.out.size))
      have HX4 := Lib.hid (HXB.out.kept hb4)
      clear hX p0 p1 p2 hb4
      go_upto_region 6 with fail
      clear x0 c0 hlk
      generalize w3.alloc (.cells #[.int .i64 y1, .int .i64 y2, .slice ya yn yc] 37) = w4 at *
      cases q with
      | true =>
        have hmk := HM4.out
        rw [← HOLD.out rfl] at hmk
        have HM5 := Lib.hid hmk
        clear hmk
        go_wp2
        go_roundg (Ls.length - (k + 1))
        case measure => have := HLT.out; omega
        case rel => exact ⟨k + 1, m, by have := HLT.out; omega, Nat.le_refl _, by go_num, (by show m ≤ k + 1; have := HM.out; omega), HM5.out, HBK4.out, HB4.out⟩
      | false =>
        obtain ⟨w5, hrun, hm5, hg5⟩ := MapK.put HM4.out (by have := HM.out; omega) HX64.out z
        rw [HNEW.out rfl] at hm5
        rw [HNH.out] at hrun
        have HM5 := Lib.hid hm5
        have HBK5 := Lib.hid (Blk.grown HBK4.out hg5 (fun e => by have := Option.some.inj e; omega))
        have HB5 := Lib.hid (HB4.out.grown hg5 HB4.out.size (fun k hk => by rw [← Option.some.inj hk]; exact Nat.le_refl _))
        have HMM := Lib.hid (show (if (firstG (Ls.take k) id).isSome = true then m else m + 1) ≤ k + 1 by have := HM.out; split <;> omega)
        have x0 := HX4.out.cell 0 rfl
        have x1 := HX4.out.cell 1 rfl
        have x2 := HX4.out.cell 2 rfl
        have c0 := HBK4.out.cell 0 rfl
        clear hm5 hg5
        go_wp2
        clear hrun x0 x1 x2 c0
        go_roundg (Ls.length - (k + 1))
        case measure => have := HLT.out; omega
        case rel => exact ⟨k + 1, _, by have := HLT.out; omega, Nat.le_refl _, by go_num, HMM.out, HM5.out, HBK5.out, HB5.out⟩
    · have k1 : ¬ (k : Int) < (Ls.length : Int) := by omega
      have hmk := HMK.out
      rw [show Ls.take k = Ls from List.take_of_length_le (by omega)] at hmk
      have HM2 := Lib.hid hmk
      clear hk hkx hlt hmk HMK
      go_wp2
      go_ret
      exact ⟨_, rfl, HP.out _ _ ⟨_, _, HBK.out, HM2.out, by omega, Nat.le_refl _⟩, HB.out⟩
end Go.Proofs.Ytjmgokjljmmmgaa
/- Stage 21's program: Arcs. -/
namespace Go.Proofs.Ytjmgokjljmmmgaa
open Go.RowKit Go.Maps

theorem appArc {ops : Array Oper} {rest : List Oper} {o : Oper} {a : Act} {Q : Exit → Act → World → Prop} {B : Nat} {w : World} (x : Arc16) {v : Value} {l : List Arc16} (hown : OwnR w B 39 2 csArc v l) (hB : B ≤ w.heap.size) (hl : l.length ≤ 1000000)
    (hgd : o.guard = none) (s y : Operand) (ho : o.op = .call { callee := .builtin .append, args := #[s, y], argTypes := #[27, 27] }) (hs : a.eval s = v) (hx : a.eval y = .slice (some ⟨w.heap.size, 0, none⟩) 1 1)
    (hK : ∀ v' w', OwnR w' B 39 2 csArc v' (l ++ [x]) → Below B w w' → wpList Try.prog ops Q rest (a.put o.dst v') w') : wpList Try.prog ops Q (o :: rest) a (w.alloc (.cells #[.int .i64 x.src, .int .i64 x.dst] 39)) := by
  obtain ⟨i, hi, hz, hs1, hb1⟩ := info_parts info_arc
  exact appK csArc_len (by decide) csArc_one 39 27 i _ 16 Try.underlying27 hi hz hs1 hb1 rfl (by decide) hown hB hl hgd s y ho hs hx fun v' w' h1 h2 _ _ => hK v' w' h1 h2
theorem arcX_of (Ls : List Lr) (x : Le) : arcX Ls x = if (awX Ls x).isSome = true ∧ (((awX Ls x).map lrhW).getD kh0).holder ≠ 0 then some ⟨x.token, (((awX Ls x).map lrhW).getD kh0).holder⟩ else none := by
  unfold arcX
  cases h : awX Ls x with
  | none => simp
  | some k =>
    by_cases e : k.holder = 0
    · simp [e, lrhW]
    · simp [e, lrhW]
set_option maxHeartbeats 16000000 in
set_option maxRecDepth 100000 in
theorem pArcs_any (vx vl : Value) (Xs : List Le) (Ls : List Lr) (W : World) (hx : LeasesAt W vx Xs) (hl : LocksAt W vl Ls) (hxl : Xs.length ≤ 1000) (hll : Ls.length ≤ 1000) (hxw : ∀ x ∈ Xs, x.want.length ≤ 1000) (hx64 : ∀ x ∈ Xs, ∀ t ∈ x.want, I64 t) (hl64 : ∀ x ∈ Ls, I64 x.id) :
    Calls Try.prog 11 #[vx, vl] W fun e w' => ∃ v, e = .returned v ∧ OwnR w' W.heap.size 39 2 csArc v (arcsW Xs Ls) ∧ Below W.heap.size W w' := by
  have HX := Lib.hid hx
  have HXL := Lib.hid hxl
  have HXW := Lib.hid hxw
  have HX64 := Lib.hid hx64
  have HAW := Lib.hid (pAwaited_any vl Ls W hl.rows hll hl64)
  obtain ⟨ax, cx, rfl⟩ := RowsAt.form hx.rows
  obtain ⟨R, hR⟩ : ∃ R, arcsW Xs Ls = R := ⟨_, rfl⟩
  rw [hR]
  have HR := Lib.hid hR
  clear hx hl hxl hll hxw hx64 hl64 hR
  go_enter Try.func11, Try.ntmps11
  go_wp2_with (go_at_call 26; (with_reducible refine HAW.out.mono ?_); rintro e w1 ⟨b, rfl, h1, b1⟩; have HA1 := Lib.hid h1; have HB1 := Lib.hid b1; clear h1 b1)
  go_loopg [5, 15] Xs.length (fun kx sv iv ws => ∃ k : Nat, k ≤ Xs.length ∧ Xs.length - k ≤ kx ∧ iv = .int .i64 k ∧ Hid (OwnR ws w1.heap.size 39 2 csArc sv (arcsW (Xs.take k) Ls)) ∧ Hid (Below w1.heap.size w1 ws))
  case atStart => exact ⟨0, Nat.zero_le _, Nat.le_refl _, rfl, OwnR.nil _ _ _ _ _, Below.refl _ _⟩
  case round =>
    obtain ⟨k, hk, hkx, rfl, HO, HB⟩ := hrel
    obtain ⟨aT, cT, e⟩ := RowsAt.form (OwnR.rows csArc_len HO.out)
    subst e
    have HBW := Lib.hid (HB1.out.trans (HB.out.mono HB1.out.size))
    by_cases hlt : k < Xs.length
    · have HLT := Lib.hid (And.intro hlt hkx)
      have k0 : (0 : Int) ≤ (k : Int) := by omega
      have k1 : (k : Int) < (Xs.length : Int) := by omega
      have k2 : (k : Int) ≤ 1000 := by have := HXL.out; omega
      obtain ⟨g, o, cc, e, z0, z1, p0, p1, p2, p3, p4, p5, p6⟩ := leaseAt (RowsAt.kept HX.out.rows HBW.out) k hlt
      cases e
      clear z0 z1
      have hm := List.getElem_mem hlt
      have hxi := (HX.out.each _ hm).below HBW.out
      have hxw := HXW.out _ hm
      have h64 := HX64.out _ hm
      have hnx := arcs_next Xs Ls k hlt
      have hal : (arcsW (Xs.take k) Ls).length ≤ 1000 := by
        have := arcs_len (Xs.take k) Ls
        rw [List.length_take] at this
        have := HXL.out
        omega
      obtain ⟨x, hx⟩ : ∃ x, Xs[k]'hlt = x := ⟨_, rfl⟩
      rw [hx] at p0 p1 p2 p3 p4 p5 p6 hxi hxw h64 hnx
      rw [arcX_of] at hnx
      have hbx := (Below.refl wr.heap.size wr).alloc (Nat.le_refl _) (.cells #[.int .i64 x.token, .int .i64 x.task, .int .i64 x.worker, .int .i64 x.unit, .int .i64 x.due, .int .i64 x.got, .slice x.a x.want.length x.c] 35)
      have hX := Blk.new wr [.int .i64 x.token, .int .i64 x.task, .int .i64 x.worker, .int .i64 x.unit, .int .i64 x.due, .int .i64 x.got, .slice x.a x.want.length x.c] 35
      have hA := HA1.out.kept (HB.out.trans (hbx.mono HB.out.size))
      have GC := Lib.hid (pAwtC_any hA x (hxi.below hbx) hxw h64)
      obtain ⟨y, hy⟩ : ∃ y, ((awX Ls x).map lrhW).getD kh0 = y := ⟨_, rfl⟩
      obtain ⟨q, hq⟩ : ∃ q, (awX Ls x).isSome = q := ⟨_, rfl⟩
      rw [hy, hq] at hnx
      simp only [hy, hq] at GC
      obtain ⟨y1, y2, ⟨ya, yn, yc⟩⟩ := y
      obtain ⟨tk, ta, wo, un, du, go, xa, xc, xw⟩ := x
      simp only at p0 p1 p2 p3 p4 p5 hX hbx hnx GC
      change _ = some (Value.slice xa xw.length xc) at p6
      replace GC : Hid (Calls Try.prog 49 #[.agg #[.int .i64 tk, .int .i64 ta, .int .i64 wo, .int .i64 un, .int .i64 du, .int .i64 go, .slice xa xw.length xc], .pointer (some ⟨b, 0, none⟩)] _ fun e w' => e = .returned (.tuple #[.agg #[.int .i64 y1, .int .i64 y2, .slice ya yn yc], .bool q]) ∧ Below _ _ w') := GC
      generalize xw.length = xn at *
      have HXB := Lib.hid hX
      have HNX := Lib.hid hnx
      have HAL := Lib.hid hal
      have HOX := Lib.hid (OwnR.kept HO.out hbx)
      have HB3 := Lib.hid (HB.out.trans (hbx.mono HB.out.size))
      generalize arcsW (Xs.take k) Ls = D at *
      clear hk hkx hlt hm hxi hxw h64 hnx hal hx hA hy hq HO
      go_upto_region 6 with fail
      generalize wr.alloc (.cells #[.int .i64 tk, .int .i64 ta, .int .i64 wo, .int .i64 un, .int .i64 du, .int .i64 go, .slice xa xn xc] 35) = w3 at *
      replace hX : Blk w3 wr.heap.size [.int .i64 tk, .int .i64 ta, .int .i64 wo, .int .i64 un, .int .i64 du, .int .i64 go, .slice xa xn xc] := hX
      generalize wr.heap.size = bx at *
      have x0 := hX.cell 0 rfl
      have x1 := hX.cell 1 rfl
      have x2 := hX.cell 2 rfl
      have x3 := hX.cell 3 rfl
      have x4 := hX.cell 4 rfl
      have x5 := hX.cell 5 rfl
      have x6 := hX.cell 6 rfl
      clear hX hbx p0 p1 p2 p3 p4 p5 p6
      go_upto_region 7 with (go_at_call 49; (with_reducible refine GC.out.mono ?_); rintro e w4 ⟨rfl, b4⟩; have HB4 := Lib.hid b4; clear b4)
      clear x0 x1 x2 x3 x4 x5 x6
      have hal5 := (Below.refl w4.heap.size w4).alloc (Nat.le_refl _) (.cells #[.int .i64 y1, .int .i64 y2, .slice ya yn yc] 37)
      have hY := Blk.new w4 [.int .i64 y1, .int .i64 y2, .slice ya yn yc] 37
      have HO5 := Lib.hid (OwnR.kept (OwnR.kept HOX.out HB4.out) hal5)
      have HB5 := Lib.hid (HB3.out.trans ((HB4.out.trans (hal5.mono HB4.out.size)).mono HB3.out.size))
      have hX5 := (HXB.out.kept HB4.out).kept hal5
      generalize w4.alloc (.cells #[.int .i64 y1, .int .i64 y2, .slice ya yn yc] 37) = w5 at *
      replace hY : Blk w5 w4.heap.size [.int .i64 y1, .int .i64 y2, .slice ya yn yc] := hY
      have x0 := hX5.cell 0 rfl
      have q1 := hY.cell 1 rfl
      clear hX5 hY hal5
      cases q with
      | false =>
        have HN2 := Lib.hid (show arcsW (Xs.take (k + 1)) Ls = D from by rw [HNX.out, if_neg (by simp)]; exact List.append_nil D)
        clear x0 q1
        go_wp2
        go_roundg (Xs.length - (k + 1))
        case measure => have := HLT.out; omega
        case rel => exact ⟨k + 1, by have := HLT.out; omega, Nat.le_refl _, by go_num, by rw [HN2.out]; exact HO5.out, HB5.out⟩
      | true =>
        by_cases hz : y2 = 0
        · have HN2 := Lib.hid (show arcsW (Xs.take (k + 1)) Ls = D from by rw [HNX.out, if_neg (by simp [hz])]; exact List.append_nil D)
          subst hz
          go_wp2
          go_roundg (Xs.length - (k + 1))
          case measure => have := HLT.out; omega
          case rel => exact ⟨k + 1, by have := HLT.out; omega, Nat.le_refl _, by go_num, by rw [HN2.out]; exact HO5.out, HB5.out⟩
        · have HN2 := Lib.hid (show arcsW (Xs.take (k + 1)) Ls = D ++ [⟨tk, y2⟩] from by rw [HNX.out, if_pos ⟨rfl, hz⟩]; rfl)
          have hz2 : (y2 == 0) = false := beq_noI hz
          have hz3 : (y2 != 0) = true := by simp [hz]
          go_wp2_with (at_builtin; refine appArc ⟨tk, y2⟩ HO5.out HB5.out.size (by have := HAL.out; omega) rfl _ _ rfl rfl rfl ?_; intro v6 w6 o6 b6; have HO6 := Lib.hid o6; have HB6 := Lib.hid (HB5.out.trans b6); clear o6 b6 x0 q1)
          go_roundg (Xs.length - (k + 1))
          case measure => have := HLT.out; omega
          case rel => exact ⟨k + 1, by have := HLT.out; omega, Nat.le_refl _, by go_num, by rw [HN2.out]; exact HO6.out, HB6.out⟩
    · have k1 : ¬ (k : Int) < (Xs.length : Int) := by omega
      have ho := HO.out
      rw [show Xs.take k = Xs from List.take_of_length_le (by omega), HR.out] at ho
      have hl : arcsW (Xs.take k) Ls = R := by rw [List.take_of_length_le (by omega), HR.out]
      rw [hl]
      have HO2 := Lib.hid ho
      clear hk hkx hlt ho HO hl
      go_wp2
      go_ret
      exact ⟨_, rfl, OwnR.base13 HO2.out HB1.out.size, HBW.out⟩
end Go.Proofs.Ytjmgokjljmmmgaa
/- Stage 13: rows of things in order: plain mathematics. -/
namespace Go.Proofs.Ytjmgokjljmmmgaa

structure Th where
  id : Int
  key : Int
  seq : Int
deriving DecidableEq, Inhabited

def ahead (a b : Th) : Bool := if a.key ≠ b.key then decide (b.key < a.key) else if a.seq ≠ b.seq then decide (a.seq < b.seq) else decide (a.id < b.id)
theorem ahead_iff (a b : Th) : ahead a b = true ↔ b.key < a.key ∨ (a.key = b.key ∧ (a.seq < b.seq ∨ (a.seq = b.seq ∧ a.id < b.id))) := by
  unfold ahead
  by_cases h1 : a.key = b.key
  · rw [if_neg (by simpa using h1)]
    by_cases h2 : a.seq = b.seq
    · rw [if_neg (by simpa using h2), decide_eq_true_iff]
      omega
    · rw [if_pos h2, decide_eq_true_iff]
      omega
  · rw [if_pos h1, decide_eq_true_iff]
    omega
theorem ahead_trans {a b c : Th} (h1 : ahead a b = true) (h2 : ahead b c = true) : ahead a c = true := by
  rw [ahead_iff] at *
  omega
theorem ahead_else {a b : Th} (h : ahead a b = false) (hne : a.id ≠ b.id) : ahead b a = true := by
  have h' : ¬ ahead a b = true := by rw [h]; decide
  rw [ahead_iff] at *
  omega
theorem ahead_irr (a : Th) : ahead a a = false := by
  cases h : ahead a a with
  | false => rfl
  | true => rw [ahead_iff] at h; omega
theorem ahead_asym {a b : Th} (h : ahead a b = true) : ahead b a = false := by
  cases h2 : ahead b a with
  | false => rfl
  | true => rw [ahead_iff] at h h2; omega

/-- what is left without id -/
def dropT (l : List Th) (id : Int) : List Th := l.filter fun x => decide (x.id ≠ id)
theorem dropT_take (l : List Th) (id : Int) (k : Nat) (hk : k < l.length) : dropT (l.take (k + 1)) id = dropT (l.take k) id ++ (if l[k].id = id then [] else [l[k]]) := by
  rw [List.take_succ_eq_append_getElem hk]
  unfold dropT
  rw [List.filter_append]
  congr 1
  by_cases h : l[k].id = id <;> simp [h]
theorem dropT_len (l : List Th) (id : Int) : (dropT l id).length ≤ l.length := List.length_filter_le _ _
theorem dropT_mem (l : List Th) (id : Int) (x : Th) : x ∈ dropT l id ↔ x ∈ l ∧ x.id ≠ id := by simp [dropT]
/-- is there none of it -/
def hasT (l : List Th) (id : Int) : Bool := decide ((dropT l id).length < l.length)
/-- ahead of the first one that it is ahead of -/
def insT (x : Th) : List Th → List Th
  | [] => [x]
  | r :: t => if ahead x r then x :: r :: t else r :: insT x t
theorem insT_len (x : Th) : ∀ l, (insT x l).length = l.length + 1
  | [] => rfl
  | r :: t => by
    unfold insT
    split
    · rfl
    · rw [List.length_cons, insT_len x t, List.length_cons]
theorem insT_mem (x y : Th) : ∀ l, y ∈ insT x l ↔ y = x ∨ y ∈ l
  | [] => by simp [insT]
  | r :: t => by
    unfold insT
    split
    · simp
    · rw [List.mem_cons, insT_mem x y t, List.mem_cons]
      constructor
      · rintro (h | h | h)
        · exact .inr (.inl h)
        · exact .inl h
        · exact .inr (.inr h)
      · rintro (h | h | h)
        · exact .inr (.inl h)
        · exact .inl h
        · exact .inr (.inr h)
def putT (l : List Th) (x : Th) : List Th := insT x (dropT l x.id)
theorem putT_len (l : List Th) (x : Th) : (putT l x).length ≤ l.length + 1 := by
  unfold putT
  rw [insT_len]
  have := dropT_len l x.id
  omega
def fndT (l : List Th) (id : Int) : Th × Bool := match l.find? fun x => decide (x.id = id) with
  | some x => (x, true)
  | none => (⟨0, 0, 0⟩, false)
theorem fndT_head (x : Th) (l : List Th) : fndT (x :: l) x.id = (x, true) := by simp [fndT]

/-- in order -/
def srtT (l : List Th) : Prop := l.Pairwise fun a b => ahead a b = true
theorem srtT_nil : srtT [] := List.Pairwise.nil
theorem srtT_drop {l : List Th} (h : srtT l) (id : Int) : srtT (dropT l id) := List.Pairwise.filter _ h
theorem srtT_ins {l : List Th} {x : Th} (h : srtT l) (hne : ∀ y ∈ l, y.id ≠ x.id) : srtT (insT x l) := by
  induction l with
  | nil => exact List.pairwise_singleton _ _
  | cons r t ih =>
    have h1 := List.pairwise_cons.1 h
    unfold insT
    cases hx : ahead x r with
    | true =>
      refine List.pairwise_cons.2 ⟨fun y hy => ?_, h⟩
      rcases List.mem_cons.1 hy with rfl | hy
      · exact hx
      · exact ahead_trans hx (h1.1 y hy)
    | false =>
      refine List.pairwise_cons.2 ⟨fun y hy => ?_, ih h1.2 fun y hy => hne y (List.mem_cons_of_mem _ hy)⟩
      rcases (insT_mem x y t).1 hy with rfl | hy
      · exact ahead_else hx (Ne.symm (hne r List.mem_cons_self))
      · exact h1.1 y hy
theorem srtT_put {l : List Th} (h : srtT l) (x : Th) : srtT (putT l x) := srtT_ins (srtT_drop h x.id) fun _ hy => ((dropT_mem _ _ _).1 hy).2
theorem srtT_tail {l : List Th} (h : srtT l) (k : Nat) : srtT (l.drop k) := List.Pairwise.sublist (List.drop_sublist k l) h
theorem srtT_next {l : List Th} (h : srtT l) (k : Nat) (hk : k + 1 < l.length) : ahead l[k] l[k + 1] = true := List.pairwise_iff_getElem.1 h k (k + 1) (by omega) hk (by omega)
/-- rows in order of the same things are the same -/
theorem srtT_ids {l : List Th} (h : srtT l) : ∀ a ∈ l, ∀ b ∈ l, ahead a b = false → ahead b a = false → a = b := by
  intro a ha b hb h1 h2
  obtain ⟨i, hi, rfl⟩ := List.getElem_of_mem ha
  obtain ⟨j, hj, rfl⟩ := List.getElem_of_mem hb
  rcases Nat.lt_trichotomy i j with hij | rfl | hij
  · have := List.pairwise_iff_getElem.1 h i j hi hj hij
    rw [h1] at this; cases this
  · rfl
  · have := List.pairwise_iff_getElem.1 h j i hj hi hij
    rw [h2] at this; cases this
end Go.Proofs.Ytjmgokjljmmmgaa
