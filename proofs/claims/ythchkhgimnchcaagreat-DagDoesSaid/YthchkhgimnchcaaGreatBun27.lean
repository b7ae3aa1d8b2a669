/- Texts of this proof, joined: DgI; OpenPt; OpenAis; OpenBss; OpenTk; DgL; DgRE; DgRF. -/
import Derived.Test.YthchkhgimnchcaaGreatBun26
import Derived.Deep.DeepCutAuto
import Derived.Test.YthchkhgimnchcaaGreatRows
import Derived.Lib.SmallJoins
import Derived.ChangeArms
import Derived.Deep.Strs
import Derived.OpenShut
/- Stage 24: what must come at any rate. (wip/gen/gen24I.py writes this text.) -/
namespace Go.Proofs.YthchkhgimnchcaaGreat
open Go.RowKit

abbrev a24_1 : Sp := ⟨1, 0, 0, 0, 0, 0, 0, 0, none, 0, []⟩
abbrev a24_2 (n : Nat) : Sp := ⟨2, 0, 0, 0, 0, 0, 0, 0, some ⟨n + 1, 0, none⟩, 1, [1]⟩
abbrev a24_3 (n : Nat) : Sp := ⟨3, 0, 0, 0, 0, 0, 0, 0, some ⟨n, 0, none⟩, 1, [2]⟩
abbrev L24 (n : Nat) : List Sp := [a24_3 n, a24_1, a24_2 n]
abbrev TA24 (n : Nat) : List Tk := [mkK a24_1 2, mkK (a24_2 n) 1, mkK (a24_3 n) 1]
abbrev TB24 (n : Nat) : List Tk := [mkK a24_1 4, mkK (a24_2 n) 2, mkK (a24_3 n) 1]
abbrev TC24 (n : Nat) : List Tk := [mkK a24_1 4, mkK (a24_2 n) 6, mkK (a24_3 n) 6]
theorem whole24 (n : Nat) : wholeB (L24 n) = true := (by decide +kernel : decide ((ordL [3, 1, 2] [⟨2, 3⟩, ⟨1, 2⟩]).length = (setL [3, 1, 2]).length) = true)
theorem first24 (n : Nat) : firstE (L24 n) = 0 := firstE_zero.2 fun z hz => by
  simp only [List.mem_cons, List.not_mem_nil, or_false] at hz
  rcases hz with rfl | rfl | rfl <;> exact chk_zero (by rfl) (by rfl)
theorem bchk24 (n : Nat) : bchk 5 [] (L24 n) = 0 := by
  unfold bchk
  rw [first24, whole24]
  rfl
theorem adm24 (n : Nat) : admDg 5 [] (L24 n) = (TA24 n, [1], 0) := by
  unfold admDg
  rw [if_pos (bchk24 n)]
  rfl
theorem endA24 (n : Nat) : endDg (TA24 n) 1 1 = (TB24 n, [2], 0) := by
  rw [endDg_1 (by decide +kernel : (1 : Int) ∈ [(1 : Int), 2, 3]) (by rfl)]
  rfl
theorem beh24 (n : Nat) : setL (2 :: behindT (TB24 n) 2) = [2, 3] := (by decide +kernel : setL (2 :: reachL [1, 2, 3] [⟨1, 2⟩, ⟨2, 3⟩] [3]) = [2, 3])
theorem endB24 (n : Nat) : endDg (TB24 n) 2 3 = (TC24 n, [2, 3], 0) := by
  rw [endDg_3 (by decide +kernel : (2 : Int) ∈ [(1 : Int), 2, 3]) (by rfl)]
  unfold cancDg
  rw [beh24]
  rfl

theorem SpsAt.only {F : Nat → Prop} {w w' : World} {v : Value} {L : List Sp} (h : SpsAt w v L) (ho : Only F w w') (hv : OffV F v L.length) (hx : ∀ x ∈ L, OffV F x.v x.aft.length) : SpsAt w' v L :=
  ⟨RowsAt.only h.1 ho hv, fun x hxm => RowsAt.ints (RowsAt.only (h.2 x hxm).rows ho (hx x hxm))⟩
theorem adms24 {F : Nat → Prop} {p mb : Nat} {nx : Int → List Int} {g : Int → Option Nat} {Fm : Int → Nat → Prop} (w1 : World) (h : DagP F w1 p mb 5 [] nx g Fm) :
    Calls Tryz.prog 20 #[ndv p, .slice (some ⟨w1.heap.size + 1 + 1, 0, none⟩) 3 3] (((w1.alloc (.cells #[.int .i64 2] 3)).alloc (.cells #[.int .i64 1] 3)).alloc (.cells #[.int .i64 3, .int .i64 0, .int .u64 0, .int .u64 0, .int .i64 0, .int .i64 0, .int .i64 0, .int .i64 0, .slice (some ⟨w1.heap.size, 0, none⟩) 1 1, .int .i64 1, .int .i64 0, .int .u64 0, .int .u64 0, .int .i64 0, .int .i64 0, .int .i64 0, .int .i64 0, .slice none 0 0, .int .i64 2, .int .i64 0, .int .u64 0, .int .u64 0, .int .i64 0, .int .i64 0, .int .i64 0, .int .i64 0, .slice (some ⟨w1.heap.size + 1, 0, none⟩) 1 1] 49)) (AdmsDg F w1 p mb 5 (TA24 w1.heap.size, [1], 0)) := by
  have b1 := (Below.refl w1.heap.size w1).alloc (Nat.le_refl _) (.cells #[.int .i64 2] 3)
  have f1 := IntsAt.lit w1 [2] 3
  change IntsAt (w1.alloc (.cells #[.int .i64 2] 3)) _ _ at f1
  have s1 : (w1.alloc (.cells #[.int .i64 2] 3)).heap.size = w1.heap.size + 1 := by simp
  have hlt := h.lt
  have hk1 := h.kept b1
  generalize hn : w1.heap.size = n at *
  have r0 := adm24 n
  generalize w1.alloc (.cells #[.int .i64 2] 3) = W2 at *
  have b2 := (Below.refl W2.heap.size W2).alloc (Nat.le_refl _) (.cells #[.int .i64 1] 3)
  have f2 := IntsAt.lit W2 [1] 3
  change IntsAt (W2.alloc (.cells #[.int .i64 1] 3)) _ _ at f2
  have s2 : (W2.alloc (.cells #[.int .i64 1] 3)).heap.size = n + 1 + 1 := by simp [s1]
  rw [s1] at f2
  generalize W2.alloc (.cells #[.int .i64 1] 3) = W3 at *
  have b3 := (Below.refl W3.heap.size W3).alloc (Nat.le_refl _) (.cells (flats csSp (L24 n)).toArray 49)
  have f3 := rowsLit csSp_len W3 (L24 n) 49 3 rfl
  rw [s2] at f3
  have c2 := b2.trans (b3.mono b2.size)
  have c1 := b1.trans (c2.mono (by have := b1.size; omega))
  have hs4 : SpsAt (W3.alloc (.cells (flats csSp (L24 n)).toArray 49)) (.slice (some ⟨n + 1 + 1, 0, none⟩) 3 3) (L24 n) := ⟨f3, fun x hx => by
    simp only [List.mem_cons, List.not_mem_nil, or_false] at hx
    rcases hx with rfl | rfl | rfl
    · exact f1.below c2
    · exact IntsAt.nil _
    · exact f2.below b3⟩
  have hk4 := hk1.kept c2
  have hgo : ∀ k, n ≤ k → ¬ F k := fun k hk e => by have := hlt k e; omega
  have q := dAdmit_any _ hk4 (.slice (some ⟨n + 1 + 1, 0, none⟩) (L24 n).length 3) (L24 n) (fun w' ho => hs4.only ho (fun _ k hk => by simp [Value.ownBlock] at hk; exact hgo k (by omega)) (fun x hx _ k hk => by
    simp only [List.mem_cons, List.not_mem_nil, or_false] at hx
    rcases hx with rfl | rfl | rfl
    · simp [Value.ownBlock] at hk; exact hgo k (by omega)
    · simp [Value.ownBlock] at hk
    · simp [Value.ownBlock] at hk; exact hgo k (by omega))) (by simp) (fun x hx => by
    simp only [List.mem_cons, List.not_mem_nil, or_false] at hx
    rcases hx with rfl | rfl | rfl <;> refine ⟨by unfold I64; simp, fun m hm => ?_⟩ <;> simp at hm <;> subst hm <;> unfold I64 <;> omega) (fun x hx => by
    simp only [List.mem_cons, List.not_mem_nil, or_false] at hx
    rcases hx with rfl | rfl | rfl <;> simp)
  rw [r0] at q
  exact q.mono fun e w' hh => AdmsDg.after (by rw [hn]; exact c1) hh
set_option maxHeartbeats 8000000 in
set_option maxRecDepth 100000 in
theorem dAlive_any (w : World) : Calls Tryz.prog 5 #[] w fun e w' => e = .returned (.bool true) ∧ Below w.heap.size w w' := by
  have G0 := Lib.hid (dNew_any 5 w)
  have GA := Lib.hid fun F p mb nx g Fm (w1 : World) (h : DagP F w1 p mb 5 [] nx g Fm) => adms24 w1 h
  have GD := Lib.hid fun F p mb nx g Fm (w1 : World) (n : Nat) (h : DagP F w1 p mb 5 (TA24 n) nx g Fm) => endA24 n ▸ dDone_any w1 h 1 (by unfold I64; omega)
  have GC := Lib.hid fun F p mb nx g Fm (w1 : World) (n : Nat) (h : DagP F w1 p mb 5 (TB24 n) nx g Fm) => endB24 n ▸ dCancel_any w1 h 2 (by unfold I64; omega)
  have GS := Lib.hid fun F p mb nx g Fm (w1 : World) (n : Nat) (h : DagP F w1 p mb 5 (TC24 n) nx g Fm) => (show Calls Tryz.prog 18 #[ndv p, .int .i64 3] w1 fun e w' => e = .returned (.int .i64 6) ∧ w1 = w' from dStatus_any w1 h 3 (by unfold I64; omega))
  have GL := Lib.hid fun F p mb nx g Fm (w1 : World) (n : Nat) (h : DagP F w1 p mb 5 (TC24 n) nx g Fm) => (show Calls Tryz.prog 14 #[ndv p] w1 fun e w' => e = .returned (.int .i64 3) ∧ w1 = w' from dLen_any w1 h)
  have H1 := Lib.hid (show ∀ (W : World) (v : Value), IntsAt W v [1] → Calls Tryz.prog 11 #[v, .slice (some ⟨W.heap.size, 0, none⟩) 1 1] (W.alloc (.cells #[.int .i64 1] 3)) fun e w' => e = .returned (.bool true) ∧ Below W.heap.size W w' from fun W v h => by
    have hb := (Below.refl W.heap.size W).alloc (Nat.le_refl _) (.cells #[.int .i64 1] 3)
    have q := refInts_any v _ [1] [1] _ (h.below hb) (IntsAt.lit W [1] 3) (by simp) (by simp)
    rw [decide_eq_true rfl] at q
    exact q.mono fun e w' ⟨h1, h3⟩ => ⟨h1, hb.trans (h3.mono hb.size)⟩)
  have H2 := Lib.hid (show ∀ (W : World) (v : Value), IntsAt W v [2] → Calls Tryz.prog 11 #[v, .slice (some ⟨W.heap.size, 0, none⟩) 1 1] (W.alloc (.cells #[.int .i64 2] 3)) fun e w' => e = .returned (.bool true) ∧ Below W.heap.size W w' from fun W v h => by
    have hb := (Below.refl W.heap.size W).alloc (Nat.le_refl _) (.cells #[.int .i64 2] 3)
    have q := refInts_any v _ [2] [2] _ (h.below hb) (IntsAt.lit W [2] 3) (by simp) (by simp)
    rw [decide_eq_true rfl] at q
    exact q.mono fun e w' ⟨h1, h3⟩ => ⟨h1, hb.trans (h3.mono hb.size)⟩)
  have H3 := Lib.hid (show ∀ (W : World) (v : Value), IntsAt W v [2, 3] → Calls Tryz.prog 11 #[v, .slice (some ⟨W.heap.size, 0, none⟩) 2 2] (W.alloc (.cells #[.int .i64 2, .int .i64 3] 3)) fun e w' => e = .returned (.bool true) ∧ Below W.heap.size W w' from fun W v h => by
    have hb := (Below.refl W.heap.size W).alloc (Nat.le_refl _) (.cells #[.int .i64 2, .int .i64 3] 3)
    have q := refInts_any v _ [2, 3] [2, 3] _ (h.below hb) (IntsAt.lit W [2, 3] 3) (by simp) (by simp)
    rw [decide_eq_true rfl] at q
    exact q.mono fun e w' ⟨h1, h3⟩ => ⟨h1, hb.trans (h3.mono hb.size)⟩)
  go_enter Tryz.func5, Tryz.ntmps5
  go_wp2_with (first
    | (go_at_call 6; (with_reducible refine G0.out.mono ?_); rintro e w1 ⟨p, mb, F, nx, g, Fm, rfl, q1, q2, q3⟩; rw [show clipD 5 = 5 from rfl] at q1; have HD := Lib.hid q1; have HF := Lib.hid q2; have HB := Lib.hid q3; clear q1 q2 q3)
    | (go_at_call 20; (with_reducible refine (GA.out _ _ _ _ _ _ _ HD.out).mono ?_); rintro e w2 ⟨v2, F2, nx2, g2, Fm2, rfl, q1, q2, q3, q4⟩; obtain ⟨a2, c2, e⟩ := q1.form; subst e; have HI2 := Lib.hid (show IntsAt w2 (.slice a2 1 c2) [1] from q1); have HO2 := Lib.hid (show OffV F2 (.slice a2 1 c2) 1 from fun _ k hk => (q2 k hk).2); have HD2 := Lib.hid q3; have HF2 := Lib.hid (q4.from_ HF.out HB.out.size); have HB2 := Lib.hid (HB.out.trans (q4.only.below HF.out HB.out.size)); clear q1 q2 q3 q4)
    | (go_at_call 21; (with_reducible refine (GD.out _ _ _ _ _ _ _ _ HD2.out).mono ?_); rintro e w3 ⟨v3, rfl, q1, q2, q3, q4⟩; obtain ⟨a3, c3, e⟩ := q1.form; subst e; have HI3 := Lib.hid (show IntsAt w3 (.slice a3 1 c3) [2] from q1); have HO3 := Lib.hid (show OffV F2 (.slice a3 1 c3) 1 from fun _ k hk e => by have := q2 k hk; have := HD2.out.lt k e; omega); have HD3 := Lib.hid q3; have HJ2 := Lib.hid (RowsAt.ints (RowsAt.only HI2.out.rows q4 HO2.out)); have HB3 := Lib.hid (HB2.out.trans (q4.below HF2.out HB2.out.size)); clear q1 q2 q3 q4 HI2)
    | (go_at_call 22; (with_reducible refine (GC.out _ _ _ _ _ _ _ _ HD3.out).mono ?_); rintro e w4 ⟨v4, rfl, q1, q2, q3, q4⟩; obtain ⟨a4, c4, e⟩ := q1.form; subst e; have HI4 := Lib.hid (show IntsAt w4 (.slice a4 2 c4) [2, 3] from q1); have HD4 := Lib.hid q3; have HK2 := Lib.hid (RowsAt.ints (RowsAt.only HJ2.out.rows q4 HO2.out)); have HK3 := Lib.hid (RowsAt.ints (RowsAt.only HI3.out.rows q4 HO3.out)); have HB4 := Lib.hid (HB3.out.trans (q4.below HF2.out HB3.out.size)); clear q1 q2 q3 q4 HJ2 HI3 HB3 HD3)
    | (go_at_call 11; (with_reducible refine (H1.out _ _ HK2.out).mono ?_); rintro e w5 ⟨rfl, hb⟩; replace HB4 := Lib.hid (HB4.out.trans (hb.mono HB4.out.size)); replace HD4 := Lib.hid (HD4.out.kept hb); replace HK3 := Lib.hid (HK3.out.below hb); replace HI4 := Lib.hid (HI4.out.below hb); clear hb HK2)
    | (go_at_call 11; (with_reducible refine (H2.out _ _ HK3.out).mono ?_); rintro e w6 ⟨rfl, hb⟩; replace HB4 := Lib.hid (HB4.out.trans (hb.mono HB4.out.size)); replace HD4 := Lib.hid (HD4.out.kept hb); replace HI4 := Lib.hid (HI4.out.below hb); clear hb HK3)
    | (go_at_call 11; (with_reducible refine (H3.out _ _ HI4.out).mono ?_); rintro e w7 ⟨rfl, hb⟩; replace HB4 := Lib.hid (HB4.out.trans (hb.mono HB4.out.size)); replace HD4 := Lib.hid (HD4.out.kept hb); clear hb HI4)
    | (go_at_call 18; (with_reducible refine (GS.out _ _ _ _ _ _ _ _ HD4.out).mono ?_); rintro e w8 ⟨rfl, rfl⟩)
    | (go_at_call 14; (with_reducible refine (GL.out _ _ _ _ _ _ _ _ HD4.out).mono ?_); rintro e w9 ⟨rfl, rfl⟩))
  go_ret
  exact ⟨rfl, HB4.out⟩
end Go.Proofs.YthchkhgimnchcaaGreat
/- A point that comes in, opened. -/
namespace Go.Proofs.YthchkhgimnchcaaGreat
open Go.RowKit Go.ChangeShapes Go.WideShapes Go.Joins

theorem cells_point : Tryz.prog.cellsOf 47 = 2 := by kernel_rfl
def In64 (n : Int) : Prop := -9223372036854775808 ≤ n ∧ n ≤ 9223372036854775807
theorem in64_of_wf {n : Int} (h : (Lit.int .i64 n).wf = true) : In64 n := by
  simp [Lit.wf] at h
  exact h
set_option maxRecDepth 100000 in
theorem open_point {H : Type} {enc : TypeId × Value → H} {w : World} {base : Nat} {v : Value} {d : DataW H} {p : List MemPlace} (hok : Value.okWide Tryz.prog w .any base 47 v) (h : DataW.Trod enc Tryz.prog w 0 (fun _ => true) true 47 v d p) :
    ∃ x y : Int, v = .agg #[.int .i64 x, .int .i64 y] ∧ In64 x ∧ In64 y := by
  obtain ⟨c0, c1, y0, y1, m, rfl, _, _, hy0, hy1⟩ := open_agg2 Tryz.underlying47 (by kernel_rfl) cells_point hok h
  obtain ⟨a, e0, _, wa⟩ := DataW.trod_int Tryz.underlying3 hy0
  obtain ⟨b, e1, _, wb⟩ := DataW.trod_int Tryz.underlying3 hy1
  simp at e0 e1
  subst e0 e1
  exact ⟨a, b, rfl, in64_of_wf wa, in64_of_wf wb⟩

theorem cells_int_pt : Tryz.prog.cellsOf 3 = 1 := by kernel_rfl
end Go.Proofs.YthchkhgimnchcaaGreat
/- Aisles that come in, opened. -/
namespace Go.Proofs.YthchkhgimnchcaaGreat
open Go.RowKit Go.ChangeShapes Go.WideShapes Go.Joins Go.Deep

theorem list5 {α : Type} {l : List α} (h : l.length = 5) : ∃ a b c d e, l = [a, b, c, d, e] := by
  match l, h with
  | [a, b, c, d, e], _ => exact ⟨a, b, c, d, e, rfl⟩
def Ais.In (a : Ais) : Prop := In64 a.id ∧ (In64 a.lx ∧ In64 a.ly) ∧ In64 a.hx ∧ In64 a.hy
end Go.Proofs.YthchkhgimnchcaaGreat
/- Lists of lists of bytes that come in. -/
namespace Go.Proofs.YthchkhgimnchcaaGreat
open Go.RowKit Go.ChangeShapes Go.WideShapes Go.Joins Go.Deep

set_option maxRecDepth 100000 in
/-- a slice that lies in a cell -/
theorem open_rows_good {α : Type} [Inhabited α] {H : Type} {enc : TypeId × Value → H} {w : World} {t e : TypeId} {K n0 : Nat} {xs0 : List Value} {z : DataW H × List MemPlace} (cs : α → List Value) (good : α → Prop)
    (ht : Tryz.prog.underlying t = some (.slice e)) (ce : Tryz.prog.cellsOf e = K) (hK : 0 < K)
    (elem : ∀ n xs x, xs.length = K → DataW.trod enc Tryz.prog w 0 (fun _ => true) true n e xs = some x → ∃ y, xs = cs y ∧ good y)
    (hx0 : DataW.trod enc Tryz.prog w 0 (fun _ => true) true n0 t xs0 = some z) :
    ∃ a len cap l, xs0 = [.slice a len cap] ∧ RowsAt w K cs (.slice a len cap) l ∧ l.length ≤ 9223372036854775807 ∧ ∀ x ∈ l, good x := by
  obtain ⟨d, p⟩ := z
  rcases open_slice ht hx0 with ⟨hcs, _⟩ | ⟨x, ln, c, m, n, D, Pl, hcs, _, hl, hm, hmm, _, hx⟩
  · exact ⟨none, 0, 0, [], hcs, RowsAt.nil _ _ _, by simp, by simp⟩
  · have hmc : m = c := by simpa using hmm
    subst hmc
    rw [ce] at hx
    have each : ∀ i, i < m → ∃ y : α, (∀ j u, (cs y)[j]? = some u → w.cell? ((x.add (i * K)).add j) = some u) ∧ good y ∧ (cs y).length = K := by
      intro i hi
      obtain ⟨xs, h1, h2⟩ := hx i hi
      obtain ⟨_, hlen, hcell⟩ := World.cells?_some h1
      obtain ⟨y, rfl, hg⟩ := elem n xs _ hlen h2
      refine ⟨y, fun j u hu => ?_, hg, hlen⟩
      have := hcell j (by rw [← hlen]; exact (List.getElem?_eq_some_iff.1 hu).1)
      rw [this, hu]
    obtain ⟨q, hq⟩ := choose_lt each
    have hll : ((List.range ln).map q).length = ln := by simp
    refine ⟨some x, ln, m, (List.range ln).map q, hcs, ⟨some x, m, by rw [hll], by rw [hll]; exact hl, fun h0 => ?_⟩, ?_, fun y hy => ?_⟩
    · rw [hll] at h0
      obtain ⟨h1, _, h3⟩ := hq 0 (by omega)
      obtain ⟨u, hu⟩ : ∃ u, (cs (q 0))[0]? = some u := ⟨_, List.getElem?_eq_getElem (by omega)⟩
      have h4 := h1 0 u hu
      obtain ⟨b, off, spot⟩ := x
      have hspot : spot = none := by simpa [Addr.add] using World.cell?_spot h4
      subst hspot
      rw [add_plain, add_plain] at h4
      refine ⟨b, off, rfl, World.block_lt_of_cell? _ _ h4, fun j y hj i u hu => ?_⟩
      have hjl : j < ln := by rw [← hll]; exact (List.getElem?_eq_some_iff.1 hj).1
      have hyq : q j = y := by simpa [hjl] using hj
      rw [← hyq] at hu
      have := (hq j (by omega)).1 i u hu
      rw [add_plain, add_plain] at this
      exact this
    · rw [hll]
      unfold maxLen at hm
      omega
    · rw [List.mem_map] at hy
      obtain ⟨i, hi, rfl⟩ := hy
      exact (hq i (by have := List.mem_range.1 hi; omega)).2.1
theorem open_rows_in {α : Type} [Inhabited α] {H : Type} {enc : TypeId × Value → H} {w : World} {t e : TypeId} {K n0 : Nat} {xs0 : List Value} {z : DataW H × List MemPlace} (cs : α → List Value)
    (ht : Tryz.prog.underlying t = some (.slice e)) (ce : Tryz.prog.cellsOf e = K) (hK : 0 < K)
    (elem : ∀ n xs x, xs.length = K → DataW.trod enc Tryz.prog w 0 (fun _ => true) true n e xs = some x → ∃ y, xs = cs y)
    (hx0 : DataW.trod enc Tryz.prog w 0 (fun _ => true) true n0 t xs0 = some z) :
    ∃ a len cap l, xs0 = [.slice a len cap] ∧ RowsAt w K cs (.slice a len cap) l ∧ l.length ≤ 9223372036854775807 := by
  obtain ⟨a, len, cap, l, h1, h2, h3, _⟩ := open_rows_good cs (fun _ => True) ht ce hK (fun n xs x h h' => (elem n xs x h h').imp fun _ e => ⟨e, trivial⟩) hx0
  exact ⟨a, len, cap, l, h1, h2, h3⟩
end Go.Proofs.YthchkhgimnchcaaGreat
/- Specs, rules and pairs of sets of skills that come in, opened. FOR ALL LATER STAGES. -/
namespace Go.Proofs.YthchkhgimnchcaaGreat
open Go.RowKit Go.ChangeShapes Go.WideShapes Go.Joins Go.Deep

theorem okWide_array {P : Program} {w : World} {r : Reach} {base : Nat} {t e : TypeId} {n : Nat} {v : Value} (ht : P.underlying t = some (.array n e)) (h : Value.okWide P w r base t v) : ∃ cs, v = .agg cs ∧ cs.size = P.cellsOf t := by
  simp only [Value.okWide, ht] at h
  obtain ⟨cs, h1, h2, _⟩ := h
  exact ⟨cs, h1, h2⟩
theorem trod_seven {P : Program} {H : Type} {enc : TypeId × Value → H} {w : World} {base : Nat} {spare : Nat → Bool} {held : Bool} {t : TypeId} {f0 f1 f2 f3 f4 f5 f6 : Field} {fuel : Nat} {cs : List Value} {x : DataW H × List MemPlace} (ht : P.underlying t = some (.struct #[f0, f1, f2, f3, f4, f5, f6])) (h : DataW.trod enc P w base spare held fuel t cs = some x) :
    ∃ y0 y1 y2 y3 y4 y5 y6 n, DataW.trod enc P w base spare held n f0.type ((cs.drop f0.offset).take (P.cellsOf f0.type)) = some y0 ∧
      DataW.trod enc P w base spare held n f1.type ((cs.drop f1.offset).take (P.cellsOf f1.type)) = some y1 ∧
      DataW.trod enc P w base spare held n f2.type ((cs.drop f2.offset).take (P.cellsOf f2.type)) = some y2 ∧
      DataW.trod enc P w base spare held n f3.type ((cs.drop f3.offset).take (P.cellsOf f3.type)) = some y3 ∧
      DataW.trod enc P w base spare held n f4.type ((cs.drop f4.offset).take (P.cellsOf f4.type)) = some y4 ∧
      DataW.trod enc P w base spare held n f5.type ((cs.drop f5.offset).take (P.cellsOf f5.type)) = some y5 ∧
      DataW.trod enc P w base spare held n f6.type ((cs.drop f6.offset).take (P.cellsOf f6.type)) = some y6 := by
  obtain ⟨xs, n, _, rfl, hl, hlen, hf⟩ := DataW.trod_struct ht h
  match xs, hlen with
  | [y0, y1, y2, y3, y4, y5, y6], _ => exact ⟨y0, y1, y2, y3, y4, y5, y6, n, by simpa using hf 0 f0 rfl, by simpa using hf 1 f1 rfl, by simpa using hf 2 f2 rfl, by simpa using hf 3 f3 rfl, by simpa using hf 4 f4 rfl, by simpa using hf 5 f5 rfl, by simpa using hf 6 f6 rfl⟩
theorem trod_eight {P : Program} {H : Type} {enc : TypeId × Value → H} {w : World} {base : Nat} {spare : Nat → Bool} {held : Bool} {t : TypeId} {f0 f1 f2 f3 f4 f5 f6 f7 : Field} {fuel : Nat} {cs : List Value} {x : DataW H × List MemPlace} (ht : P.underlying t = some (.struct #[f0, f1, f2, f3, f4, f5, f6, f7])) (h : DataW.trod enc P w base spare held fuel t cs = some x) :
    ∃ y0 y1 y2 y3 y4 y5 y6 y7 n, DataW.trod enc P w base spare held n f0.type ((cs.drop f0.offset).take (P.cellsOf f0.type)) = some y0 ∧
      DataW.trod enc P w base spare held n f1.type ((cs.drop f1.offset).take (P.cellsOf f1.type)) = some y1 ∧
      DataW.trod enc P w base spare held n f2.type ((cs.drop f2.offset).take (P.cellsOf f2.type)) = some y2 ∧
      DataW.trod enc P w base spare held n f3.type ((cs.drop f3.offset).take (P.cellsOf f3.type)) = some y3 ∧
      DataW.trod enc P w base spare held n f4.type ((cs.drop f4.offset).take (P.cellsOf f4.type)) = some y4 ∧
      DataW.trod enc P w base spare held n f5.type ((cs.drop f5.offset).take (P.cellsOf f5.type)) = some y5 ∧
      DataW.trod enc P w base spare held n f6.type ((cs.drop f6.offset).take (P.cellsOf f6.type)) = some y6 ∧
      DataW.trod enc P w base spare held n f7.type ((cs.drop f7.offset).take (P.cellsOf f7.type)) = some y7 := by
  obtain ⟨xs, n, _, rfl, hl, hlen, hf⟩ := DataW.trod_struct ht h
  match xs, hlen with
  | [y0, y1, y2, y3, y4, y5, y6, y7], _ => exact ⟨y0, y1, y2, y3, y4, y5, y6, y7, n, by simpa using hf 0 f0 rfl, by simpa using hf 1 f1 rfl, by simpa using hf 2 f2 rfl, by simpa using hf 3 f3 rfl, by simpa using hf 4 f4 rfl, by simpa using hf 5 f5 rfl, by simpa using hf 6 f6 rfl, by simpa using hf 7 f7 rfl⟩
theorem list9 {α : Type} {l : List α} (h : l.length = 9) : ∃ a b c d e f g h i, l = [a, b, c, d, e, f, g, h, i] := by
  match l, h with
  | [a, b, c, d, e, f, g, h, i], _ => exact ⟨a, b, c, d, e, f, g, h, i, rfl⟩
theorem list8 {α : Type} {l : List α} (h : l.length = 8) : ∃ a b c d e f g h, l = [a, b, c, d, e, f, g, h] := by
  match l, h with
  | [a, b, c, d, e, f, g, h], _ => exact ⟨a, b, c, d, e, f, g, h, rfl⟩

theorem cells_spec : Tryz.prog.cellsOf 49 = 9 := by kernel_rfl
theorem cells_u64 : Tryz.prog.cellsOf 45 = 1 := by kernel_rfl
theorem cells_ints : Tryz.prog.cellsOf 32 = 1 := by kernel_rfl
def U64 (n : Int) : Prop := 0 ≤ n ∧ n < 18446744073709551616
theorem U64.nat {n : Int} (h : U64 n) : ∃ k : Nat, n = (k : Int) ∧ k < 2 ^ 64 := ⟨n.toNat, by have := h.1; omega, by have := h.1; have := h.2; omega⟩
structure Sp.In (x : Sp) : Prop where
  id : In64 x.id
  prio : In64 x.prio
  sk : U64 x.sk
  ge : U64 x.ge
  fx : In64 x.fx
  fy : In64 x.fy
  tx : In64 x.tx
  ty : In64 x.ty
  len : x.aft.length ≤ 9223372036854775807
  aft : ∀ n ∈ x.aft, In64 n
set_option maxRecDepth 100000 in
theorem trod_spec {H : Type} {enc : TypeId × Value → H} {w : World} {fuel : Nat} {cs : List Value} {x : DataW H × List MemPlace} (hl : cs.length = 9) (h : DataW.trod enc Tryz.prog w 0 (fun _ => true) true fuel 49 cs = some x) : ∃ a : Sp, cs = csSp a ∧ IntsAt w a.v a.aft ∧ a.In := by
  obtain ⟨c0, c1, c2, c3, c4, c5, c6, c7, c8, rfl⟩ := list9 hl
  obtain ⟨y0, y1, y2, y3, y4, y5, y6, k, h0, h1, h2, h3, h4, h5, h6⟩ := trod_seven Tryz.underlying49 h
  obtain ⟨z0, z1, m, _, _, g0, g1⟩ := trod_struct2 Tryz.underlying47 h4
  obtain ⟨u0, u1, n, _, _, f0, f1⟩ := trod_struct2 Tryz.underlying47 h5
  simp only [cells_int_pt, cells_point, cells_u64, cells_ints, List.drop_zero, List.take_succ_cons, List.take_zero, List.drop_succ_cons] at h0 h1 h2 h3 g0 g1 f0 f1 h6
  obtain ⟨a, e0, _, w0⟩ := DataW.trod_int Tryz.underlying3 h0
  obtain ⟨b, e1, _, w1⟩ := DataW.trod_int Tryz.underlying3 h1
  obtain ⟨c, e2, _, w2⟩ := DataW.trod_int Tryz.underlying45 h2
  obtain ⟨d, e3, _, w3⟩ := DataW.trod_int Tryz.underlying45 h3
  obtain ⟨e, e4, _, w4⟩ := DataW.trod_int Tryz.underlying3 g0
  obtain ⟨f, e5, _, w5⟩ := DataW.trod_int Tryz.underlying3 g1
  obtain ⟨g, e6, _, w6⟩ := DataW.trod_int Tryz.underlying3 f0
  obtain ⟨i, e7, _, w7⟩ := DataW.trod_int Tryz.underlying3 f1
  obtain ⟨s, len, cap, l, e8, hr, hlen, hw⟩ := open_rows_good csI In64 Tryz.underlying32 cells_int_pt (by decide) (by
    intro n xs x _ hx
    obtain ⟨a, e0, _, wa⟩ := DataW.trod_int Tryz.underlying3 hx
    exact ⟨a, e0, in64_of_wf wa⟩) h6
  simp at e0 e1 e2 e3 e4 e5 e6 e7 e8
  subst e0 e1 e2 e3 e4 e5 e6 e7 e8
  obtain ⟨s', c', e9⟩ := RowsAt.form hr
  cases e9
  exact ⟨⟨a, b, c, d, e, f, g, i, s, cap, l⟩, rfl, RowsAt.ints hr, in64_of_wf w0, in64_of_wf w1, u64_bd w2, u64_bd w3, in64_of_wf w4, in64_of_wf w5, in64_of_wf w6, in64_of_wf w7, hlen, hw⟩
set_option maxRecDepth 100000 in
theorem open_spec {H : Type} {enc : TypeId × Value → H} {w : World} {base : Nat} {v : Value} {d : DataW H} {p : List MemPlace} (hok : Value.okWide Tryz.prog w .any base 49 v) (h : DataW.Trod enc Tryz.prog w 0 (fun _ => true) true 49 v d p) :
    ∃ x : Sp, v = spv x ∧ IntsAt w x.v x.aft ∧ x.In := by
  obtain ⟨cs, rfl, hsz⟩ := okWide_struct Tryz.underlying49 hok
  obtain ⟨fuel, hf⟩ := h
  have hl : cs.toList.length = 9 := by rw [Array.length_toList]; exact hsz.trans cells_spec
  obtain ⟨a, e, h1, h2⟩ := trod_spec hl (by simpa [Value.cells] using hf)
  refine ⟨a, ?_, h1, h2⟩
  have : cs = (csSp a).toArray := by rw [← e]
  rw [this]
  rfl

structure Ru.In (x : Ru) : Prop where
  tasks : In64 x.tasks
  crew : In64 x.crew
  units : In64 x.units
  lease : In64 x.lease
  tries : In64 x.tries
  rate : In64 x.rate
  start : In64 x.start
  len : x.ais.length ≤ 9223372036854775807
  ais : ∀ a ∈ x.ais, Ais.In a
theorem list2 {α : Type} {l : List α} (h : l.length = 2) : ∃ a b, l = [a, b] := by
  match l, h with
  | [a, b], _ => exact ⟨a, b, rfl⟩
end Go.Proofs.YthchkhgimnchcaaGreat
/- Stage 24's law DagSafe. -/
namespace Go.Proofs.YthchkhgimnchcaaGreat
open Go.RowKit

theorem sg_idsS {T : List Tk} {n s : Int} (h : sgT T n = s) (hs : s ≠ 0) : n ∈ idsK T := Classical.byContradiction fun e => by rw [sg_none e] at h; exact hs h.symm
/-- what has ended stays so -/
theorem end_keeps {T : List Tk} (h : Wf T) (id how : Int) : idsK (endDg T id how).1 = idsK T ∧ ∀ n, endS (sgT T n) = true → sgT (endDg T id how).1 n = sgT T n := by
  by_cases hid : id ∈ idsK T
  · by_cases hst : (how < 3 ∧ sgT T id ≠ 2) ∨ endS (sgT T id) = true
    · rw [endDg_st hid hst]
      exact ⟨rfl, fun _ _ => rfl⟩
    · have hne : endS (sgT T id) = false := by
        cases e : endS (sgT T id) with
        | false => rfl
        | true => exact absurd (.inr e) hst
      have hn0 : ∀ n, endS (sgT T n) = true → n ≠ id := fun n hn e => by rw [e, hne] at hn; cases hn
      by_cases h1 : how = 1
      · have e : endDg T id how = ((doneDg T id).1, (doneDg T id).2, 0) := by unfold endDg; rw [if_pos hid, if_neg hst, if_pos h1]
        rw [e]
        refine ⟨?_, fun n hn => ?_⟩
        · show idsK (setsT (setsT T [id] 4) _ 2) = _
          rw [setsT_ids, setsT_ids]
        · have h2 := sg_free (T1 := setsT T [id] 4) (by rw [setsT_ids]; exact h.nodup) n
          have h3 : n ∉ freedT (setsT T [id] 4) := fun hm => by
            have h4 := (freedT_mem (T := setsT T [id] 4) (by rw [setsT_ids]; exact h.nodup)).1 hm
            rw [sg_done hid, if_neg (hn0 n hn)] at h4
            rw [h4.2.1] at hn
            cases hn
          rw [if_neg h3, sg_done hid, if_neg (hn0 n hn)] at h2
          exact h2
      · by_cases h2 : how = 2
        · have e : endDg T id how = ((failDg T id).1, (failDg T id).2, 0) := by unfold endDg; rw [if_pos hid, if_neg hst, if_neg h1, if_pos h2]
          rw [e]
          refine ⟨?_, fun n hn => ?_⟩
          · show idsK (setsT (setsT T [id] 5) _ 6) = _
            rw [setsT_ids, setsT_ids]
          · show sgT (setsT (setsT T [id] 5) (goneT (setsT T [id] 5) (behindT T id)) 6) n = _
            have h5 := sg_fail hid (n := n)
            rw [if_neg (hn0 n hn)] at h5
            rw [sg_drop, if_neg (fun hc => by have := (live_iff.1 hc.2).2; rw [h5, hn] at this; cases this), h5]
        · have e : endDg T id how = ((cancDg T id).1, (cancDg T id).2, 0) := by unfold endDg; rw [if_pos hid, if_neg hst, if_neg h1, if_neg h2]
          rw [e]
          refine ⟨?_, fun n hn => ?_⟩
          · show idsK (setsT T _ 6) = _
            rw [setsT_ids]
          · show sgT (setsT T (goneT T (setL (id :: behindT T id))) 6) n = _
            rw [sg_drop, if_neg (fun hc => by have := (live_iff.1 hc.2).2; rw [hn] at this; cases this)]
  · rw [endDg_no hid]
    exact ⟨rfl, fun _ _ => rfl⟩
theorem act_keeps {T : List Tk} (h : Wf T) (room : Int) (x : Da) : (∀ n, n ∈ idsK T → n ∈ idsK (actDg room T x).1) ∧ ∀ n, endS (sgT T n) = true → sgT (actDg room T x).1 n = sgT T n := by
  unfold actDg
  split
  · exact ⟨fun n hn => by rw [(end_keeps h x.id 1).1]; exact hn, (end_keeps h x.id 1).2⟩
  split
  · exact ⟨fun n hn => by rw [(end_keeps h x.id 2).1]; exact hn, (end_keeps h x.id 2).2⟩
  split
  · exact ⟨fun n hn => by rw [(end_keeps h x.id 3).1]; exact hn, (end_keeps h x.id 3).2⟩
  unfold admDg
  split
  · rename_i hc
    have ho := bchk_iff.1 hc
    have hw := h.adm ho
    refine ⟨fun n hn => ids_adm.2 (.inl hn), fun n hn => ?_⟩
    have hnT : n ∈ idsK T := Classical.byContradiction fun e => by rw [sg_none e] at hn; cases hn
    obtain ⟨t, ht, rfl⟩ := idsK_mem.1 hnT
    show sgT (admT T (freeO T x.batch) x.batch) t.sp.id = _
    rw [sg_at hw.nodup (admT_mem.2 (.inl ht)), sg_at h.nodup ht]
  · exact ⟨fun n hn => hn, fun n _ => rfl⟩

set_option maxHeartbeats 1000000 in
set_option maxRecDepth 100000 in
theorem refEnded24_any (s : Int) (w : World) : Calls Tryz.prog 24 #[.int .i64 s] w fun e w' => e = .returned (.bool (endS s)) ∧ w = w' := by
  by_cases h4 : s = 4
  · subst h4
    go_enter Tryz.func24, Tryz.ntmps24
    go_wp2
    go_ret
    exact ⟨rfl, rfl⟩
  by_cases h5 : s = 5
  · subst h5
    go_enter Tryz.func24, Tryz.ntmps24
    go_wp2
    go_ret
    exact ⟨rfl, rfl⟩
  by_cases h6 : s = 6
  · subst h6
    go_enter Tryz.func24, Tryz.ntmps24
    go_wp2
    go_ret
    exact ⟨rfl, rfl⟩
  rw [endS_no.2 ⟨h4, h5, h6⟩]
  have e4 : (s == 4) = false := beq_noI h4
  have e5 : (s == 5) = false := beq_noI h5
  have e6 : (s == 6) = false := beq_noI h6
  clear h4 h5 h6
  go_enter Tryz.func24, Tryz.ntmps24
  go_wp2
  go_ret
  exact ⟨rfl, rfl⟩

/-! ### What the law keeps of each task -/
/-- the last statuses: of the first k the new ones, of the others the old ones -/
def wasG (T T' : List Tk) (k : Nat) : Int → Option Int := fun n => if n ∈ (idsK T').take k then some (sgT T' n) else if n ∈ idsK T then some (sgT T n) else none
theorem wasG_zero (T T' : List Tk) : wasG T T' 0 = fun n => if n ∈ idsK T then some (sgT T n) else none := by
  funext n
  unfold wasG
  rw [List.take_zero, if_neg (by simp)]
theorem wasG_end (T T' : List Tk) (h : ∀ n, n ∈ idsK T → n ∈ idsK T') (k : Nat) (hk : k = T'.length) : wasG T T' k = fun n => if n ∈ idsK T' then some (sgT T' n) else none := by
  have hl : (idsK T').length = T'.length := List.length_map _
  funext n
  unfold wasG
  rw [List.take_of_length_le (by omega)]
  by_cases h1 : n ∈ idsK T'
  · rw [if_pos h1, if_pos h1]
  · rw [if_neg h1, if_neg h1, if_neg fun e => h1 (h n e)]
theorem wasG_step (T T' : List Tk) (hn : (idsK T').Nodup) (k : Nat) (hk : k < T'.length) : wasG T T' (k + 1) = updG (wasG T T' k) T'[k].sp.id (some T'[k].st) := by
  have hl : (idsK T').length = T'.length := List.length_map _
  have hk2 : k < (idsK T').length := by omega
  have he : (idsK T')[k]'hk2 = T'[k].sp.id := by simp [idsK]
  funext n
  by_cases e : n = T'[k].sp.id
  · subst e
    rw [updG_same]
    unfold wasG
    rw [if_pos (by rw [List.take_succ_eq_append_getElem hk2, he]; exact List.mem_append.2 (.inr (List.mem_singleton.2 rfl))), sg_at hn (List.getElem_mem hk)]
  · rw [updG_other _ _ e]
    unfold wasG
    have : n ∈ (idsK T').take (k + 1) ↔ n ∈ (idsK T').take k := by
      rw [List.take_succ_eq_append_getElem hk2, he, List.mem_append, List.mem_singleton]
      exact ⟨fun h => h.resolve_right e, .inl⟩
    simp only [this]
/-- of those seen so far, how many have a status -/
def cntS (T : List Tk) (s : Int) (k : Nat) : Int := (((T.take k).filter fun t => decide (t.st = s)).length : Int)
theorem cntS_zero (T : List Tk) (s : Int) : cntS T s 0 = 0 := rfl
theorem cntS_step (T : List Tk) (s : Int) (k : Nat) (hk : k < T.length) : cntS T s (k + 1) = if T[k].st = s then cntS T s k + 1 else cntS T s k := by
  unfold cntS
  rw [List.take_succ_eq_append_getElem hk, List.filter_append]
  by_cases h : T[k].st = s
  · rw [if_pos h, List.filter_cons_of_pos (by simp [h])]
    simp
  · rw [if_neg h, List.filter_cons_of_neg (by simp [h])]
    simp
theorem cntS_bd (T : List Tk) (s : Int) (k : Nat) : 0 ≤ cntS T s k ∧ cntS T s k ≤ (k : Int) := by
  have h1 := List.length_filter_le (fun t : Tk => decide (t.st = s)) (T.take k)
  rw [List.length_take] at h1
  unfold cntS
  omega
theorem cntS_pos (T : List Tk) (s : Int) : 0 < cntS T s T.length ↔ ∃ t ∈ T, t.st = s := by
  unfold cntS
  rw [List.take_length]
  constructor
  · intro h
    have h1 : (T.filter fun t => decide (t.st = s)) ≠ [] := fun e => by rw [e] at h; simp at h
    obtain ⟨t, ht⟩ := List.exists_mem_of_ne_nil _ h1
    obtain ⟨h2, h3⟩ := List.mem_filter.1 ht
    exact ⟨t, h2, by simpa using h3⟩
  · rintro ⟨t, ht, e⟩
    have h1 : t ∈ T.filter fun t => decide (t.st = s) := List.mem_filter.2 ⟨ht, by simp [e]⟩
    have := List.length_pos_of_mem h1
    omega
theorem Wf.counts {T : List Tk} (h : Wf T) : ¬ (0 < cntS T 1 T.length ∧ cntS T 2 T.length = 0) := by
  rintro ⟨h1, h2⟩
  obtain ⟨t, ht, e⟩ := (cntS_pos T 1).1 h1
  obtain ⟨m, hm, h3⟩ := h.ready (idsK_mem.2 ⟨t, ht, rfl⟩) (by rw [sg_at h.nodup ht]; exact e)
  obtain ⟨u, hu, rfl⟩ := idsK_mem.1 hm
  rw [sg_at h.nodup hu] at h3
  have := (cntS_pos T 2).2 ⟨u, hu, h3⟩
  omega
/-- what a task's status and that of one it comes after may be -/
theorem Wf.pairs {T : List Tk} (h : Wf T) {t : Tk} (ht : t ∈ T) {a : Int} (ha : a ∈ t.sp.aft) : (sgT T a = 4 ∧ (t.st = 1 ∨ t.st = 2 ∨ t.st = 4 ∨ t.st = 5 ∨ t.st = 6)) ∨ (t.st = 1 ∧ (sgT T a = 1 ∨ sgT T a = 2)) ∨ (t.st = 6 ∧ (sgT T a = 1 ∨ sgT T a = 2 ∨ sgT T a = 5 ∨ sgT T a = 6)) := by
  have he : Ed T a t.sp.id := ⟨t, ht, rfl, ha⟩
  have hti : t.sp.id ∈ idsK T := idsK_mem.2 ⟨t, ht, rfl⟩
  have h1 := h.sts a (h.pre a _ he)
  have h2 := h.sts _ hti
  have h3 := h.over _ hti
  have h4 := h.drop a _ he
  rw [sg_at h.nodup ht] at h2 h3 h4
  by_cases h5 : sgT T a = 4
  · exact .inl ⟨h5, h2⟩
  · have h6 : ¬ (t.st = 2 ∨ t.st = 4 ∨ t.st = 5) := fun e => h5 (h3 e a he)
    omega
end Go.Proofs.YthchkhgimnchcaaGreat
/- Stage 24: the document's Drop, Admit. -/
namespace Go.Proofs.YthchkhgimnchcaaGreat
open Go.RowKit

theorem goneT_next (T : List Tk) (ids : List Int) (k : Nat) (hk : k < ids.length) : goneT T (ids.take (k + 1)) = if live T ids[k] then goneT T (ids.take k) ++ [ids[k]] else goneT T (ids.take k) := by
  unfold goneT
  rw [List.take_succ_eq_append_getElem hk, List.filter_append]
  cases h : live T ids[k]
  · rw [List.filter_cons_of_neg (by simp [h])]
    simp
  · rw [List.filter_cons_of_pos h]
    simp
/-- a list is that one, or in new memory -/
def FromT (va v : Value) (B : Nat) : Prop := ∀ k, v.ownBlock = some k → va.ownBlock = some k ∨ B ≤ k
set_option maxHeartbeats 16000000 in
set_option maxRecDepth 100000 in
theorem refDrop24_any (va vi : Value) (T : List Tk) (ids : List Int) (W : World) (ha : RowsAt W 14 csTk va T) (hi : IntsAt W vi ids) (hn : ids.Nodup) (hl : T.length ≤ 1000) (hli : ids.length ≤ 1000) :
    Calls Tryz.prog 27 #[va, vi] W fun e w' => ∃ v u, e = .returned (.tuple #[v, u]) ∧ RowsAt w' 14 csTk v (setsT T (goneT T ids) 6) ∧ OwnI w' W.heap.size u (goneT T ids) ∧ Below W.heap.size W w' ∧ FromT va v W.heap.size := by
  obtain ⟨a, c, rfl⟩ := RowsAt.form ha
  obtain ⟨ai, ci, rfl⟩ := hi.form
  have HA := Lib.hid ha
  have HI := Lib.hid hi
  have HN := Lib.hid hn
  have HL := Lib.hid hl
  have l2 : (ids.length : Int) ≤ 1000 := by omega
  have t2 : (T.length : Int) ≤ 1000 := by omega
  clear ha hi hn hl
  go_enter Tryz.func27, Tryz.ntmps27
  go_wp2
  go_loopg [0, 6, 7] ids.length (fun kx lv gv iv ws => ∃ (k : Nat) (G : List Int), k ≤ ids.length ∧ ids.length - k ≤ kx ∧ iv = .int .i64 k ∧ Hid (G = goneT T (ids.take k)) ∧ Hid (RowsAt ws 14 csTk lv (setsT T G 6)) ∧ Hid (OwnI ws W.heap.size gv G) ∧ Hid (∀ b, lv.ownBlock = some b → gv.ownBlock ≠ some b) ∧ Hid (FromT (.slice a T.length c) lv W.heap.size) ∧ Hid (Below W.heap.size W ws))
  case atStart => exact ⟨0, [], Nat.zero_le _, Nat.le_refl _, rfl, rfl, by rw [setsT_nil]; exact HA.out, OwnR.nil _ _ _ _ _, fun _ _ => by simp [Value.ownBlock], fun k h => .inl h, Below.refl _ _⟩
  case round =>
    obtain ⟨k, G, hk, hkx, rfl, HG, HR, HO, HD, HM, HB⟩ := hrel
    obtain ⟨ao, co, e⟩ := (OwnI.ints HO.out).form
    subst e
    obtain ⟨al, cl, e⟩ := RowsAt.form HR.out
    rw [setsT_len] at e
    subst e
    by_cases hlt : k < ids.length
    · obtain ⟨g5, o5, c5, e, -, -, q0⟩ := (HI.out.below HB.out).spot k hlt
      simp only [Value.slice.injEq] at e
      obtain ⟨rfl, -, rfl⟩ := e
      have HQ := Lib.hid fun w' (hb : Below W.heap.size W w') => (show w'.cell? ⟨g5, o5 + k, none⟩ = some (.int .i64 (ids[k]'hlt)) from by
        obtain ⟨g6, o6, c6, e, -, -, q0⟩ := (HI.out.below hb).spot k hlt
        simp only [Value.slice.injEq, Option.some.injEq, Addr.mk.injEq] at e
        obtain ⟨⟨rfl, rfl, -⟩, -, rfl⟩ := e
        exact q0)
      have HLT := Lib.hid (And.intro hlt hkx)
      have k0 : (0 : Int) ≤ (k : Int) := by omega
      have k1 : (k : Int) < (ids.length : Int) := by omega
      have hgn := goneT_next T ids k hlt
      rw [← HG.out] at hgn
      have hnG : ids[k]'hlt ∉ G := by
        rw [HG.out]
        intro hm
        have h1 := (List.mem_filter.1 hm).1
        have h3 := HN.out
        rw [← List.take_append_drop k ids, List.drop_eq_getElem_cons hlt] at h3
        exact (List.nodup_append.1 h3).2.2 _ h1 _ List.mem_cons_self rfl
      have hGl : G.length ≤ 1000 := by
        rw [HG.out]
        have h1 := List.length_filter_le (live T) (ids.take k)
        rw [List.length_take] at h1
        unfold goneT
        omega
      generalize ids[k]'hlt = n at *
      have hrl : RowsAt wr 14 csTk (.slice al (setsT T G 6).length cl) (setsT T G 6) := by rw [setsT_len]; exact HR.out
      have GF0 := refFind23_any _ (setsT T G 6) n wr HR.out (by rw [setsT_len]; have := HL.out; omega)
      have HGL := Lib.hid hGl
      clear hlt hkx hk hGl
      by_cases hu : 0 ≤ plcL (idsK (setsT T G 6)) n
      · obtain ⟨q, hq⟩ : ∃ q : Nat, plcL (idsK (setsT T G 6)) n = (q : Int) := ⟨(plcL (idsK (setsT T G 6)) n).toNat, by omega⟩
        obtain ⟨hqT, hst⟩ := stO_plc hq
        rw [hq] at GF0
        have GF1 := Lib.hid GF0
        obtain ⟨gk, ok, ck, e, -, -, hx⟩ := RowsAt.spot HR.out q hqT
        simp only [Value.slice.injEq] at e
        obtain ⟨rfl, -, rfl⟩ := e
        have s9 : wr.cell? ⟨gk, ok + q * 14 + 9, none⟩ = some (.int .i64 ((setsT T G 6)[q]'hqT).st) := hx 9 _ rfl
        have hq2 : q < T.length := by rw [setsT_len] at hqT; exact hqT
        have q1 : (q : Int) < (T.length : Int) := by omega
        have q2 : (0 : Int) ≤ (q : Int) := by omega
        have qn : ¬ (q : Int) < 0 := by omega
        have hnT : n ∈ idsK T := by have := plc_ge.1 hu; rwa [setsT_ids] at this
        have hsg : sgT T n = ((setsT T G 6)[q]'hqT).st := by
          have h1 := sg_sets T G 6 n
          rw [if_neg (fun h => hnG h.1)] at h1
          rw [← h1]
          unfold sgT
          rw [hst]
          rfl
        have hlive : live T n = !endS ((setsT T G 6)[q]'hqT).st := by
          unfold live
          rw [hsg]
          simp [hnT]
        rw [hlive] at hgn
        generalize ((setsT T G 6)[q]'hqT).st = s at *
        have GE := Lib.hid (refEnded24_any s wr)
        have GS := Lib.hid fun w' v' (hr : RowsAt w' 14 csTk v' (setsT T G 6)) => refSet24_any v' (setsT T G 6) n 6 w' hr (by rw [setsT_len]; exact HL.out)
        have hss := setsT_snoc T G n 6
        have HSS := Lib.hid hss
        clear hx hst hq hu hq2 hnT hsg hlive hnG hrl hss hqT
        generalize endS s = β at *
        cases β with
        | true =>
          have HGN := Lib.hid (show G = goneT T (ids.take (k + 1)) from hgn.symm)
          clear hgn
          go_wp2_with (first
            | (go_at_call 17; (with_reducible refine GF1.out.mono ?_); rintro e w1 ⟨rfl, rfl⟩)
            | (go_at_call 24; (with_reducible refine GE.out.mono ?_); rintro e w1 ⟨rfl, rfl⟩))
          go_roundg (ids.length - (k + 1))
          case measure => have := HLT.out; omega
          case rel => exact ⟨k + 1, G, by have := HLT.out; omega, Nat.le_refl _, by go_num, HGN.out, HR.out, HO.out, HD.out, HM.out, HB.out⟩
        | false =>
          have HGN := Lib.hid (show G ++ [n] = goneT T (ids.take (k + 1)) from hgn.symm)
          clear hgn
          go_wp2_with (first
            | (go_at_call 17; (with_reducible refine GF1.out.mono ?_); rintro e w1 ⟨rfl, rfl⟩)
            | (go_at_call 24; (with_reducible refine GE.out.mono ?_); rintro e w1 ⟨rfl, rfl⟩)
            | (at_builtin; refine appI23 n HO.out HB.out.size (by have := HGL.out; omega) rfl _ _ rfl rfl rfl ?_; intro v6 w6 o6 b6 q6 _; have HO6 := Lib.hid o6; have HB6 := Lib.hid (HB.out.trans b6); have HR6 := Lib.hid (show RowsAt w6 14 csTk (.slice (some ⟨gk, ok, none⟩) T.length cl) (setsT T G 6) from HR.out.only q6 (fun _ b hb => HD.out b hb)); have r0 := HQ.out w6 HB6.out; clear o6 b6 q6 q0 s9)
            | (go_at_call 25; (with_reducible refine (GS.out _ _ HR6.out).mono ?_); rintro e w7 ⟨v7, rfl, h7, b7⟩; have H7 := Lib.hid (OwnR.rows csTk_len h7); have HO7 := Lib.hid (OwnR.kept HO6.out b7); have HB7 := Lib.hid (HB6.out.trans (b7.mono HB6.out.size)); have H7U := Lib.hid (OwnR.unlike h7 HO7.out (by decide)); have HM7 := Lib.hid (show FromT (.slice a T.length c) v7 W.heap.size from fun b hb => .inr (Nat.le_trans HB6.out.size (World.ownsRow.lt h7 b hb).1)); clear h7 b7))
          go_roundg (ids.length - (k + 1))
          case measure => have := HLT.out; omega
          case rel => exact ⟨k + 1, G ++ [n], by have := HLT.out; omega, Nat.le_refl _, by go_num, HGN.out, by rw [← HSS.out]; exact H7.out, HO7.out, H7U.out, HM7.out, HB7.out⟩
      · have hno : n ∉ idsK T := fun hm => hu (plc_ge.2 (by rw [setsT_ids]; exact hm))
        have hlive : live T n = false := by unfold live; simp [hno]
        have HGN := Lib.hid (show G = goneT T (ids.take (k + 1)) by rw [hgn, hlive]; rfl)
        generalize plcL (idsK (setsT T G 6)) n = u at *
        have GF1 := Lib.hid GF0
        clear hno hlive hgn hnG
        go_wp2_with (go_at_call 17; (with_reducible refine GF1.out.mono ?_); rintro e w1 ⟨rfl, rfl⟩)
        go_roundg (ids.length - (k + 1))
        case measure => have := HLT.out; omega
        case rel => exact ⟨k + 1, G, by have := HLT.out; omega, Nat.le_refl _, by go_num, HGN.out, HR.out, HO.out, HD.out, HM.out, HB.out⟩
    · have hke : k = ids.length := by omega
      subst hke
      have hg := HG.out
      rw [List.take_length] at hg
      have HGE := Lib.hid hg
      clear hg hlt hk hkx
      go_wp2
      exact bodyPost_ret (v := .tuple #[.slice al T.length cl, .slice ao G.length co]) (by simp [results, Tryz.results27, go_sem]) rfl ⟨_, _, rfl, by rw [← HGE.out]; exact HR.out, by rw [← HGE.out]; exact HO.out, HB.out, HM.out⟩
end Go.Proofs.YthchkhgimnchcaaGreat
/- Stage 24: the document's Admit. -/
namespace Go.Proofs.YthchkhgimnchcaaGreat
open Go.RowKit

set_option maxHeartbeats 16000000 in
set_option maxRecDepth 100000 in
theorem refAdmit24_any (va vl : Value) (T : List Tk) (room : Int) (L : List Sp) (W : World) (ha : RowsAt W 14 csTk va T) (hl : SpsAt W vl L) (htl : T.length ≤ 900) (hll : L.length ≤ 80) (haf : ∀ x ∈ L, x.aft.length ≤ 9223372036854775807) :
    Calls Tryz.prog 10 #[va, .int .i64 room, vl] W fun e w' => ∃ v u, e = .returned (.tuple #[v, u, .int .i64 (admDg room T L).2.2]) ∧ RowsAt w' 14 csTk v (admDg room T L).1 ∧ IntsAt w' u (admDg room T L).2.1 ∧ Below W.heap.size W w' ∧ ∀ j, v.ownBlock = some j → (va.ownBlock = some j ∧ (admDg room T L).1 = T) ∨ W.heap.size ≤ j := by
  obtain ⟨a, c, rfl⟩ := RowsAt.form ha
  obtain ⟨la, lc, rfl⟩ := hl.form
  have GC := Lib.hid (refCheck23_any room (.slice a T.length c) (.slice la L.length lc) T L W ha hl (by omega) hll haf)
  by_cases hchk : bchk room T L = 0
  · have e0 : admDg room T L = (admT T (freeO T L) L, freeO T L, 0) := if_pos hchk
    have hok := bchk_iff.1 hchk
    have ha8 : ∀ x ∈ L, x.aft.length ≤ 8 := fun x hx => chk_len (hok.chk x hx)
    rw [e0]
    rw [hchk] at GC
    have HA := Lib.hid ha
    have HL := Lib.hid hl
    have HTL := Lib.hid htl
    have HLN := Lib.hid hok.ne
    have l2 : (L.length : Int) ≤ 80 := by omega
    have GF := Lib.hid fun w' (hb : Below W.heap.size W w') => refFree23_any (.slice a T.length c) (.slice la L.length lc) T L w' (RowsAt.kept ha hb) (hl.kept hb) (by omega) hll ha8
    have HFL0 := Lib.hid (show (freeO T L).length ≤ 80 by have := freeO_len T L; omega)
    clear ha hl haf hok ha8 e0 hchk
    generalize freeO T L = free at *
    go_enter Tryz.func10, Tryz.ntmps10
    go_wp2_with (first
      | (go_at_call 30; (with_reducible refine GC.out.mono ?_); rintro e w1 ⟨rfl, hb⟩; have HB1 := Lib.hid hb; clear hb)
      | (go_at_call 31; (with_reducible refine (GF.out _ HB1.out).mono ?_); rintro e w2 ⟨vf, rfl, hf, hb⟩; have HF := Lib.hid hf; have HB2 := Lib.hid (HB1.out.trans (hb.mono HB1.out.size)); clear hf hb))
    have HA2 := Lib.hid (RowsAt.kept HA.out HB2.out)
    have HL2 := Lib.hid (HL.out.kept HB2.out)
    obtain ⟨fa, fc, e⟩ := (OwnI.ints HF.out).form
    subst e
    go_loopg [11, 12] L.length (fun kx ov iv ws => ∃ k : Nat, k ≤ L.length ∧ L.length - k ≤ kx ∧ iv = .int .i64 k ∧ Hid (RowsAt ws 14 csTk ov (admT T free (L.take k))) ∧ Hid (0 < k → ∀ b, ov.ownBlock = some b → W.heap.size ≤ b) ∧ Hid (Below w2.heap.size w2 ws))
    case atStart => exact ⟨0, Nat.zero_le _, Nat.le_refl _, rfl, HA2.out, (show 0 < 0 → _ from fun h => absurd h (Nat.lt_irrefl 0)), Below.refl _ _⟩
    case round =>
      obtain ⟨k, hk, hkx, rfl, HR, HM, HB⟩ := hrel
      obtain ⟨ao, co, e⟩ := RowsAt.form HR.out
      subst e
      by_cases hlt : k < L.length
      · obtain ⟨g, o, cc, id, prio, sk, ge, fx, fy, tx, ty, ya, yc, l, he, e, hlc, p0, p1, p2, p3, p4, p5, p6, p7, p8, hi8⟩ := (HL2.out.kept HB.out).spot k hlt
        cases e
        have HLT := Lib.hid (And.intro hlt hkx)
        have k0 : (0 : Int) ≤ (k : Int) := by omega
        have k1 : (k : Int) < (L.length : Int) := by omega
        have hat := admT_take T free L k hlt
        have hal : (admT T free (L.take k)).length ≤ 1000 := by rw [admT_len, List.length_take]; have := HTL.out; omega
        rw [he] at hat
        generalize admT T free (L.take k) = A at *
        have HAT := Lib.hid hat
        have GI := Lib.hid (refIn_any (.slice fa free.length fc) free id wr ((OwnI.ints HF.out).below HB.out) (by have := HFL0.out; omega))
        have GP := Lib.hid (show ∀ s, Calls Tryz.prog 33 #[.slice ao A.length co, .agg #[.int .i64 id, .int .i64 prio, .int .u64 sk, .int .u64 ge, .int .i64 fx, .int .i64 fy, .int .i64 tx, .int .i64 ty, .slice ya l.length yc, .int .i64 s, .int .i64 0, .int .i64 0, .int .i64 0, .slice none 0 0]] wr fun e w' => ∃ v, e = .returned v ∧ OwnR w' wr.heap.size 51 14 csTk v (insD (mkK ⟨id, prio, sk, ge, fx, fy, tx, ty, ya, yc, l⟩ s) A) ∧ Below wr.heap.size wr w' from fun s => refPut24_any (.slice ao A.length co) A (mkK ⟨id, prio, sk, ge, fx, fy, tx, ty, ya, yc, l⟩ s) wr HR.out hal)
        obtain ⟨β, hβ⟩ : ∃ β, inL free id = β := ⟨_, rfl⟩
        rw [hβ] at GI
        have hns : nst free ⟨id, prio, sk, ge, fx, fy, tx, ty, ya, yc, l⟩ = if β then 2 else 1 := by unfold nst; rw [← hβ]
        have HNS := Lib.hid hns
        clear hat hal hns hβ he hlc hlt hkx hk hi8
        cases β with
        | true =>
          have HS2 := Lib.hid (show admT T free (L.take (k + 1)) = insD (mkK ⟨id, prio, sk, ge, fx, fy, tx, ty, ya, yc, l⟩ 2) A by rw [HAT.out, HNS.out]; rfl)
          go_wp2_with (first
            | (go_at_call 32; (with_reducible refine GI.out.mono ?_); rintro e w1 ⟨rfl, rfl⟩)
            | (go_at_call 33; (with_reducible refine (GP.out 2).mono ?_); rintro e w7 ⟨v7, rfl, h7, b7⟩; have H7 := Lib.hid (OwnR.rows csTk_len h7); have HM7 := Lib.hid (show 0 < k + 1 → ∀ b, v7.ownBlock = some b → W.heap.size ≤ b from fun _ b hb => Nat.le_trans (Nat.le_trans HB2.out.size HB.out.size) (World.ownsRow.lt h7 b hb).1); have HB7 := Lib.hid (HB.out.trans (b7.mono HB.out.size)); clear h7 b7))
          go_roundg (L.length - (k + 1))
          case measure => have := HLT.out; omega
          case rel => exact ⟨k + 1, by have := HLT.out; omega, Nat.le_refl _, by go_num, by rw [HS2.out]; exact H7.out, HM7.out, HB7.out⟩
        | false =>
          have HS2 := Lib.hid (show admT T free (L.take (k + 1)) = insD (mkK ⟨id, prio, sk, ge, fx, fy, tx, ty, ya, yc, l⟩ 1) A by rw [HAT.out, HNS.out]; rfl)
          go_wp2_with (first
            | (go_at_call 32; (with_reducible refine GI.out.mono ?_); rintro e w1 ⟨rfl, rfl⟩)
            | (go_at_call 33; (with_reducible refine (GP.out 1).mono ?_); rintro e w7 ⟨v7, rfl, h7, b7⟩; have H7 := Lib.hid (OwnR.rows csTk_len h7); have HM7 := Lib.hid (show 0 < k + 1 → ∀ b, v7.ownBlock = some b → W.heap.size ≤ b from fun _ b hb => Nat.le_trans (Nat.le_trans HB2.out.size HB.out.size) (World.ownsRow.lt h7 b hb).1); have HB7 := Lib.hid (HB.out.trans (b7.mono HB.out.size)); clear h7 b7))
          go_roundg (L.length - (k + 1))
          case measure => have := HLT.out; omega
          case rel => exact ⟨k + 1, by have := HLT.out; omega, Nat.le_refl _, by go_num, by rw [HS2.out]; exact H7.out, HM7.out, HB7.out⟩
      · have hke : k = L.length := by omega
        subst hke
        have hr := HR.out
        have hm := HM.out
        rw [List.take_length] at hr hm ⊢
        have HR2 := Lib.hid hr
        have HM9 := Lib.hid hm
        clear hm hr hlt hkx hk HR
        go_wp2
        exact bodyPost_ret (v := .tuple #[.slice ao (admT T free L).length co, .slice fa free.length fc, .int .i64 0]) (by simp [results, Tryz.results10, go_sem]) rfl ⟨_, _, rfl, HR2.out, (OwnI.ints HF.out).below HB.out, HB2.out.trans (HB.out.mono HB2.out.size), fun j hj => .inr (HM9.out (by have := HLN.out; omega) j hj)⟩
  · have e0 : admDg room T L = (T, [], bchk room T L) := if_neg hchk
    rw [e0]
    obtain ⟨q, hq⟩ : ∃ q, bchk room T L = q := ⟨_, rfl⟩
    rw [hq] at GC hchk ⊢
    have e1 : (q != 0) = true := by simp [hchk]
    have HA := Lib.hid ha
    clear ha hl haf hchk e0 hq
    go_enter Tryz.func10, Tryz.ntmps10
    go_wp2_with (go_at_call 30; (with_reducible refine GC.out.mono ?_); rintro e w1 ⟨rfl, hb⟩; have HB1 := Lib.hid hb; clear hb)
    exact bodyPost_ret (v := .tuple #[.slice a T.length c, .slice none 0 0, .int .i64 q]) (by simp [results, Tryz.results10, go_sem]) rfl ⟨_, _, rfl, RowsAt.kept HA.out HB1.out, IntsAt.nil _, HB1.out, fun j hj => .inl (by simp; exact hj)⟩
end Go.Proofs.YthchkhgimnchcaaGreat
