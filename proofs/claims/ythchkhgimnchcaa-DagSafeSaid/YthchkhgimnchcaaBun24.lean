/- Texts of this proof, joined: DgH; DgI; OpenPt; OpenAis; OpenBss; OpenTk; OpenTask; OpenAct24; DgBase24. -/
import Derived.Test.YthchkhgimnchcaaBun23
import Derived.Deep.DeepCutAuto
import Derived.Test.YthchkhgimnchcaaRows
import Derived.Lib.SmallJoins
import Derived.ChangeArms
import Derived.Deep.Strs
import Derived.OpenShut
/- Stage 24: acts; the document's Few; the law's do. -/
namespace Go.Proofs.Ythchkhgimnchcaa
open Go.RowKit

structure Da where
  kind : Int
  id : Int
  a : Option Addr
  c : Nat
  batch : List Sp
deriving Inhabited
abbrev Da.v (x : Da) : Value := .slice x.a x.batch.length x.c
def csDa (x : Da) : List Value := [.int .i64 x.kind, .int .i64 x.id, x.v]
theorem csDa_len (x : Da) : (csDa x).length = 3 := rfl
structure DasAt (w : World) (v : Value) (l : List Da) : Prop where
  rows : RowsAt w 3 csDa v l
  each : ∀ x ∈ l, SpsAt w x.v x.batch
theorem DasAt.kept {w w' : World} {v : Value} {l : List Da} (h : DasAt w v l) (hb : Below w.heap.size w w') : DasAt w' v l := ⟨RowsAt.kept h.rows hb, fun x hx => (h.each x hx).kept hb⟩
theorem DasAt.spot {w : World} {v : Value} {l : List Da} (h : DasAt w v l) (k : Nat) (hk : k < l.length) :
    ∃ g o cc kind id a c b, l[k] = ⟨kind, id, a, c, b⟩ ∧ v = .slice (some ⟨g, o, none⟩) l.length cc ∧ l.length ≤ cc ∧ w.cell? ⟨g, o + k * 3, none⟩ = some (.int .i64 kind) ∧ w.cell? ⟨g, o + k * 3 + 1, none⟩ = some (.int .i64 id) ∧ w.cell? ⟨g, o + k * 3 + 2, none⟩ = some (.slice a b.length c) ∧ SpsAt w (.slice a b.length c) b := by
  obtain ⟨g, o, cc, e, hc, _, hx⟩ := RowsAt.spot h.rows k hk
  have hi := h.each _ (List.getElem_mem hk)
  generalize l[k] = x at *
  obtain ⟨kind, id, a, c, b⟩ := x
  exact ⟨g, o, cc, kind, id, a, c, b, rfl, e, hc, hx 0 _ rfl, hx 1 _ rfl, hx 2 _ rfl, hi⟩
def fewDa (l : List Da) (most : Int) : Bool := decide ((l.length : Int) ≤ most) && l.all fun x => fewS x.batch 12

set_option maxHeartbeats 4000000 in
set_option maxRecDepth 100000 in
theorem refFew24_any (va : Value) (l : List Da) (most : Int) (W : World) (ha : DasAt W va l) (hm : most ≤ 1000) :
    Calls Try.prog 5 #[va, .int .i64 most] W fun e w' => e = .returned (.bool (fewDa l most)) ∧ Below W.heap.size W w' := by
  obtain ⟨r, hr⟩ : ∃ r, fewDa l most = r := ⟨_, rfl⟩
  rw [hr]
  have HR := Lib.hid hr
  have HA := Lib.hid ha
  obtain ⟨a, c, rfl⟩ := RowsAt.form ha.rows
  clear hr ha
  by_cases h1 : (l.length : Int) ≤ most
  · have k1 : ¬ most < (l.length : Int) := by omega
    have HL := Lib.hid (show l.length ≤ 1000 by omega)
    have HH1 := Lib.hid h1
    clear h1
    go_enter Try.func5, Try.ntmps5
    go_wp2
    go_loopg [5] l.length (fun kx iv wr => ∃ k : Nat, k ≤ l.length ∧ l.length - k ≤ kx ∧ iv = .int .i64 k ∧ Hid ((l.take k).all (fun x => fewS x.batch 12) = true) ∧ Hid (Below W.heap.size W wr))
    case atStart => exact ⟨0, Nat.zero_le _, Nat.le_refl _, rfl, rfl, Below.refl _ _⟩
    case round =>
      obtain ⟨k, hk, hkx, rfl, HALL, HB⟩ := hrel
      by_cases hlt : k < l.length
      · obtain ⟨g, o, cc, kind, id, a2, c2, b, he, e, hc, p0, p1, p2, hs⟩ := (HA.out.kept HB.out).spot k hlt
        cases e
        have j1 : (k : Int) < (l.length : Int) := by omega
        have j0 : (0 : Int) ≤ (k : Int) := by omega
        have j2 : (k : Int) ≤ 1000 := by have := HL.out; omega
        have GF := Lib.hid (refFew22_any (.slice a2 b.length c2) b 12 wr hs.1 (by omega))
        have htk : (l.take (k + 1)).all (fun x => fewS x.batch 12) = ((l.take k).all (fun x => fewS x.batch 12) && fewS b 12) := by
          rw [List.take_succ_eq_append_getElem hlt, List.all_append, he]
          simp
        have hall : fewS b 12 = false → l.all (fun x => fewS x.batch 12) = false := fun hf => by
          rw [List.all_eq_false]
          exact ⟨l[k], List.getElem_mem hlt, by rw [he]; simp [hf]⟩
        generalize fewS b 12 = t at *
        have HTK := Lib.hid htk
        have HNO := Lib.hid hall
        have HLT := Lib.hid (And.intro hlt hkx)
        clear htk hall he hs hc hlt hkx hk
        cases t with
        | true =>
          go_wp2_with (go_at_call 16; (with_reducible refine GF.out.mono ?_); rintro e w1 ⟨rfl, hb⟩; have HB1 := Lib.hid (HB.out.trans (hb.mono HB.out.size)); clear hb)
          go_roundg (l.length - (k + 1))
          case measure => have := HLT.out; omega
          case rel => exact ⟨k + 1, by have := HLT.out; omega, Nat.le_refl _, by go_num, by rw [HTK.out, HALL.out]; rfl, HB1.out⟩
        | false =>
          have HF := Lib.hid (show false = r by rw [← HR.out]; unfold fewDa; rw [HNO.out rfl]; simp)
          go_wp2_with (go_at_call 16; (with_reducible refine GF.out.mono ?_); rintro e w1 ⟨rfl, hb⟩; have HB1 := Lib.hid (HB.out.trans (hb.mono HB.out.size)); clear hb)
          go_ret
          exact ⟨ret_b HF.out, HB1.out⟩
      · have hke : k = l.length := by omega
        subst hke
        have hal := HALL.out
        rw [List.take_length] at hal
        have HF := Lib.hid (show true = r by rw [← HR.out]; unfold fewDa; rw [hal]; simp [HH1.out])
        clear hal HALL hlt hk hkx
        go_wp2
        go_ret
        exact ⟨ret_b HF.out, HB.out⟩
  · have k1 : most < (l.length : Int) := by omega
    have HF := Lib.hid (show false = r by rw [← HR.out]; unfold fewDa; simp [h1])
    clear h1
    go_enter Try.func5, Try.ntmps5
    go_wp2
    go_ret
    exact ⟨ret_b HF.out, Below.refl _ _⟩

/-- what an act makes -/
def actDg (room : Int) (T : List Tk) (x : Da) : List Tk × List Int × Int := if x.kind = 1 then endDg T x.id 1 else if x.kind = 2 then endDg T x.id 2 else if x.kind = 3 then endDg T x.id 3 else admDg room T x.batch
section
variable {F : Nat → Prop} {p mb : Nat} {room : Int} {T : List Tk} {nx : Int → List Int} {g : Int → Option Nat} {Fm : Int → Nat → Prop}
theorem EndsDg.adms {w : World} (hlt : ∀ k, F k → k < w.heap.size) {r : List Tk × List Int × Int} {e : Ending} {w' : World} (h : EndsDg F w p mb room nx g Fm r e w') : AdmsDg F w p mb room r e w' := by
  obtain ⟨v, h1, h2, h3, h4, h5⟩ := h
  exact ⟨v, F, nx, g, Fm, h1, h2, fun k hk => ⟨h3 k hk, fun e => by have := h3 k hk; have := hlt k e; omega⟩, h4, ⟨h5, fun k hk => .inl hk⟩⟩
theorem AdmsDg.after {w w0 : World} {r : List Tk × List Int × Int} {e : Ending} {w' : World} (hb : Below w0.heap.size w0 w) (h : AdmsDg F w p mb room r e w') : AdmsDg F w0 p mb room r e w' := by
  obtain ⟨v, F', nx', g', Fm', h1, h2, h3, h4, h5⟩ := h
  exact ⟨v, F', nx', g', Fm', h1, h2, fun k hk => ⟨Nat.le_trans hb.size (h3 k hk).1, (h3 k hk).2⟩, h4, (Mv.of_below hb).trans h5⟩
set_option maxHeartbeats 4000000 in
set_option maxRecDepth 100000 in
theorem dDo_any (w : World) (h : DagP F w p mb room T nx g Fm) (x : Da) (hi : I64 x.id) (hs : ∀ w', Only F w w' → SpsAt w' x.v x.batch) (hL : x.batch.length ≤ 30) (h64 : Sp64 x.batch) (haf : ∀ y ∈ x.batch, y.aft.length ≤ 9223372036854775807) :
    Calls Try.prog 8 #[ndv p, .agg #[.int .i64 x.kind, .int .i64 x.id, .slice x.a x.batch.length x.c]] w (AdmsDg F w p mb room (actDg room T x)) := by
  obtain ⟨kind, id, a, c, b⟩ := x
  dsimp only [Da.v] at *
  have hal := (Below.refl w.heap.size w).alloc (Nat.le_refl _) (.cells #[.int .i64 kind, .int .i64 id, .slice a b.length c] 30)
  have hX := Blk.new w [.int .i64 kind, .int .i64 id, .slice a b.length c] 30
  have hlt := h.lt
  have h1 := h.kept hal
  have G1 := Lib.hid (dDone_any _ h1 id hi)
  have G2 := Lib.hid (dFail_any _ h1 id hi)
  have G3 := Lib.hid (dCancel_any _ h1 id hi)
  have G4 := Lib.hid (dAdmit_any _ h1 (.slice a b.length c) b (fun w' ho => hs w' (((Only.of_below hal).mono fun _ h => h).trans ho)) hL h64 haf)
  have HC := Lib.hid fun r e w' (hh : EndsDg F (w.alloc (.cells #[.int .i64 kind, .int .i64 id, .slice a b.length c] 30)) p mb room nx g Fm r e w') => AdmsDg.after hal (EndsDg.adms (fun k hk => Nat.lt_of_lt_of_le (hlt k hk) hal.size) hh)
  have HC4 := Lib.hid fun r e w' (hh : AdmsDg F (w.alloc (.cells #[.int .i64 kind, .int .i64 id, .slice a b.length c] 30)) p mb room r e w') => AdmsDg.after hal hh
  have x0 := hX.cell 0 rfl
  have x1 := hX.cell 1 rfl
  have x2 := hX.cell 2 rfl
  clear hX h1 h hs hL h64 haf hal hlt hi
  by_cases k1 : kind = 1
  · have e : actDg room T ⟨kind, id, a, c, b⟩ = endDg T id 1 := by unfold actDg; rw [if_pos k1]
    rw [e]
    subst k1
    clear e
    generalize endDg T id 1 = r at *
    obtain ⟨T', l', q⟩ := r
    go_enter Try.func8, Try.ntmps8
    go_wp2_with (go_at_call 15; (with_reducible refine G1.out.mono ?_); rintro e w1 hh; have HH := Lib.hid (HC.out _ _ _ hh); clear hh; obtain ⟨v, F', nx', g', Fm', rfl, hq⟩ := HH.out)
    exact bodyPost_ret (v := .tuple #[v, .int .i64 q]) (by simp [results, Try.results8, go_sem]) rfl HH.out
  have e1 : (kind == 1) = false := beq_noI k1
  by_cases k2 : kind = 2
  · have e : actDg room T ⟨kind, id, a, c, b⟩ = endDg T id 2 := by unfold actDg; rw [if_neg k1, if_pos k2]
    rw [e]
    subst k2
    clear e e1 k1
    generalize endDg T id 2 = r at *
    obtain ⟨T', l', q⟩ := r
    go_enter Try.func8, Try.ntmps8
    go_wp2_with (go_at_call 19; (with_reducible refine G2.out.mono ?_); rintro e w1 hh; have HH := Lib.hid (HC.out _ _ _ hh); clear hh; obtain ⟨v, F', nx', g', Fm', rfl, hq⟩ := HH.out)
    exact bodyPost_ret (v := .tuple #[v, .int .i64 q]) (by simp [results, Try.results8, go_sem]) rfl HH.out
  have e2 : (kind == 2) = false := beq_noI k2
  by_cases k3 : kind = 3
  · have e : actDg room T ⟨kind, id, a, c, b⟩ = endDg T id 3 := by unfold actDg; rw [if_neg k1, if_neg k2, if_pos k3]
    rw [e]
    subst k3
    clear e e1 e2 k1 k2
    generalize endDg T id 3 = r at *
    obtain ⟨T', l', q⟩ := r
    go_enter Try.func8, Try.ntmps8
    go_wp2_with (go_at_call 17; (with_reducible refine G3.out.mono ?_); rintro e w1 hh; have HH := Lib.hid (HC.out _ _ _ hh); clear hh; obtain ⟨v, F', nx', g', Fm', rfl, hq⟩ := HH.out)
    exact bodyPost_ret (v := .tuple #[v, .int .i64 q]) (by simp [results, Try.results8, go_sem]) rfl HH.out
  have e3 : (kind == 3) = false := beq_noI k3
  have e : actDg room T ⟨kind, id, a, c, b⟩ = admDg room T b := by unfold actDg; rw [if_neg k1, if_neg k2, if_neg k3]
  rw [e]
  clear e k1 k2 k3
  generalize admDg room T b = r at *
  obtain ⟨T', l', q⟩ := r
  go_enter Try.func8, Try.ntmps8
  go_wp2_with (go_at_call 13; (with_reducible refine G4.out.mono ?_); rintro e w1 hh; have HH := Lib.hid (HC4.out _ _ _ hh); clear hh; obtain ⟨v, F', nx', g', Fm', rfl, hq⟩ := HH.out)
  exact bodyPost_ret (v := .tuple #[v, .int .i64 q]) (by simp [results, Try.results8, go_sem]) rfl HH.out
end
end Go.Proofs.Ythchkhgimnchcaa
/- Stage 24: what must come at any rate. (wip/gen/gen24I.py writes this text.) -/
namespace Go.Proofs.Ythchkhgimnchcaa
open Go.RowKit

abbrev a24_1 : Sp := ⟨1, 0, 0, 0, 0, 0, 0, 0, none, 0, []⟩
abbrev a24_2 (n : Nat) : Sp := ⟨2, 0, 0, 0, 0, 0, 0, 0, some ⟨n + 1, 0, none⟩, 1, [1]⟩
abbrev a24_3 (n : Nat) : Sp := ⟨3, 0, 0, 0, 0, 0, 0, 0, some ⟨n, 0, none⟩, 1, [2]⟩
abbrev L24 (n : Nat) : List Sp := [a24_3 n, a24_1, a24_2 n]
abbrev TA24 (n : Nat) : List Tk := [mkK a24_1 2, mkK (a24_2 n) 1, mkK (a24_3 n) 1]
abbrev TB24 (n : Nat) : List Tk := [mkK a24_1 4, mkK (a24_2 n) 2, mkK (a24_3 n) 1]
abbrev TC24 (n : Nat) : List Tk := [mkK a24_1 4, mkK (a24_2 n) 6, mkK (a24_3 n) 6]
theorem whole24 (n : Nat) : wholeB (L24 n) = true := (by decide +kernel : decide ((ordL [3, 1, 2] [⟨2, 3⟩, ⟨1, 2⟩]).length = (setL [3, 1, 2]).length) = true)
theorem first24 (n : Nat) : firstE (L24 n) = 0 := firstE_zero.2 fun z hz => by
  simp only [List.mem_cons, List.not_mem_nil, or_false] at hz
  rcases hz with rfl | rfl | rfl <;> exact chk_zero (by rfl) (by rfl)
theorem bchk24 (n : Nat) : bchk 5 [] (L24 n) = 0 := by
  unfold bchk
  rw [first24, whole24]
  rfl
theorem adm24 (n : Nat) : admDg 5 [] (L24 n) = (TA24 n, [1], 0) := by
  unfold admDg
  rw [if_pos (bchk24 n)]
  rfl
theorem endA24 (n : Nat) : endDg (TA24 n) 1 1 = (TB24 n, [2], 0) := by
  rw [endDg_1 (by decide +kernel : (1 : Int) ∈ [(1 : Int), 2, 3]) (by rfl)]
  rfl
theorem beh24 (n : Nat) : setL (2 :: behindT (TB24 n) 2) = [2, 3] := (by decide +kernel : setL (2 :: reachL [1, 2, 3] [⟨1, 2⟩, ⟨2, 3⟩] [3]) = [2, 3])
theorem endB24 (n : Nat) : endDg (TB24 n) 2 3 = (TC24 n, [2, 3], 0) := by
  rw [endDg_3 (by decide +kernel : (2 : Int) ∈ [(1 : Int), 2, 3]) (by rfl)]
  unfold cancDg
  rw [beh24]
  rfl

theorem SpsAt.only {F : Nat → Prop} {w w' : World} {v : Value} {L : List Sp} (h : SpsAt w v L) (ho : Only F w w') (hv : OffV F v L.length) (hx : ∀ x ∈ L, OffV F x.v x.aft.length) : SpsAt w' v L :=
  ⟨RowsAt.only h.1 ho hv, fun x hxm => RowsAt.ints (RowsAt.only (h.2 x hxm).rows ho (hx x hxm))⟩
theorem adms24 {F : Nat → Prop} {p mb : Nat} {nx : Int → List Int} {g : Int → Option Nat} {Fm : Int → Nat → Prop} (w1 : World) (h : DagP F w1 p mb 5 [] nx g Fm) :
    Calls Try.prog 13 #[ndv p, .slice (some ⟨w1.heap.size + 1 + 1, 0, none⟩) 3 3] (((w1.alloc (.cells #[.int .i64 2] 3)).alloc (.cells #[.int .i64 1] 3)).alloc (.cells #[.int .i64 3, .int .i64 0, .int .u64 0, .int .u64 0, .int .i64 0, .int .i64 0, .int .i64 0, .int .i64 0, .slice (some ⟨w1.heap.size, 0, none⟩) 1 1, .int .i64 1, .int .i64 0, .int .u64 0, .int .u64 0, .int .i64 0, .int .i64 0, .int .i64 0, .int .i64 0, .slice none 0 0, .int .i64 2, .int .i64 0, .int .u64 0, .int .u64 0, .int .i64 0, .int .i64 0, .int .i64 0, .int .i64 0, .slice (some ⟨w1.heap.size + 1, 0, none⟩) 1 1] 41)) (AdmsDg F w1 p mb 5 (TA24 w1.heap.size, [1], 0)) := by
  have b1 := (Below.refl w1.heap.size w1).alloc (Nat.le_refl _) (.cells #[.int .i64 2] 3)
  have f1 := IntsAt.lit w1 [2] 3
  change IntsAt (w1.alloc (.cells #[.int .i64 2] 3)) _ _ at f1
  have s1 : (w1.alloc (.cells #[.int .i64 2] 3)).heap.size = w1.heap.size + 1 := by simp
  have hlt := h.lt
  have hk1 := h.kept b1
  generalize hn : w1.heap.size = n at *
  have r0 := adm24 n
  generalize w1.alloc (.cells #[.int .i64 2] 3) = W2 at *
  have b2 := (Below.refl W2.heap.size W2).alloc (Nat.le_refl _) (.cells #[.int .i64 1] 3)
  have f2 := IntsAt.lit W2 [1] 3
  change IntsAt (W2.alloc (.cells #[.int .i64 1] 3)) _ _ at f2
  have s2 : (W2.alloc (.cells #[.int .i64 1] 3)).heap.size = n + 1 + 1 := by simp [s1]
  rw [s1] at f2
  generalize W2.alloc (.cells #[.int .i64 1] 3) = W3 at *
  have b3 := (Below.refl W3.heap.size W3).alloc (Nat.le_refl _) (.cells (flats csSp (L24 n)).toArray 41)
  have f3 := rowsLit csSp_len W3 (L24 n) 41 3 rfl
  rw [s2] at f3
  have c2 := b2.trans (b3.mono b2.size)
  have c1 := b1.trans (c2.mono (by have := b1.size; omega))
  have hs4 : SpsAt (W3.alloc (.cells (flats csSp (L24 n)).toArray 41)) (.slice (some ⟨n + 1 + 1, 0, none⟩) 3 3) (L24 n) := ⟨f3, fun x hx => by
    simp only [List.mem_cons, List.not_mem_nil, or_false] at hx
    rcases hx with rfl | rfl | rfl
    · exact f1.below c2
    · exact IntsAt.nil _
    · exact f2.below b3⟩
  have hk4 := hk1.kept c2
  have hgo : ∀ k, n ≤ k → ¬ F k := fun k hk e => by have := hlt k e; omega
  have q := dAdmit_any _ hk4 (.slice (some ⟨n + 1 + 1, 0, none⟩) (L24 n).length 3) (L24 n) (fun w' ho => hs4.only ho (fun _ k hk => by simp [Value.ownBlock] at hk; exact hgo k (by omega)) (fun x hx _ k hk => by
    simp only [List.mem_cons, List.not_mem_nil, or_false] at hx
    rcases hx with rfl | rfl | rfl
    · simp [Value.ownBlock] at hk; exact hgo k (by omega)
    · simp [Value.ownBlock] at hk
    · simp [Value.ownBlock] at hk; exact hgo k (by omega))) (by simp) (fun x hx => by
    simp only [List.mem_cons, List.not_mem_nil, or_false] at hx
    rcases hx with rfl | rfl | rfl <;> refine ⟨by unfold I64; simp, fun m hm => ?_⟩ <;> simp at hm <;> subst hm <;> unfold I64 <;> omega) (fun x hx => by
    simp only [List.mem_cons, List.not_mem_nil, or_false] at hx
    rcases hx with rfl | rfl | rfl <;> simp)
  rw [r0] at q
  exact q.mono fun e w' hh => AdmsDg.after (by rw [hn]; exact c1) hh
set_option maxHeartbeats 8000000 in
set_option maxRecDepth 100000 in
theorem dAlive_any (w : World) : Calls Try.prog 6 #[] w fun e w' => e = .returned (.bool true) ∧ Below w.heap.size w w' := by
  have G0 := Lib.hid (dNew_any 5 w)
  have GA := Lib.hid fun F p mb nx g Fm (w1 : World) (h : DagP F w1 p mb 5 [] nx g Fm) => adms24 w1 h
  have GD := Lib.hid fun F p mb nx g Fm (w1 : World) (n : Nat) (h : DagP F w1 p mb 5 (TA24 n) nx g Fm) => endA24 n ▸ dDone_any w1 h 1 (by unfold I64; omega)
  have GC := Lib.hid fun F p mb nx g Fm (w1 : World) (n : Nat) (h : DagP F w1 p mb 5 (TB24 n) nx g Fm) => endB24 n ▸ dCancel_any w1 h 2 (by unfold I64; omega)
  have GS := Lib.hid fun F p mb nx g Fm (w1 : World) (n : Nat) (h : DagP F w1 p mb 5 (TC24 n) nx g Fm) => (show Calls Try.prog 11 #[ndv p, .int .i64 3] w1 fun e w' => e = .returned (.int .i64 6) ∧ w1 = w' from dStatus_any w1 h 3 (by unfold I64; omega))
  have GL := Lib.hid fun F p mb nx g Fm (w1 : World) (n : Nat) (h : DagP F w1 p mb 5 (TC24 n) nx g Fm) => (show Calls Try.prog 14 #[ndv p] w1 fun e w' => e = .returned (.int .i64 3) ∧ w1 = w' from dLen_any w1 h)
  have H1 := Lib.hid (show ∀ (W : World) (v : Value), IntsAt W v [1] → Calls Try.prog 18 #[v, .slice (some ⟨W.heap.size, 0, none⟩) 1 1] (W.alloc (.cells #[.int .i64 1] 3)) fun e w' => e = .returned (.bool true) ∧ Below W.heap.size W w' from fun W v h => by
    have hb := (Below.refl W.heap.size W).alloc (Nat.le_refl _) (.cells #[.int .i64 1] 3)
    have q := refInts_any v _ [1] [1] _ (h.below hb) (IntsAt.lit W [1] 3) (by simp) (by simp)
    rw [decide_eq_true rfl] at q
    exact q.mono fun e w' ⟨h1, h3⟩ => ⟨h1, hb.trans (h3.mono hb.size)⟩)
  have H2 := Lib.hid (show ∀ (W : World) (v : Value), IntsAt W v [2] → Calls Try.prog 18 #[v, .slice (some ⟨W.heap.size, 0, none⟩) 1 1] (W.alloc (.cells #[.int .i64 2] 3)) fun e w' => e = .returned (.bool true) ∧ Below W.heap.size W w' from fun W v h => by
    have hb := (Below.refl W.heap.size W).alloc (Nat.le_refl _) (.cells #[.int .i64 2] 3)
    have q := refInts_any v _ [2] [2] _ (h.below hb) (IntsAt.lit W [2] 3) (by simp) (by simp)
    rw [decide_eq_true rfl] at q
    exact q.mono fun e w' ⟨h1, h3⟩ => ⟨h1, hb.trans (h3.mono hb.size)⟩)
  have H3 := Lib.hid (show ∀ (W : World) (v : Value), IntsAt W v [2, 3] → Calls Try.prog 18 #[v, .slice (some ⟨W.heap.size, 0, none⟩) 2 2] (W.alloc (.cells #[.int .i64 2, .int .i64 3] 3)) fun e w' => e = .returned (.bool true) ∧ Below W.heap.size W w' from fun W v h => by
    have hb := (Below.refl W.heap.size W).alloc (Nat.le_refl _) (.cells #[.int .i64 2, .int .i64 3] 3)
    have q := refInts_any v _ [2, 3] [2, 3] _ (h.below hb) (IntsAt.lit W [2, 3] 3) (by simp) (by simp)
    rw [decide_eq_true rfl] at q
    exact q.mono fun e w' ⟨h1, h3⟩ => ⟨h1, hb.trans (h3.mono hb.size)⟩)
  go_enter Try.func6, Try.ntmps6
  go_wp2_with (first
    | (go_at_call 7; (with_reducible refine G0.out.mono ?_); rintro e w1 ⟨p, mb, F, nx, g, Fm, rfl, q1, q2, q3⟩; rw [show clipD 5 = 5 from rfl] at q1; have HD := Lib.hid q1; have HF := Lib.hid q2; have HB := Lib.hid q3; clear q1 q2 q3)
    | (go_at_call 13; (with_reducible refine (GA.out _ _ _ _ _ _ _ HD.out).mono ?_); rintro e w2 ⟨v2, F2, nx2, g2, Fm2, rfl, q1, q2, q3, q4⟩; obtain ⟨a2, c2, e⟩ := q1.form; subst e; have HI2 := Lib.hid (show IntsAt w2 (.slice a2 1 c2) [1] from q1); have HO2 := Lib.hid (show OffV F2 (.slice a2 1 c2) 1 from fun _ k hk => (q2 k hk).2); have HD2 := Lib.hid q3; have HF2 := Lib.hid (q4.from_ HF.out HB.out.size); have HB2 := Lib.hid (HB.out.trans (q4.only.below HF.out HB.out.size)); clear q1 q2 q3 q4)
    | (go_at_call 15; (with_reducible refine (GD.out _ _ _ _ _ _ _ _ HD2.out).mono ?_); rintro e w3 ⟨v3, rfl, q1, q2, q3, q4⟩; obtain ⟨a3, c3, e⟩ := q1.form; subst e; have HI3 := Lib.hid (show IntsAt w3 (.slice a3 1 c3) [2] from q1); have HO3 := Lib.hid (show OffV F2 (.slice a3 1 c3) 1 from fun _ k hk e => by have := q2 k hk; have := HD2.out.lt k e; omega); have HD3 := Lib.hid q3; have HJ2 := Lib.hid (RowsAt.ints (RowsAt.only HI2.out.rows q4 HO2.out)); have HB3 := Lib.hid (HB2.out.trans (q4.below HF2.out HB2.out.size)); clear q1 q2 q3 q4 HI2)
    | (go_at_call 17; (with_reducible refine (GC.out _ _ _ _ _ _ _ _ HD3.out).mono ?_); rintro e w4 ⟨v4, rfl, q1, q2, q3, q4⟩; obtain ⟨a4, c4, e⟩ := q1.form; subst e; have HI4 := Lib.hid (show IntsAt w4 (.slice a4 2 c4) [2, 3] from q1); have HD4 := Lib.hid q3; have HK2 := Lib.hid (RowsAt.ints (RowsAt.only HJ2.out.rows q4 HO2.out)); have HK3 := Lib.hid (RowsAt.ints (RowsAt.only HI3.out.rows q4 HO3.out)); have HB4 := Lib.hid (HB3.out.trans (q4.below HF2.out HB3.out.size)); clear q1 q2 q3 q4 HJ2 HI3 HB3 HD3)
    | (go_at_call 18; (with_reducible refine (H1.out _ _ HK2.out).mono ?_); rintro e w5 ⟨rfl, hb⟩; replace HB4 := Lib.hid (HB4.out.trans (hb.mono HB4.out.size)); replace HD4 := Lib.hid (HD4.out.kept hb); replace HK3 := Lib.hid (HK3.out.below hb); replace HI4 := Lib.hid (HI4.out.below hb); clear hb HK2)
    | (go_at_call 18; (with_reducible refine (H2.out _ _ HK3.out).mono ?_); rintro e w6 ⟨rfl, hb⟩; replace HB4 := Lib.hid (HB4.out.trans (hb.mono HB4.out.size)); replace HD4 := Lib.hid (HD4.out.kept hb); replace HI4 := Lib.hid (HI4.out.below hb); clear hb HK3)
    | (go_at_call 18; (with_reducible refine (H3.out _ _ HI4.out).mono ?_); rintro e w7 ⟨rfl, hb⟩; replace HB4 := Lib.hid (HB4.out.trans (hb.mono HB4.out.size)); replace HD4 := Lib.hid (HD4.out.kept hb); clear hb HI4)
    | (go_at_call 11; (with_reducible refine (GS.out _ _ _ _ _ _ _ _ HD4.out).mono ?_); rintro e w8 ⟨rfl, rfl⟩)
    | (go_at_call 14; (with_reducible refine (GL.out _ _ _ _ _ _ _ _ HD4.out).mono ?_); rintro e w9 ⟨rfl, rfl⟩))
  go_ret
  exact ⟨rfl, HB4.out⟩
end Go.Proofs.Ythchkhgimnchcaa
/- A point that comes in, opened. -/
namespace Go.Proofs.Ythchkhgimnchcaa
open Go.RowKit Go.ChangeShapes Go.WideShapes Go.Joins

theorem cells_point : Try.prog.cellsOf 39 = 2 := by kernel_rfl
def In64 (n : Int) : Prop := -9223372036854775808 ≤ n ∧ n ≤ 9223372036854775807
theorem in64_of_wf {n : Int} (h : (Lit.int .i64 n).wf = true) : In64 n := by
  simp [Lit.wf] at h
  exact h
set_option maxRecDepth 100000 in
theorem open_point {H : Type} {enc : TypeId × Value → H} {w : World} {base : Nat} {v : Value} {d : DataW H} {p : List MemPlace} (hok : Value.okWide Try.prog w .any base 39 v) (h : DataW.Trod enc Try.prog w 0 (fun _ => true) true 39 v d p) :
    ∃ x y : Int, v = .agg #[.int .i64 x, .int .i64 y] ∧ In64 x ∧ In64 y := by
  obtain ⟨c0, c1, y0, y1, m, rfl, _, _, hy0, hy1⟩ := open_agg2 Try.underlying39 (by kernel_rfl) cells_point hok h
  obtain ⟨a, e0, _, wa⟩ := DataW.trod_int Try.underlying3 hy0
  obtain ⟨b, e1, _, wb⟩ := DataW.trod_int Try.underlying3 hy1
  simp at e0 e1
  subst e0 e1
  exact ⟨a, b, rfl, in64_of_wf wa, in64_of_wf wb⟩

theorem cells_int_pt : Try.prog.cellsOf 3 = 1 := by kernel_rfl
end Go.Proofs.Ythchkhgimnchcaa
/- Aisles that come in, opened. -/
namespace Go.Proofs.Ythchkhgimnchcaa
open Go.RowKit Go.ChangeShapes Go.WideShapes Go.Joins Go.Deep

theorem list5 {α : Type} {l : List α} (h : l.length = 5) : ∃ a b c d e, l = [a, b, c, d, e] := by
  match l, h with
  | [a, b, c, d, e], _ => exact ⟨a, b, c, d, e, rfl⟩
def Ais.In (a : Ais) : Prop := In64 a.id ∧ (In64 a.lx ∧ In64 a.ly) ∧ In64 a.hx ∧ In64 a.hy
end Go.Proofs.Ythchkhgimnchcaa
/- Lists of lists of bytes that come in. -/
namespace Go.Proofs.Ythchkhgimnchcaa
open Go.RowKit Go.ChangeShapes Go.WideShapes Go.Joins Go.Deep

set_option maxRecDepth 100000 in
/-- a slice that lies in a cell -/
theorem open_rows_good {α : Type} [Inhabited α] {H : Type} {enc : TypeId × Value → H} {w : World} {t e : TypeId} {K n0 : Nat} {xs0 : List Value} {z : DataW H × List MemPlace} (cs : α → List Value) (good : α → Prop)
    (ht : Try.prog.underlying t = some (.slice e)) (ce : Try.prog.cellsOf e = K) (hK : 0 < K)
    (elem : ∀ n xs x, xs.length = K → DataW.trod enc Try.prog w 0 (fun _ => true) true n e xs = some x → ∃ y, xs = cs y ∧ good y)
    (hx0 : DataW.trod enc Try.prog w 0 (fun _ => true) true n0 t xs0 = some z) :
    ∃ a len cap l, xs0 = [.slice a len cap] ∧ RowsAt w K cs (.slice a len cap) l ∧ l.length ≤ 9223372036854775807 ∧ ∀ x ∈ l, good x := by
  obtain ⟨d, p⟩ := z
  rcases open_slice ht hx0 with ⟨hcs, _⟩ | ⟨x, ln, c, m, n, D, Pl, hcs, _, hl, hm, hmm, _, hx⟩
  · exact ⟨none, 0, 0, [], hcs, RowsAt.nil _ _ _, by simp, by simp⟩
  · have hmc : m = c := by simpa using hmm
    subst hmc
    rw [ce] at hx
    have each : ∀ i, i < m → ∃ y : α, (∀ j u, (cs y)[j]? = some u → w.cell? ((x.add (i * K)).add j) = some u) ∧ good y ∧ (cs y).length = K := by
      intro i hi
      obtain ⟨xs, h1, h2⟩ := hx i hi
      obtain ⟨_, hlen, hcell⟩ := World.cells?_some h1
      obtain ⟨y, rfl, hg⟩ := elem n xs _ hlen h2
      refine ⟨y, fun j u hu => ?_, hg, hlen⟩
      have := hcell j (by rw [← hlen]; exact (List.getElem?_eq_some_iff.1 hu).1)
      rw [this, hu]
    obtain ⟨q, hq⟩ := choose_lt each
    have hll : ((List.range ln).map q).length = ln := by simp
    refine ⟨some x, ln, m, (List.range ln).map q, hcs, ⟨some x, m, by rw [hll], by rw [hll]; exact hl, fun h0 => ?_⟩, ?_, fun y hy => ?_⟩
    · rw [hll] at h0
      obtain ⟨h1, _, h3⟩ := hq 0 (by omega)
      obtain ⟨u, hu⟩ : ∃ u, (cs (q 0))[0]? = some u := ⟨_, List.getElem?_eq_getElem (by omega)⟩
      have h4 := h1 0 u hu
      obtain ⟨b, off, spot⟩ := x
      have hspot : spot = none := by simpa [Addr.add] using World.cell?_spot h4
      subst hspot
      rw [add_plain, add_plain] at h4
      refine ⟨b, off, rfl, World.block_lt_of_cell? _ _ h4, fun j y hj i u hu => ?_⟩
      have hjl : j < ln := by rw [← hll]; exact (List.getElem?_eq_some_iff.1 hj).1
      have hyq : q j = y := by simpa [hjl] using hj
      rw [← hyq] at hu
      have := (hq j (by omega)).1 i u hu
      rw [add_plain, add_plain] at this
      exact this
    · rw [hll]
      unfold maxLen at hm
      omega
    · rw [List.mem_map] at hy
      obtain ⟨i, hi, rfl⟩ := hy
      exact (hq i (by have := List.mem_range.1 hi; omega)).2.1
theorem open_rows_in {α : Type} [Inhabited α] {H : Type} {enc : TypeId × Value → H} {w : World} {t e : TypeId} {K n0 : Nat} {xs0 : List Value} {z : DataW H × List MemPlace} (cs : α → List Value)
    (ht : Try.prog.underlying t = some (.slice e)) (ce : Try.prog.cellsOf e = K) (hK : 0 < K)
    (elem : ∀ n xs x, xs.length = K → DataW.trod enc Try.prog w 0 (fun _ => true) true n e xs = some x → ∃ y, xs = cs y)
    (hx0 : DataW.trod enc Try.prog w 0 (fun _ => true) true n0 t xs0 = some z) :
    ∃ a len cap l, xs0 = [.slice a len cap] ∧ RowsAt w K cs (.slice a len cap) l ∧ l.length ≤ 9223372036854775807 := by
  obtain ⟨a, len, cap, l, h1, h2, h3, _⟩ := open_rows_good cs (fun _ => True) ht ce hK (fun n xs x h h' => (elem n xs x h h').imp fun _ e => ⟨e, trivial⟩) hx0
  exact ⟨a, len, cap, l, h1, h2, h3⟩
end Go.Proofs.Ythchkhgimnchcaa
/- Specs, rules and pairs of sets of skills that come in, opened. FOR ALL LATER STAGES. -/
namespace Go.Proofs.Ythchkhgimnchcaa
open Go.RowKit Go.ChangeShapes Go.WideShapes Go.Joins Go.Deep

theorem okWide_array {P : Program} {w : World} {r : Reach} {base : Nat} {t e : TypeId} {n : Nat} {v : Value} (ht : P.underlying t = some (.array n e)) (h : Value.okWide P w r base t v) : ∃ cs, v = .agg cs ∧ cs.size = P.cellsOf t := by
  simp only [Value.okWide, ht] at h
  obtain ⟨cs, h1, h2, _⟩ := h
  exact ⟨cs, h1, h2⟩
theorem trod_seven {P : Program} {H : Type} {enc : TypeId × Value → H} {w : World} {base : Nat} {spare : Nat → Bool} {held : Bool} {t : TypeId} {f0 f1 f2 f3 f4 f5 f6 : Field} {fuel : Nat} {cs : List Value} {x : DataW H × List MemPlace} (ht : P.underlying t = some (.struct #[f0, f1, f2, f3, f4, f5, f6])) (h : DataW.trod enc P w base spare held fuel t cs = some x) :
    ∃ y0 y1 y2 y3 y4 y5 y6 n, DataW.trod enc P w base spare held n f0.type ((cs.drop f0.offset).take (P.cellsOf f0.type)) = some y0 ∧
      DataW.trod enc P w base spare held n f1.type ((cs.drop f1.offset).take (P.cellsOf f1.type)) = some y1 ∧
      DataW.trod enc P w base spare held n f2.type ((cs.drop f2.offset).take (P.cellsOf f2.type)) = some y2 ∧
      DataW.trod enc P w base spare held n f3.type ((cs.drop f3.offset).take (P.cellsOf f3.type)) = some y3 ∧
      DataW.trod enc P w base spare held n f4.type ((cs.drop f4.offset).take (P.cellsOf f4.type)) = some y4 ∧
      DataW.trod enc P w base spare held n f5.type ((cs.drop f5.offset).take (P.cellsOf f5.type)) = some y5 ∧
      DataW.trod enc P w base spare held n f6.type ((cs.drop f6.offset).take (P.cellsOf f6.type)) = some y6 := by
  obtain ⟨xs, n, _, rfl, hl, hlen, hf⟩ := DataW.trod_struct ht h
  match xs, hlen with
  | [y0, y1, y2, y3, y4, y5, y6], _ => exact ⟨y0, y1, y2, y3, y4, y5, y6, n, by simpa using hf 0 f0 rfl, by simpa using hf 1 f1 rfl, by simpa using hf 2 f2 rfl, by simpa using hf 3 f3 rfl, by simpa using hf 4 f4 rfl, by simpa using hf 5 f5 rfl, by simpa using hf 6 f6 rfl⟩
theorem trod_eight {P : Program} {H : Type} {enc : TypeId × Value → H} {w : World} {base : Nat} {spare : Nat → Bool} {held : Bool} {t : TypeId} {f0 f1 f2 f3 f4 f5 f6 f7 : Field} {fuel : Nat} {cs : List Value} {x : DataW H × List MemPlace} (ht : P.underlying t = some (.struct #[f0, f1, f2, f3, f4, f5, f6, f7])) (h : DataW.trod enc P w base spare held fuel t cs = some x) :
    ∃ y0 y1 y2 y3 y4 y5 y6 y7 n, DataW.trod enc P w base spare held n f0.type ((cs.drop f0.offset).take (P.cellsOf f0.type)) = some y0 ∧
      DataW.trod enc P w base spare held n f1.type ((cs.drop f1.offset).take (P.cellsOf f1.type)) = some y1 ∧
      DataW.trod enc P w base spare held n f2.type ((cs.drop f2.offset).take (P.cellsOf f2.type)) = some y2 ∧
      DataW.trod enc P w base spare held n f3.type ((cs.drop f3.offset).take (P.cellsOf f3.type)) = some y3 ∧
      DataW.trod enc P w base spare held n f4.type ((cs.drop f4.offset).take (P.cellsOf f4.type)) = some y4 ∧
      DataW.trod enc P w base spare held n f5.type ((cs.drop f5.offset).take (P.cellsOf f5.type)) = some y5 ∧
      DataW.trod enc P w base spare held n f6.type ((cs.drop f6.offset).take (P.cellsOf f6.type)) = some y6 ∧
      DataW.trod enc P w base spare held n f7.type ((cs.drop f7.offset).take (P.cellsOf f7.type)) = some y7 := by
  obtain ⟨xs, n, _, rfl, hl, hlen, hf⟩ := DataW.trod_struct ht h
  match xs, hlen with
  | [y0, y1, y2, y3, y4, y5, y6, y7], _ => exact ⟨y0, y1, y2, y3, y4, y5, y6, y7, n, by simpa using hf 0 f0 rfl, by simpa using hf 1 f1 rfl, by simpa using hf 2 f2 rfl, by simpa using hf 3 f3 rfl, by simpa using hf 4 f4 rfl, by simpa using hf 5 f5 rfl, by simpa using hf 6 f6 rfl, by simpa using hf 7 f7 rfl⟩
theorem list9 {α : Type} {l : List α} (h : l.length = 9) : ∃ a b c d e f g h i, l = [a, b, c, d, e, f, g, h, i] := by
  match l, h with
  | [a, b, c, d, e, f, g, h, i], _ => exact ⟨a, b, c, d, e, f, g, h, i, rfl⟩
theorem list8 {α : Type} {l : List α} (h : l.length = 8) : ∃ a b c d e f g h, l = [a, b, c, d, e, f, g, h] := by
  match l, h with
  | [a, b, c, d, e, f, g, h], _ => exact ⟨a, b, c, d, e, f, g, h, rfl⟩

theorem cells_spec : Try.prog.cellsOf 41 = 9 := by kernel_rfl
theorem cells_u64 : Try.prog.cellsOf 37 = 1 := by kernel_rfl
theorem cells_ints : Try.prog.cellsOf 31 = 1 := by kernel_rfl
def U64 (n : Int) : Prop := 0 ≤ n ∧ n < 18446744073709551616
theorem U64.nat {n : Int} (h : U64 n) : ∃ k : Nat, n = (k : Int) ∧ k < 2 ^ 64 := ⟨n.toNat, by have := h.1; omega, by have := h.1; have := h.2; omega⟩
structure Sp.In (x : Sp) : Prop where
  id : In64 x.id
  prio : In64 x.prio
  sk : U64 x.sk
  ge : U64 x.ge
  fx : In64 x.fx
  fy : In64 x.fy
  tx : In64 x.tx
  ty : In64 x.ty
  len : x.aft.length ≤ 9223372036854775807
  aft : ∀ n ∈ x.aft, In64 n
set_option maxRecDepth 100000 in
theorem trod_spec {H : Type} {enc : TypeId × Value → H} {w : World} {fuel : Nat} {cs : List Value} {x : DataW H × List MemPlace} (hl : cs.length = 9) (h : DataW.trod enc Try.prog w 0 (fun _ => true) true fuel 41 cs = some x) : ∃ a : Sp, cs = csSp a ∧ IntsAt w a.v a.aft ∧ a.In := by
  obtain ⟨c0, c1, c2, c3, c4, c5, c6, c7, c8, rfl⟩ := list9 hl
  obtain ⟨y0, y1, y2, y3, y4, y5, y6, k, h0, h1, h2, h3, h4, h5, h6⟩ := trod_seven Try.underlying41 h
  obtain ⟨z0, z1, m, _, _, g0, g1⟩ := trod_struct2 Try.underlying39 h4
  obtain ⟨u0, u1, n, _, _, f0, f1⟩ := trod_struct2 Try.underlying39 h5
  simp only [cells_int_pt, cells_point, cells_u64, cells_ints, List.drop_zero, List.take_succ_cons, List.take_zero, List.drop_succ_cons] at h0 h1 h2 h3 g0 g1 f0 f1 h6
  obtain ⟨a, e0, _, w0⟩ := DataW.trod_int Try.underlying3 h0
  obtain ⟨b, e1, _, w1⟩ := DataW.trod_int Try.underlying3 h1
  obtain ⟨c, e2, _, w2⟩ := DataW.trod_int Try.underlying37 h2
  obtain ⟨d, e3, _, w3⟩ := DataW.trod_int Try.underlying37 h3
  obtain ⟨e, e4, _, w4⟩ := DataW.trod_int Try.underlying3 g0
  obtain ⟨f, e5, _, w5⟩ := DataW.trod_int Try.underlying3 g1
  obtain ⟨g, e6, _, w6⟩ := DataW.trod_int Try.underlying3 f0
  obtain ⟨i, e7, _, w7⟩ := DataW.trod_int Try.underlying3 f1
  obtain ⟨s, len, cap, l, e8, hr, hlen, hw⟩ := open_rows_good csI In64 Try.underlying31 cells_int_pt (by decide) (by
    intro n xs x _ hx
    obtain ⟨a, e0, _, wa⟩ := DataW.trod_int Try.underlying3 hx
    exact ⟨a, e0, in64_of_wf wa⟩) h6
  simp at e0 e1 e2 e3 e4 e5 e6 e7 e8
  subst e0 e1 e2 e3 e4 e5 e6 e7 e8
  obtain ⟨s', c', e9⟩ := RowsAt.form hr
  cases e9
  exact ⟨⟨a, b, c, d, e, f, g, i, s, cap, l⟩, rfl, RowsAt.ints hr, in64_of_wf w0, in64_of_wf w1, u64_bd w2, u64_bd w3, in64_of_wf w4, in64_of_wf w5, in64_of_wf w6, in64_of_wf w7, hlen, hw⟩
set_option maxRecDepth 100000 in
theorem open_spec {H : Type} {enc : TypeId × Value → H} {w : World} {base : Nat} {v : Value} {d : DataW H} {p : List MemPlace} (hok : Value.okWide Try.prog w .any base 41 v) (h : DataW.Trod enc Try.prog w 0 (fun _ => true) true 41 v d p) :
    ∃ x : Sp, v = spv x ∧ IntsAt w x.v x.aft ∧ x.In := by
  obtain ⟨cs, rfl, hsz⟩ := okWide_struct Try.underlying41 hok
  obtain ⟨fuel, hf⟩ := h
  have hl : cs.toList.length = 9 := by rw [Array.length_toList]; exact hsz.trans cells_spec
  obtain ⟨a, e, h1, h2⟩ := trod_spec hl (by simpa [Value.cells] using hf)
  refine ⟨a, ?_, h1, h2⟩
  have : cs = (csSp a).toArray := by rw [← e]
  rw [this]
  rfl

structure Ru.In (x : Ru) : Prop where
  tasks : In64 x.tasks
  crew : In64 x.crew
  units : In64 x.units
  lease : In64 x.lease
  tries : In64 x.tries
  rate : In64 x.rate
  start : In64 x.start
  len : x.ais.length ≤ 9223372036854775807
  ais : ∀ a ∈ x.ais, Ais.In a
theorem list2 {α : Type} {l : List α} (h : l.length = 2) : ∃ a b, l = [a, b] := by
  match l, h with
  | [a, b], _ => exact ⟨a, b, rfl⟩
end Go.Proofs.Ythchkhgimnchcaa
/- Lists of specs, lists of tasks that come in, opened. FOR ALL LATER STAGES. -/
namespace Go.Proofs.Ythchkhgimnchcaa
open Go.RowKit Go.ChangeShapes Go.WideShapes Go.Joins Go.Deep

set_option maxRecDepth 100000 in
theorem open_specs {H : Type} {enc : TypeId × Value → H} {w : World} {base : Nat} {v : Value} {d : DataW H} {p : List MemPlace} (hok : Value.okWide Try.prog w .any base 28 v) (h : DataW.Trod enc Try.prog w 0 (fun _ => true) true 28 v d p) :
    ∃ l : List Sp, SpsAt w v l ∧ l.length ≤ 9223372036854775807 ∧ ∀ x ∈ l, x.In := by
  obtain ⟨l, h1, h2, h3⟩ := open_rows csSp (fun x => IntsAt w x.v x.aft ∧ x.In) Try.underlying28 cells_spec (by decide) (fun _ _ _ hl h => trod_spec hl h) hok h
  exact ⟨l, ⟨h1, fun x hx => (h3 x hx).1⟩, h2, fun x hx => (h3 x hx).2⟩

theorem trod_six {P : Program} {H : Type} {enc : TypeId × Value → H} {w : World} {base : Nat} {spare : Nat → Bool} {held : Bool} {t : TypeId} {f0 f1 f2 f3 f4 f5 : Field} {fuel : Nat} {cs : List Value} {x : DataW H × List MemPlace} (ht : P.underlying t = some (.struct #[f0, f1, f2, f3, f4, f5])) (h : DataW.trod enc P w base spare held fuel t cs = some x) :
    ∃ y0 y1 y2 y3 y4 y5 n, DataW.trod enc P w base spare held n f0.type ((cs.drop f0.offset).take (P.cellsOf f0.type)) = some y0 ∧
      DataW.trod enc P w base spare held n f1.type ((cs.drop f1.offset).take (P.cellsOf f1.type)) = some y1 ∧
      DataW.trod enc P w base spare held n f2.type ((cs.drop f2.offset).take (P.cellsOf f2.type)) = some y2 ∧
      DataW.trod enc P w base spare held n f3.type ((cs.drop f3.offset).take (P.cellsOf f3.type)) = some y3 ∧
      DataW.trod enc P w base spare held n f4.type ((cs.drop f4.offset).take (P.cellsOf f4.type)) = some y4 ∧
      DataW.trod enc P w base spare held n f5.type ((cs.drop f5.offset).take (P.cellsOf f5.type)) = some y5 := by
  obtain ⟨xs, n, _, rfl, hl, hlen, hf⟩ := DataW.trod_struct ht h
  match xs, hlen with
  | [y0, y1, y2, y3, y4, y5], _ => exact ⟨y0, y1, y2, y3, y4, y5, n, by simpa using hf 0 f0 rfl, by simpa using hf 1 f1 rfl, by simpa using hf 2 f2 rfl, by simpa using hf 3 f3 rfl, by simpa using hf 4 f4 rfl, by simpa using hf 5 f5 rfl⟩
theorem list14 {α : Type} {l : List α} (h : l.length = 14) : ∃ m a b c d e, m.length = 9 ∧ l = m ++ [a, b, c, d, e] := by
  match l, h with
  | [x0, x1, x2, x3, x4, x5, x6, x7, x8, a, b, c, d, e], _ => exact ⟨[x0, x1, x2, x3, x4, x5, x6, x7, x8], a, b, c, d, e, rfl, rfl⟩
theorem cells_task : Try.prog.cellsOf 43 = 14 := by kernel_rfl
structure Tk.In (x : Tk) : Prop where
  sp : x.sp.In
  st : In64 x.st
  seq : In64 x.seq
  since : In64 x.since
  lost : In64 x.lost
  len : x.burnt.length ≤ 9223372036854775807
  burnt : ∀ n ∈ x.burnt, In64 n
set_option maxRecDepth 100000 in
theorem trod_task {H : Type} {enc : TypeId × Value → H} {w : World} {fuel : Nat} {cs : List Value} {x : DataW H × List MemPlace} (hl : cs.length = 14) (h : DataW.trod enc Try.prog w 0 (fun _ => true) true fuel 43 cs = some x) : ∃ a : Tk, cs = csTk a ∧ IntsAt w a.sp.v a.sp.aft ∧ IntsAt w (.slice a.ba a.burnt.length a.bc) a.burnt ∧ a.In := by
  obtain ⟨m, c9, c10, c11, c12, c13, hm, rfl⟩ := list14 hl
  obtain ⟨y0, y1, y2, y3, y4, y5, k, h0, h1, h2, h3, h4, h5⟩ := trod_six Try.underlying43 h
  obtain ⟨d0, d1, d2, d3, d4, d5, d6, d7, d8, rfl⟩ := list9 hm
  simp only [cells_spec, cells_int_pt, cells_ints, List.cons_append, List.nil_append, List.drop_zero, List.take_succ_cons, List.take_zero, List.drop_succ_cons] at h0 h1 h2 h3 h4 h5
  obtain ⟨sp, e0, hi, hin⟩ := trod_spec rfl h0
  obtain ⟨b, e1, _, w1⟩ := DataW.trod_int Try.underlying3 h1
  obtain ⟨c, e2, _, w2⟩ := DataW.trod_int Try.underlying3 h2
  obtain ⟨d, e3, _, w3⟩ := DataW.trod_int Try.underlying3 h3
  obtain ⟨e, e4, _, w4⟩ := DataW.trod_int Try.underlying3 h4
  obtain ⟨s, len, cap, l, e5, hr, hlen, hw⟩ := open_rows_good csI In64 Try.underlying31 cells_int_pt (by decide) (by
    intro n xs x _ hx
    obtain ⟨a, e0, _, wa⟩ := DataW.trod_int Try.underlying3 hx
    exact ⟨a, e0, in64_of_wf wa⟩) h5
  simp at e1 e2 e3 e4 e5
  subst e1 e2 e3 e4 e5
  obtain ⟨s', c', e9⟩ := RowsAt.form hr
  cases e9
  refine ⟨⟨sp, b, c, d, e, s, cap, l⟩, ?_, hi, RowsAt.ints hr, hin, in64_of_wf w1, in64_of_wf w2, in64_of_wf w3, in64_of_wf w4, hlen, hw⟩
  rw [e0]
  rfl
set_option maxRecDepth 100000 in
theorem open_tasks {H : Type} {enc : TypeId × Value → H} {w : World} {base : Nat} {v : Value} {d : DataW H} {p : List MemPlace} (hok : Value.okWide Try.prog w .any base 35 v) (h : DataW.Trod enc Try.prog w 0 (fun _ => true) true 35 v d p) :
    ∃ l : List Tk, RowsAt w 14 csTk v l ∧ l.length ≤ 9223372036854775807 ∧ ∀ x ∈ l, (IntsAt w x.sp.v x.sp.aft ∧ IntsAt w (.slice x.ba x.burnt.length x.bc) x.burnt) ∧ x.In := by
  obtain ⟨l, h1, h2, h3⟩ := open_rows csTk (fun x => (IntsAt w x.sp.v x.sp.aft ∧ IntsAt w (.slice x.ba x.burnt.length x.bc) x.burnt) ∧ x.In) Try.underlying35 cells_task (by decide) (fun _ _ _ hl h => by
    obtain ⟨a, e, g1, g2, g3⟩ := trod_task hl h
    exact ⟨a, e, ⟨g1, g2⟩, g3⟩) hok h
  exact ⟨l, h1, h2, h3⟩
end Go.Proofs.Ythchkhgimnchcaa
/- Acts of layer 24 that come in, opened: each with a list of specs, each with a list of numbers. -/
namespace Go.Proofs.Ythchkhgimnchcaa
open Go.RowKit Go.ChangeShapes Go.WideShapes Go.Joins Go.Deep

theorem cells_act24 : Try.prog.cellsOf 30 = 3 := by kernel_rfl
theorem cells_int_a24 : Try.prog.cellsOf 3 = 1 := by kernel_rfl
theorem cells_specs_a24 : Try.prog.cellsOf 28 = 1 := by kernel_rfl
theorem list3_a24 {α : Type} {l : List α} (h : l.length = 3) : ∃ a b c, l = [a, b, c] := by
  match l, h with
  | [a, b, c], _ => exact ⟨a, b, c, rfl⟩
set_option maxRecDepth 100000 in
theorem trod_act24 {H : Type} {enc : TypeId × Value → H} {w : World} {fuel : Nat} {cs : List Value} {x : DataW H × List MemPlace} (hl : cs.length = 3) (h : DataW.trod enc Try.prog w 0 (fun _ => true) true fuel 30 cs = some x) : ∃ a : Da, cs = csDa a ∧ SpsAt w a.v a.batch ∧ In64 a.id ∧ ∀ y ∈ a.batch, y.In := by
  obtain ⟨c0, c1, c2, rfl⟩ := list3_a24 hl
  obtain ⟨y0, y1, y2, k, _, _, h0, h1, h2⟩ := trod_struct3 Try.underlying30 h
  simp only [cells_int_a24, cells_specs_a24, List.drop_zero, List.take_succ_cons, List.take_zero, List.drop_succ_cons] at h0 h1 h2
  obtain ⟨a, e0, _, wa⟩ := DataW.trod_int Try.underlying3 h0
  obtain ⟨b, e1, _, wb⟩ := DataW.trod_int Try.underlying3 h1
  obtain ⟨s, len, cap, l, e2, hr, hlen, hw⟩ := open_rows_good csSp (fun x => IntsAt w x.v x.aft ∧ x.In) Try.underlying28 cells_spec (by decide) (by
    intro n xs x hl hx
    obtain ⟨a, e0, hi, hin⟩ := trod_spec hl hx
    exact ⟨a, e0, hi, hin⟩) h2
  simp at e0 e1 e2
  subst e0 e1 e2
  obtain ⟨s', c', e3⟩ := RowsAt.form hr
  cases e3
  exact ⟨⟨a, b, s, cap, l⟩, rfl, ⟨hr, fun x hx => (hw x hx).1⟩, in64_of_wf wb, fun y hy => (hw y hy).2⟩
set_option maxRecDepth 100000 in
theorem open_acts24 {H : Type} {enc : TypeId × Value → H} {w : World} {base : Nat} {v : Value} {d : DataW H} {p : List MemPlace} (hok : Value.okWide Try.prog w .any base 22 v) (h : DataW.Trod enc Try.prog w 0 (fun _ => true) true 22 v d p) :
    ∃ l : List Da, DasAt w v l ∧ l.length ≤ 9223372036854775807 ∧ ∀ a ∈ l, I64 a.id ∧ ∀ y ∈ a.batch, y.In := by
  obtain ⟨l, h1, h2, h3⟩ := open_rows csDa (fun a => SpsAt w a.v a.batch ∧ In64 a.id ∧ ∀ y ∈ a.batch, y.In) Try.underlying22 cells_act24 (by decide) (fun _ _ _ hl h => trod_act24 hl h) hok h
  exact ⟨l, ⟨h1, fun a ha => (h3 a ha).1⟩, h2, fun a ha => (h3 a ha).2⟩
end Go.Proofs.Ythchkhgimnchcaa
/- Stage 24: what the laws' walks and frames stand on. -/
