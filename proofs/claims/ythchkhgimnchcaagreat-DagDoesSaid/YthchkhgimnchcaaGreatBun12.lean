/- Texts of this proof, joined: DgA; DgK; IsMath; IsA; IsB; IsC. -/
import Derived.Test.YthchkhgimnchcaaGreatBun11
import Derived.Shelf.SlIterI.Nil
import Derived.Ground.GgzProg
import Derived.Shelf.Abstract
/- Stage 24's program: small looks: find, hasEnded, mayBeAnswered, Status, Waits, Len. -/
namespace Go.Proofs.YthchkhgimnchcaaGreat
open Go.RowKit

abbrev ndv (b : Nat) : Value := .pointer (some ⟨b, 0, none⟩)
section
variable {F : Nat → Prop} {p mb : Nat} {room : Int} {T : List Tk} {nx : Int → List Int} {g : Int → Option Nat} {Fm : Int → Nat → Prop}

set_option maxHeartbeats 1000000 in
set_option maxRecDepth 100000 in
theorem dFindR_any (w : World) (h : DagR w p mb room T nx g Fm) (id : Int) (hi : I64 id) :
    Calls Tryz.prog 38 #[ndv p, .int .i64 id] w fun e w' => e = .returned (pv (g id)) ∧ w = w' := by
  have c1 := h.box.cell 1 rfl
  have hlk := h.map.look1 hi
  generalize pv (g id) = v at *
  clear h hi
  go_enter Tryz.func38, Tryz.ntmps38
  go_wp2
  go_ret
  exact ⟨rfl, rfl⟩
set_option maxHeartbeats 1000000 in
set_option maxRecDepth 100000 in
theorem dFind_any (w : World) (h : DagP F w p mb room T nx g Fm) (id : Int) (hi : I64 id) :
    Calls Tryz.prog 38 #[ndv p, .int .i64 id] w fun e w' => e = .returned (pv (g id)) ∧ w = w' := dFindR_any w h.R id hi
set_option maxHeartbeats 1000000 in
set_option maxRecDepth 100000 in
theorem dFind_nil (w : World) (id : Int) : Calls Tryz.prog 38 #[.pointer none, .int .i64 id] w fun e w' => e = .returned (.pointer none) ∧ w = w' := by
  go_enter Tryz.func38, Tryz.ntmps38
  go_wp2
  go_ret
  exact ⟨rfl, rfl⟩
set_option maxHeartbeats 1000000 in
set_option maxRecDepth 100000 in
theorem dHas_any (b : Nat) (s : Int) (w : World) (hc : w.cell? ⟨b, 9, none⟩ = some (.int .i64 s)) :
    Calls Tryz.prog 43 #[ndv b] w fun e w' => e = .returned (.bool (endS s)) ∧ w = w' := by
  by_cases h4 : s = 4
  · subst h4
    go_enter Tryz.func43, Tryz.ntmps43
    go_wp2
    go_ret
    exact ⟨rfl, rfl⟩
  by_cases h5 : s = 5
  · subst h5
    go_enter Tryz.func43, Tryz.ntmps43
    go_wp2
    go_ret
    exact ⟨rfl, rfl⟩
  by_cases h6 : s = 6
  · subst h6
    go_enter Tryz.func43, Tryz.ntmps43
    go_wp2
    go_ret
    exact ⟨rfl, rfl⟩
  rw [endS_no.2 ⟨h4, h5, h6⟩]
  have e4 : (s == 4) = false := beq_noI h4
  have e5 : (s == 5) = false := beq_noI h5
  have e6 : (s == 6) = false := beq_noI h6
  clear h4 h5 h6
  go_enter Tryz.func43, Tryz.ntmps43
  go_wp2
  go_ret
  exact ⟨rfl, rfl⟩
set_option maxHeartbeats 1000000 in
set_option maxRecDepth 100000 in
theorem dMay_nil (w : World) : Calls Tryz.prog 41 #[.pointer none] w fun e w' => e = .returned (.int .i64 7) ∧ w = w' := by
  go_enter Tryz.func41, Tryz.ntmps41
  go_wp2
  go_ret
  exact ⟨rfl, rfl⟩
set_option maxHeartbeats 1000000 in
set_option maxRecDepth 100000 in
theorem dMay_any (b : Nat) (s : Int) (w : World) (hc : w.cell? ⟨b, 9, none⟩ = some (.int .i64 s)) :
    Calls Tryz.prog 41 #[ndv b] w fun e w' => e = .returned (.int .i64 (if s = 2 then 0 else 12)) ∧ w = w' := by
  by_cases h4 : s = 2
  · subst h4
    go_enter Tryz.func41, Tryz.ntmps41
    go_wp2
    go_ret
    exact ⟨rfl, rfl⟩
  rw [if_neg h4]
  have e4 : (s == 2) = false := beq_noI h4
  clear h4
  go_enter Tryz.func41, Tryz.ntmps41
  go_wp2
  go_ret
  exact ⟨rfl, rfl⟩
set_option maxHeartbeats 1000000 in
set_option maxRecDepth 100000 in
theorem dStatus_any (w : World) (h : DagP F w p mb room T nx g Fm) (id : Int) (hi : I64 id) :
    Calls Tryz.prog 18 #[ndv p, .int .i64 id] w fun e w' => e = .returned (.int .i64 (sgT T id)) ∧ w = w' := by
  have GF := Lib.hid (dFind_any w h id hi)
  by_cases hn : id ∈ idsK T
  · obtain ⟨t, ht, b, a, c, vn, rfl, hg, hN⟩ := h.R.at hn
    rw [sg_at h.wf.nodup ht]
    have c9 := hN.blk.cell 9 rfl
    rw [hg] at GF
    dsimp only [pv, Option.map] at GF
    generalize t.st = s at *
    generalize t.sp.id = id at *
    clear hN hg ht hn h hi
    go_enter Tryz.func18, Tryz.ntmps18
    go_wp2_with (go_at_call 38; (with_reducible refine GF.out.mono ?_); rintro e w1 ⟨rfl, rfl⟩)
    go_ret
    exact ⟨rfl, rfl⟩
  · rw [sg_none hn]
    rw [h.R.no hn] at GF
    dsimp only [pv, Option.map] at GF
    clear h hn hi
    go_enter Tryz.func18, Tryz.ntmps18
    go_wp2_with (go_at_call 38; (with_reducible refine GF.out.mono ?_); rintro e w1 ⟨rfl, rfl⟩)
    go_ret
    exact ⟨rfl, rfl⟩
set_option maxHeartbeats 1000000 in
set_option maxRecDepth 100000 in
theorem dStatus_nil (w : World) (id : Int) : Calls Tryz.prog 18 #[.pointer none, .int .i64 id] w fun e w' => e = .returned (.int .i64 0) ∧ w = w' := by
  have GF := Lib.hid (dFind_nil w id)
  go_enter Tryz.func18, Tryz.ntmps18
  go_wp2_with (go_at_call 38; (with_reducible refine GF.out.mono ?_); rintro e w1 ⟨rfl, rfl⟩)
  go_ret
  exact ⟨rfl, rfl⟩
set_option maxHeartbeats 1000000 in
set_option maxRecDepth 100000 in
theorem dLen_any (w : World) (h : DagP F w p mb room T nx g Fm) :
    Calls Tryz.prog 14 #[ndv p] w fun e w' => e = .returned (.int .i64 (T.length : Int)) ∧ w = w' := by
  have c1 := h.R.box.cell 1 rfl
  have HM := Lib.hid h.R.map
  have h1 := h.fit
  have h2 := h.room64
  have l2 : (T.length : Int) ≤ 64 := by omega
  generalize T.length = m at *
  clear h h1 h2
  go_enter Tryz.func14, Tryz.ntmps14
  go_wp2_with (at_len; refine wpList_lenG (E := EPd) rfl _ _ rfl Tryz.underlying56 rfl HM.out ?_)
  go_ret
  exact ⟨rfl, rfl⟩
set_option maxHeartbeats 1000000 in
set_option maxRecDepth 100000 in
theorem dLen_nil (w : World) : Calls Tryz.prog 14 #[.pointer none] w fun e w' => e = .returned (.int .i64 0) ∧ w = w' := by
  go_enter Tryz.func14, Tryz.ntmps14
  go_wp2
  go_ret
  exact ⟨rfl, rfl⟩
set_option maxHeartbeats 1000000 in
set_option maxRecDepth 100000 in
theorem dWaits_nil (w : World) (id : Int) : Calls Tryz.prog 15 #[.pointer none, .int .i64 id] w fun e w' => e = .returned (.int .i64 0) ∧ w = w' := by
  have GF := Lib.hid (dFind_nil w id)
  go_enter Tryz.func15, Tryz.ntmps15
  go_wp2_with (go_at_call 38; (with_reducible refine GF.out.mono ?_); rintro e w1 ⟨rfl, rfl⟩)
  go_ret
  exact ⟨rfl, rfl⟩
set_option maxHeartbeats 4000000 in
set_option maxRecDepth 100000 in
theorem dWaitsR_any (w : World) (h : DagR w p mb room T nx g Fm) (h0 : Wf0 T) (id : Int) (hi : I64 id) :
    Calls Tryz.prog 15 #[ndv p, .int .i64 id] w fun e w' => e = .returned (.int .i64 (waitsT T id)) ∧ w = w' := by
  have GF := Lib.hid (dFindR_any w h id hi)
  by_cases hn : id ∈ idsK T
  · obtain ⟨t, ht, b, a, c, vn, rfl, hg, hN⟩ := h.at hn
    rw [waitsT_at h0.nodup ht]
    have c8 := hN.blk.cell 8 rfl
    have c1 := h.box.cell 1 rfl
    rw [hg] at GF
    dsimp only [pv, Option.map] at GF
    have HI := Lib.hid (OwnI.ints hN.aft)
    have hl8 := h0.aft8 t ht
    have hpre := fun a ha => h0.pre a t.sp.id ⟨t, ht, rfl, ha⟩
    generalize t.sp.aft = l at *
    generalize t.sp.id = id at *
    have HH := Lib.hid h
    have H0 := Lib.hid h0
    have HP := Lib.hid hpre
    have l2 : (l.length : Int) ≤ 8 := by omega
    obtain ⟨r, hr⟩ : ∃ r, cntW T l = r := ⟨_, rfl⟩
    rw [hr]
    have HR := Lib.hid hr
    clear hN hg ht hn h h0 hi hpre hr
    go_enter Tryz.func15, Tryz.ntmps15
    go_wp2_with (go_at_call 38; (with_reducible refine GF.out.mono ?_); rintro e w1 ⟨rfl, rfl⟩)
    go_loopg [6, 21] l.length (fun kx nv iv ws => ∃ k : Nat, k ≤ l.length ∧ l.length - k ≤ kx ∧ iv = .int .i64 k ∧ nv = .int .i64 (cntW T (l.take k)) ∧ w = ws)
    case atStart => exact ⟨0, Nat.zero_le _, Nat.le_refl _, rfl, rfl, rfl⟩
    case round =>
      obtain ⟨k, hk, hkx, rfl, rfl, rfl⟩ := hrel
      by_cases hlt : k < l.length
      · obtain ⟨g0, o0, cc, e, _, _, q0⟩ := HI.out.spot k hlt
        cases e
        have k0 : (0 : Int) ≤ (k : Int) := by omega
        have k1 : (k : Int) < (l.length : Int) := by omega
        have hx := HP.out _ (List.getElem_mem hlt)
        obtain ⟨u, hu, b2, a2, c2, vn2, hid2, hg2, hN2⟩ := HH.out.at hx
        have hlk := HH.out.map.look1 (H0.out.id64 _ hx)
        rw [hg2] at hlk
        have d9 := hN2.blk.cell 9 rfl
        have hst : sgT T (l[k]'hlt) = u.st := by rw [← hid2]; exact sg_at H0.out.nodup hu
        have hct := cntW_take T l k hlt
        have hcb := cntW_le T (l.take k)
        have hcl : (l.take k).length ≤ k := by rw [List.length_take]; omega
        have hov : overI T (l[k]'hlt) = decide (u.st = 4) := by rw [Bool.eq_iff_iff, overI_iff, hst]; simp
        have HC := Lib.hid hct
        generalize (l[k]'hlt) = n at *
        generalize u.st = s at *
        generalize cntW T (l.take k) = m at *
        have m0 : 0 ≤ m ∧ m ≤ 8 := by omega
        dsimp only [pv, Option.map] at hlk
        by_cases h4 : s = 4
        · subst h4
          have hov2 := hov
          clear hN2 hx hid2 hg2 hu hst hcb hcl hct hov
          go_wp2
          go_roundg (l.length - (k + 1))
          case measure => omega
          case rel => exact ⟨k + 1, by omega, Nat.le_refl _, by go_num, by rw [HC.out, hov2]; rfl, rfl⟩
        · have e4 : (s == 4) = false := beq_noI h4
          have hov2 : overI T n = false := by rw [hov]; simpa using h4
          clear hN2 hx hid2 hg2 hu hst hcb hcl hct hov h4
          go_wp2
          go_roundg (l.length - (k + 1))
          case measure => omega
          case rel => exact ⟨k + 1, by omega, Nat.le_refl _, by go_num, by rw [HC.out, hov2]; go_num, rfl⟩
      · have hke : k = l.length := by omega
        subst hke
        have HR2 := HR.out
        rw [List.take_length]
        rw [HR2]
        clear hlt hk hkx
        go_wp2
        go_ret
        exact ⟨rfl, rfl⟩
  · rw [waitsT_none hn]
    rw [h.no hn] at GF
    dsimp only [pv, Option.map] at GF
    clear h h0 hn hi
    go_enter Tryz.func15, Tryz.ntmps15
    go_wp2_with (go_at_call 38; (with_reducible refine GF.out.mono ?_); rintro e w1 ⟨rfl, rfl⟩)
    go_ret
    exact ⟨rfl, rfl⟩
theorem dWaits_any (w : World) (h : DagP F w p mb room T nx g Fm) (id : Int) (hi : I64 id) :
    Calls Tryz.prog 15 #[ndv p, .int .i64 id] w fun e w' => e = .returned (.int .i64 (waitsT T id)) ∧ w = w' := dWaitsR_any w h.R h.wf.weak id hi
end
end Go.Proofs.YthchkhgimnchcaaGreat
/- slices.Sorted(maps.Keys(m)) at the map of nodes: the IDs, rising, in new memory. -/
namespace Go.Proofs.YthchkhgimnchcaaGreat
open Go.RowKit Go.Maps Go.Sort Go.Shelf
shelf_lay_g SlLaysZI.n7 Ggz 7 at Tryz 36 as keysDg
shelf_lay_g SlLaysZI.n6 Ggz 6 at Tryz 35 as sortedDg

theorem sortsDg (m : Nat) : AnyZI.SortsIn Tryz.prog sortedDg_ren Fence.wide m :=
  ⟨fun blk off cap ss W hH hblk hsz => callsIn_wide.2 (Tryz.slices_Sort_int blk off cap ss W hH hblk hsz), fun p cap W => callsIn_wide.2 (Tryz.slices_Sort_int_none p cap W)⟩
theorem dKeys_any (mb : Nat) (w : World) : Calls Tryz.prog 36 #[.map (some mb)] w fun e w' =>
    e = .returned (.func (.func 50) #[] #[.pointer (some ⟨w.heap.size, 0, none⟩)]) ∧ w' = w.alloc (.cells #[.map (some mb)] 56) :=
  (callsIn_wide (n := 6)).1 (AnyZI.keys_in keysDg Fence.wide 6 trivial rfl (some mb) w)
theorem flats_csI (l : List Int) : flats csI l = l.map encZ := by
  induction l with
  | nil => rfl
  | cons a t ih =>
    have e : flats csI (a :: t) = csI a ++ flats csI t := rfl
    rw [e, ih]
    rfl
set_option maxHeartbeats 1000000 in
theorem dSorted_any (mb m : Nat) (g : Int → Option Nat) (w : World) (h : MapP w mb m g) (hm : m ≤ 1000000) (l : List Int) (hl : risL l) (hg : ∀ n, n ∈ l ↔ I64 n ∧ (g n).isSome = true) :
    Calls Tryz.prog 35 #[.func (.func 50) #[] #[.pointer (some ⟨w.heap.size, 0, none⟩)]] (w.alloc (.cells #[.map (some mb)] 56)) fun e w' =>
      ∃ v, e = .returned v ∧ OwnI w' w.heap.size v l ∧ Below w.heap.size w w' := by
  obtain ⟨D, h1, h2, h3⟩ := h.own
  have hbl := h1.lt
  have hown : (w.alloc (.cells #[.map (some mb)] 56)).ownsMap Tryz.prog 3 readPd mb m D := by
    obtain ⟨es, clock, hb, Ft, hs, hD⟩ := h1
    exact ⟨es, clock, (Below.heap_alloc _ _ mb hbl).trans hb, Ft, hs, hD⟩
  have hseq : SeqGives Fence.wide 2 Tryz.prog 50 #[.pointer (some ⟨w.heap.size, 0, none⟩)] encZ (fun ss => ss.Perm (intKeys D)) (Maps.size D) (w.alloc (.cells #[.map (some mb)] 56)) :=
    AnyZI.keys_gives (ρ := keysDg_ren) { keysDg with } Fence.wide _ trivial rfl (by omega) w.heap.size mb m D _ (by simp) (by simp) hown
  have hp : l.Perm (intKeys D) := by
    refine CollectedI.perm (left := fun _ => false) ⟨hl.nodup, fun x => ?_⟩ h1 (int_keyed Tryz.underlying3) Tryz.underlying3 (fun _ => rfl)
    rw [hg, h3]
    exact ⟨fun h => ⟨h, rfl⟩, fun h => h.1⟩
  have hs : l.mergeSort leI = l := by
    refine List.mergeSort_of_pairwise (hl.imp fun {a b} h => ?_)
    have : a ≤ b := by omega
    simpa [leI] using this
  have cS := AnyZI.sorted_in sortedDg Fence.wide 5 trivial trivial trivial trivial rfl (by omega) (sortsDg _) (fun _ _ => by kernel_rfl) 50 #[.pointer (some ⟨w.heap.size, 0, none⟩)] trivial (fun _ _ => by kernel_rfl) _ _ (by rw [h2]; unfold maxLen; omega) (by rw [h2]; omega) _ hseq
  refine ((callsIn_wide (n := 5)).1 cS).mono ?_
  rintro e w' ⟨v, ss, rfl, hS, hrow, hnil, hb⟩
  have e1 : ss.mergeSort leI = l := (mergeSort_of_perm_i (hS.trans hp.symm)).trans hs
  have e2 : ss.length = l.length := (hS.trans hp.symm).length_eq
  refine ⟨v, rfl, ?_, ((Below.refl _ w).alloc (Nat.le_refl _) _).trans (hb.mono (by simp))⟩
  show w'.ownsRow w.heap.size 3 1 v l.length (flats csI l)
  rw [flats_csI, ← e1, List.length_mergeSort]
  exact ownsRow_base_a hrow (by simp)
end Go.Proofs.YthchkhgimnchcaaGreat
/- Stage 17's program: plain mathematics of what is asked and told, one number behind the other. -/
namespace Go.Proofs.YthchkhgimnchcaaGreat

/-- one number behind the other is asked, till it is so of one -/
def runS {σ : Type} (f : σ → Int → σ × Bool) : σ → List Int → σ × Bool
  | s, [] => (s, false)
  | s, x :: l => if (f s x).2 then ((f s x).1, true) else runS f (f s x).1 l
theorem runS_cons {σ : Type} (f : σ → Int → σ × Bool) (s : σ) (x : Int) (l : List Int) : runS f s (x :: l) = if (f s x).2 then ((f s x).1, true) else runS f (f s x).1 l := rfl
theorem runS_no {σ : Type} (f : σ → Int → σ × Bool) (s : σ) (l : List Int) (k : Nat) (h : k < l.length) (hf : (f s l[k]).2 = false) : runS f s (l.drop k) = runS f (f s l[k]).1 (l.drop (k + 1)) := by
  rw [List.drop_eq_getElem_cons h, runS_cons, hf]
  simp
theorem runS_yes {σ : Type} (f : σ → Int → σ × Bool) (s : σ) (l : List Int) (k : Nat) (h : k < l.length) (hf : (f s l[k]).2 = true) : runS f s (l.drop k) = ((f s l[k]).1, true) := by
  rw [List.drop_eq_getElem_cons h, runS_cons, hf]
  simp
theorem runS_end {σ : Type} (f : σ → Int → σ × Bool) (s : σ) (l : List Int) : runS f s (l.drop l.length) = (s, false) := by
  rw [List.drop_length]
  rfl
theorem runS_each {σ : Type} (g : σ → Int → σ) : ∀ (l : List Int) (s : σ), runS (fun s x => (g s x, false)) s l = (l.foldl g s, false)
  | [], _ => rfl
  | x :: l, s => by
    have := runS_each g l (g s x)
    rw [runS_cons]
    simpa using this
theorem runS_any (p : Int → Bool) : ∀ (l : List Int), (runS (fun (_ : Unit) x => ((), p x)) () l).2 = l.any p
  | [] => rfl
  | x :: l => by
    have := runS_any p l
    rw [runS_cons]
    cases h : p x <;> simp_all
theorem any_in (l : List Int) (n : Int) : l.any (fun m => m == n) = inL l n := by
  unfold inL
  rw [Bool.eq_iff_iff, List.any_eq_true, decide_eq_true_iff]
  constructor
  · rintro ⟨x, h1, h2⟩
    have := eq_of_beq h2
    rwa [← this]
  · intro h
    exact ⟨n, h, by simp⟩
theorem any_not (a b : List Int) : (!a.any fun x => !inL b x) = withinB a b := by
  rw [Bool.eq_iff_iff, within_iff, List.not_any_eq_all_not, List.all_eq_true]
  constructor
  · intro h x hx
    have := h x hx
    rw [Bool.not_not] at this
    exact inL_iff.1 this
  · intro h x hx
    rw [Bool.not_not]
    exact inL_iff.2 (h x hx)
/-- does it not rise -/
def rgt (a n : Int) : Int × Bool := (n, !decide (a < n))
theorem ris_two {a x : Int} {l : List Int} : risL (a :: x :: l) ↔ a < x ∧ risL (x :: l) := by
  unfold risL
  rw [List.pairwise_cons]
  constructor
  · rintro ⟨h1, h2⟩
    exact ⟨h1 x (by simp), h2⟩
  · rintro ⟨h1, h2⟩
    refine ⟨fun y hy => ?_, h2⟩
    rcases List.mem_cons.1 hy with rfl | hy
    · exact h1
    · have := (List.pairwise_cons.1 h2).1 y hy
      omega
theorem runS_right : ∀ (l : List Int) (a : Int), (runS rgt a l).2 = !rightB (a :: l)
  | [], a => by
    have : risL [a] := List.pairwise_singleton _ _
    simp [runS, rightB, this]
  | x :: l, a => by
    have ih := runS_right l x
    rw [runS_cons]
    show (if (!decide (a < x)) = true then (x, true) else runS rgt x l).2 = _
    by_cases h : a < x
    · have e : rightB (a :: x :: l) = rightB (x :: l) := by
        unfold rightB
        exact decide_eq_decide.2 (ris_two.trans (and_iff_right h))
      rw [e, ← ih]
      simp [h]
    · have e : rightB (a :: x :: l) = false := by
        unfold rightB
        exact decide_eq_false fun hr => h (ris_two.1 hr).1
      rw [e]
      simp [h]
/-- the least above n of those that were told -/
def abS (n : Int) (s : Int × Bool) (m : Int) : Int × Bool := if n < m ∧ (s.2 = false ∨ m < s.1) then (m, true) else s
def AbI (n : Int) (p : List Int) (s : Int × Bool) : Prop := (s = (0, false) ∧ ∀ x ∈ p, x ≤ n) ∨ (s.2 = true ∧ s.1 ∈ p ∧ n < s.1 ∧ ∀ x ∈ p, n < x → s.1 ≤ x)
theorem AbI.step {n : Int} {p : List Int} {s : Int × Bool} (h : AbI n p s) (m : Int) : AbI n (p ++ [m]) (abS n s m) := by
  unfold abS
  obtain ⟨a, b⟩ := s
  by_cases hc : n < m ∧ (b = false ∨ m < a)
  · rw [if_pos hc]
    refine .inr ⟨rfl, by simp, hc.1, fun x hx hn => ?_⟩
    rcases List.mem_append.1 hx with hx | hx
    · rcases h with ⟨e, h⟩ | ⟨e, h1, h2, h3⟩
      · have := h x hx; omega
      · have h4 := h3 x hx hn
        have h5 : m < a := hc.2.resolve_left fun e2 => by simp only at e; rw [e2] at e; cases e
        simp only at h4 ⊢
        omega
    · rw [List.mem_singleton.1 hx]
      exact Int.le_refl _
  · rw [if_neg hc]
    rcases h with ⟨e, h⟩ | ⟨e, h1, h2, h3⟩
    · refine .inl ⟨e, fun x hx => ?_⟩
      rcases List.mem_append.1 hx with hx | hx
      · exact h x hx
      · rw [List.mem_singleton.1 hx]
        cases e
        exact Int.not_lt.1 fun h => hc ⟨h, .inl rfl⟩
    · refine .inr ⟨e, List.mem_append_left _ h1, h2, fun x hx hn => ?_⟩
      rcases List.mem_append.1 hx with hx | hx
      · exact h3 x hx hn
      · rw [List.mem_singleton.1 hx] at hn ⊢
        exact Int.not_lt.1 fun h => hc ⟨hn, .inr h⟩
theorem AbI.fold {n : Int} : ∀ (l p : List Int) (s : Int × Bool), AbI n p s → AbI n (p ++ l) (l.foldl (abS n) s)
  | [], p, s, h => by simpa using h
  | x :: l, p, s, h => by
    have := AbI.fold l (p ++ [x]) _ (h.step x)
    rw [List.append_assoc] at this
    exact this
theorem AbI.is {n : Int} {l : List Int} {s : Int × Bool} (h : AbI n l s) : s = abvL l n := by
  unfold abvL
  rcases h with ⟨e, h⟩ | ⟨e, h1, h2, h3⟩
  · have hf : (setL l).find? (fun x => decide (n < x)) = none := by
      rw [List.find?_eq_none]
      intro x hx
      have := h x ((setL_mem l x).1 hx)
      simp; omega
    rw [hf, e]
  · obtain ⟨a, b⟩ := s
    simp only at e h1 h2 h3
    subst e
    obtain ⟨k, hk, e⟩ := List.getElem_of_mem ((setL_mem l a).2 h1)
    have hr := setL_ris l
    have hf := ris_find (n := n) hr hk (by omega) fun i hi => by
      have h4 := List.pairwise_iff_getElem.1 hr i k (by omega) hk hi
      have h5 := h3 _ ((setL_mem l _).1 (List.getElem_mem (show i < (setL l).length by omega)))
      omega
    rw [hf, e]
theorem abv_fold (l : List Int) (n : Int) : l.foldl (abS n) (0, false) = abvL l n := (AbI.fold l [] (0, false) (.inl ⟨rfl, fun _ h => by cases h⟩)).is
/-- those that are wanted -/
def pkS (p : Int → Bool) (t : List Int) (x : Int) : List Int := if p x then t ++ [x] else t
theorem pk_fold (p : Int → Bool) : ∀ (l t : List Int), l.foldl (pkS p) t = t ++ l.filter p
  | [], t => by simp
  | x :: l, t => by
    have := pk_fold p l (pkS p t x)
    rw [List.foldl_cons, this]
    unfold pkS
    cases h : p x <;> simp [h]
theorem pick_pos (a b : List Int) : (setL a).filter (inL b) = andL a b := by
  unfold andL pickL
  congr 1
  funext x
  cases inL b x <;> rfl
theorem pick_neg (a b : List Int) : ((setL a).filter fun x => !inL b x) = lessL a b := by
  unfold lessL pickL
  congr 1
  funext x
  cases inL b x <;> rfl
theorem inL_set (b : List Int) (x : Int) : inL (setL b) x = inL b x := by
  unfold inL
  exact decide_eq_decide.2 (setL_mem b x)
theorem or_cat (a b : List Int) : setL ([a, b].flatten) = orL a b := by
  unfold orL
  simp
theorem set_sort (l : List Int) : Lib.compact (l.mergeSort fun x y => decide (x ≤ y)) = setL l := by
  refine rise_ext (compact_rise (sorted_ms l)) (setL_ris l) fun m => ?_
  rw [compact_mem, List.mem_mergeSort, setL_mem]
end Go.Proofs.YthchkhgimnchcaaGreat
/- Stage 17's program: some: a function that is handed on is asked one number of a list behind the other. -/
namespace Go.Proofs.YthchkhgimnchcaaGreat
open Go.RowKit

/-- what a handed function keeps: s, in the blocks F -/
structure KeepJ {σ : Type} (J : σ → (Nat → Prop) → World → Prop) : Prop where
  lt : ∀ {s F w}, J s F w → ∀ k, F k → k < w.heap.size
  out : ∀ {s F w w'}, J s F w → w.heap.size ≤ w'.heap.size → (∀ k, F k → w'.heap[k]? = w.heap[k]?) → J s F w'
theorem KeepJ.kept {σ : Type} {J : σ → (Nat → Prop) → World → Prop} (T : KeepJ J) {s : σ} {F : Nat → Prop} {w w' : World} (h : J s F w) (hb : Below w.heap.size w w') : J s F w' := T.out h hb.size fun k hk => hb.block k (T.lt h k hk)

set_option maxHeartbeats 1000000 in
theorem iSome_any {σ : Type} {J : σ → (Nat → Prop) → World → Prop} (f : σ → Int → σ × Bool) (g : FuncId) (q : Value) (eg : ∀ args w, (callFunc g args).run Tryz.prog w = .ok (.enter g args) w)
    (va : Value) (l : List Int) (w : World) (hl : IntsAt w va l) (hlen : l.length ≤ 1000000) (s0 : σ) (F0 : Nat → Prop) (hF : OffV F0 va l.length) (hJ : J s0 F0 w) (R : Nat → σ → Prop) (hR0 : R 0 s0) (hRs : ∀ k s x, R k s → R (k + 1) (f s x).1)
    (hT : ∀ s F w' x k, x ∈ l → k < l.length → R k s → J s F w' → Only F0 w w' → Calls Tryz.prog g #[.int .i64 x, q] w' fun e w'' => e = .returned (.bool (f s x).2) ∧ ∃ F', J (f s x).1 F' w'' ∧ Mv F F' w' w'') :
    Calls Tryz.prog 102 #[va, .func (.func g) #[] #[q]] w fun e w' => e = .returned (.bool (runS f s0 l).2) ∧ ∃ F', J (runS f s0 l).1 F' w' ∧ Mv F0 F' w w' := by
  obtain ⟨r, hr⟩ : ∃ r, runS f s0 l = r := ⟨_, rfl⟩
  rw [hr]
  have HR := Lib.hid hr
  have HT := Lib.hid hT
  have HRS := Lib.hid hRs
  have HR0 := Lib.hid hR0
  have HJ := Lib.hid hJ
  have HF := Lib.hid hF
  have HL := Lib.hid hl
  have HLE := Lib.hid hlen
  obtain ⟨a, c, rfl⟩ := hl.form
  clear hr hT hJ hF hl hRs hR0
  go_enter Tryz.func102, Tryz.ntmps102
  go_wp2
  refine wp_scope_goto 0 (fun n a' w' => ∃ (j : Nat) (z : Int) (s : σ) (F : Nat → Prop), n = l.length - j ∧ z = j ∧ j ≤ l.length ∧ runS f s (l.drop j) = r ∧ R j s ∧ J s F w' ∧ Mv F0 F w w' ∧ ∃ u2 u3 u6 u7 u8 u9 u10 u11 u12 u13 u14 u15 u16 u17, a' = { tmps := #[.slice a l.length c, .func (.func g) #[] #[q], u2, u3, .bool false, .int .i64 z, u6, u7, u8, u9, u10, u11, u12, u13, u14, u15, u16, u17], defers := [] }) rfl rfl ?_ ?_
  · rintro n a' w' ⟨j, _, s, F, rfl, rfl, hj, hrun, hrk, hj2, hmv, u2, u3, u6, u7, u8, u9, u10, u11, u12, u13, u14, u15, u16, u17, rfl⟩ K hK
    have HK := Lib.hid hK
    have HJ2 := Lib.hid hj2
    have HM := Lib.hid hmv
    have HRU := Lib.hid hrun
    have HRK := Lib.hid hrk
    clear hK hj2 hmv hrun hrk
    by_cases hlt : j < l.length
    · have hrow := (HL.out.rows.only HM.out.only HF.out).ints
      obtain ⟨gb, o, cc, e, hlc, _, p0⟩ := hrow.spot j hlt
      cases e
      have hx := HT.out s F w' l[j] j (List.getElem_mem hlt) hlt HRK.out HJ2.out HM.out.only
      have hrn := HRS.out j s l[j] HRK.out
      have hno := runS_no f s l j hlt
      have hyes := runS_yes f s l j hlt
      generalize l[j] = x at *
      obtain ⟨s', b, hsb⟩ : ∃ s' b, f s x = (s', b) := ⟨_, _, rfl⟩
      rw [hsb] at hx hno hyes hrn
      have HRN := Lib.hid hrn
      have HX := Lib.hid hx
      have HN := Lib.hid hno
      have HY := Lib.hid hyes
      have j0 : (0 : Int) ≤ (j : Int) := by omega
      have j1 : (j : Int) < (l.length : Int) := by omega
      clear hx hno hyes hsb hrow hrn
      cases b with
      | false =>
        go_wp2_with (go_at_fn g; (with_reducible refine HX.out.mono ?_); rintro e w1 ⟨rfl, F', hj1, hm1⟩; have HJ3 := Lib.hid hj1; have HM3 := Lib.hid hm1; clear hj1 hm1)
        go_step3
        exact ⟨rfl, HK.out (l.length - (j + 1)) _ _ (by omega) ⟨j + 1, _, s', F', rfl, by omega, by omega, (HN.out trivial).symm.trans HRU.out, HRN.out, HJ3.out, HM.out.trans HM3.out, _, _, _, _, _, _, _, _, _, _, _, _, _, _,  rfl⟩⟩
      | true =>
        go_wp2_with (go_at_fn g; (with_reducible refine HX.out.mono ?_); rintro e w1 ⟨rfl, F', hj1, hm1⟩; have HJ3 := Lib.hid hj1; have HM3 := Lib.hid hm1; clear hj1 hm1)
        simp only [Exit.jump]
        go_ret
        have hrr := (HY.out trivial).symm.trans HRU.out
        rw [← hrr]
        exact ⟨rfl, F', HJ3.out, HM.out.trans HM3.out⟩
    · have e : j = l.length := by omega
      subst e
      have hrr := HRU.out
      rw [runS_end] at hrr
      have HRR := Lib.hid hrr
      clear hrr hlt
      go_wp2
      simp only [Exit.jump]
      go_ret
      rw [← HRR.out]
      exact ⟨rfl, F, HJ2.out, HM.out⟩
  · intro K hpass
    go_wp2
    go_step3
    rename_i hback
    exact hback _ _ (hpass (l.length - 0) _ _ ⟨0, _, s0, F0, rfl, rfl, by omega, HR.out, HR0.out, HJ.out, Mv.refl _ _, _, _, _, _, _, _, _, _, _, _, _, _, _, _,  rfl⟩)
end Go.Proofs.YthchkhgimnchcaaGreat
/- Stage 17's program: each: a function that is handed on is told one number of a list behind the other. -/
namespace Go.Proofs.YthchkhgimnchcaaGreat
open Go.RowKit

/-- what is told, and the box b in which the function (tv) lies that is told -/
def EaJ {σ : Type} (J : σ → (Nat → Prop) → World → Prop) (b : Nat) (tv : Value) (s : σ) (F : Nat → Prop) (w : World) : Prop := ∃ F1, J s F1 w ∧ ¬ F1 b ∧ (∀ k, F k ↔ F1 k ∨ k = b) ∧ Blk w b [tv]

end Go.Proofs.YthchkhgimnchcaaGreat
/- Stage 17's program: Right, Has, Above: what is asked and told of a list. -/
namespace Go.Proofs.YthchkhgimnchcaaGreat
open Go.RowKit

/-- one box -/
def BoJ (b : Nat) (s : Value) (F : Nat → Prop) (w : World) : Prop := Blk w b [s] ∧ ∀ k, F k ↔ k = b
theorem bo_keep {σ : Type} (b : Nat) (v : σ → Value) : KeepJ fun (s : σ) F w => BoJ b (v s) F w where
  lt := by
    rintro s F w ⟨h1, h2⟩ k hk
    rw [(h2 k).1 hk]
    exact h1.lt
  out := by
    rintro s F w w' ⟨h1, h2⟩ _ he
    exact ⟨h1.same (he b ((h2 b).2 rfl)), h2⟩

set_option maxHeartbeats 1000000 in
theorem iRight1_any (b : Nat) (s x : Int) (F : Nat → Prop) (w : World) (h : BoJ b (.int .i64 s) F w) :
    Calls Tryz.prog 103 #[.int .i64 x, .pointer (some ⟨b, 0, none⟩)] w fun e w' => e = .returned (.bool (rgt s x).2) ∧ ∃ F', BoJ b (.int .i64 (rgt s x).1) F' w' ∧ Mv F F' w w' := by
  obtain ⟨h1, h2⟩ := h
  have HS : Hid (∀ v, Blk (w.setCell ⟨b, 0, none⟩ v) b [v]) := Lib.hid fun v => h1.set 0 v
  have H2 := Lib.hid h2
  have c0 := h1.cell 0 rfl
  have z0 := h1.free 0 rfl
  clear h1 h2
  unfold rgt
  go_enter Tryz.func103, Tryz.ntmps103
  go_wp2
  go_ret
  exact ⟨rfl, F, ⟨HS.out _, H2.out⟩, (Only.refl _ _).set _ _ ((H2.out b).2 rfl), fun k hk => .inl hk⟩

set_option maxHeartbeats 1000000 in
theorem iHas1_any (b : Nat) (n x : Int) (w : World) (h : Blk w b [.int .i64 n]) :
    Calls Tryz.prog 104 #[.int .i64 x, .pointer (some ⟨b, 0, none⟩)] w fun e w' => e = .returned (.bool (x == n)) ∧ w' = w := by
  have c0 := h.cell 0 rfl
  clear h
  go_enter Tryz.func104, Tryz.ntmps104
  go_wp2
  go_ret
  exact ⟨rfl, rfl⟩

set_option maxHeartbeats 1000000 in
theorem iHas_any (va : Value) (l : List Int) (n : Int) (w : World) (ha : IntsAt w va l) (hl : l.length ≤ 1000000) :
    Calls Tryz.prog 97 #[va, .int .i64 n] w fun e w' => e = .returned (.bool (inL l n)) ∧ Below w.heap.size w w' := by
  have hmf : ∀ (fn : Fn) (first cap : Array Value) (w : World), (Instr.makeFunc fn first cap).run Tryz.prog w = .ok (.func fn first cap) w := fun _ _ _ _ => rfl
  have hal := (Below.refl w.heap.size w).alloc (Nat.le_refl _) (.cells #[.int .i64 n] 3)
  have hX := Blk.new w [.int .i64 n] 3
  have hS := iSome_any (J := fun (_ : Unit) F w' => BoJ w.heap.size (.int .i64 n) F w') (fun _ x => ((), x == n)) 104 (.pointer (some ⟨w.heap.size, 0, none⟩)) (fun _ _ => by kernel_rfl) va l _ (ha.below hal) hl ()
    (fun k => k = w.heap.size) (fun h0 k hk hf => by have := ha.rows.lt h0 k hk; omega) ⟨hX, fun k => Iff.rfl⟩ (fun _ _ => True) trivial (fun _ _ _ _ => trivial)
    (fun s F w' x k hx _ _ hj ho => (iHas1_any _ n x w' hj.1).mono (by
      rintro e w2 ⟨rfl, rfl⟩
      exact ⟨rfl, F, hj, Mv.refl _ _⟩))
  rw [show (fun (_ : Unit) (x : Int) => ((), x == n)) = (fun (_ : Unit) x => ((), (fun m => m == n) x)) from rfl, runS_any (fun m => m == n) l, any_in] at hS
  have HS := Lib.hid hS
  have HAL := Lib.hid hal
  clear hal hX hS ha
  go_enter Tryz.func97, Tryz.ntmps97
  go_wp2_with (go_at_call 102; (with_reducible refine HS.out.mono ?_); rintro e w1 ⟨rfl, F', h1, hm⟩; have HM := Lib.hid hm; clear h1 hm)
  go_ret
  exact ⟨rfl, HAL.out.trans (HM.out.only.below (fun k hk => by omega) HAL.out.size)⟩

/-- the list without its first number, as the model cuts it -/
theorem from17 (a : Option Addr) (n c : Nat) (hk : 1 ≤ n) (hn : n ≤ c) : ∃ a4 c4, (∀ w', (Instr.sliceAt 32 (.slice a n c) (some (.int .i64 1)) none none).run Tryz.prog w' = .ok (.slice a4 (n - 1) c4) w') ∧
    (∀ (w' : World) (l : List Int), l.length = n → RowsAt w' 1 csI (.slice a n c) l → RowsAt w' 1 csI (.slice a4 (n - 1) c4) (l.drop 1)) ∧ ∀ k, (Value.slice a4 (n - 1) c4).ownBlock = some k → (Value.slice a n c).ownBlock = some k := by
  have h1 : (1 : Int) ≤ (n : Int) := by omega
  by_cases hck : c = 1
  · have hc0 : n = 1 := by omega
    refine ⟨a, 0, fun w' => ?_, fun w' l hl h => ?_, fun k h => by cases a <;> simp [Value.ownBlock] at h ⊢; exact h⟩
    · simp [go_sem, hck, hc0, sliced]
    · have := restAt13 h 1 (by omega) a (fun h => by omega)
      rwa [hck, Nat.sub_self] at this
  · refine ⟨a.map (fun x => x.add 1), c - 1, fun w' => ?_, fun w' l hl h => ?_, fun k h => ?_⟩
    · simp [go_sem, sliced, h1]
      exact fun h => absurd h hck
    · exact restAt13 h 1 (by omega) _ (fun _ g o e => by subst e; simp [Addr.add])
    · cases a with
      | none => simp [Value.ownBlock] at h
      | some a => simpa [Value.ownBlock, Addr.add] using h

set_option maxHeartbeats 1000000 in
theorem iRight_any (va : Value) (l : List Int) (w : World) (ha : IntsAt w va l) (hl : l.length ≤ 1000000) :
    Calls Tryz.prog 96 #[va] w fun e w' => e = .returned (.bool (rightB l)) ∧ Below w.heap.size w w' := by
  have hmf : ∀ (fn : Fn) (first cap : Array Value) (w : World), (Instr.makeFunc fn first cap).run Tryz.prog w = .ok (.func fn first cap) w := fun _ _ _ _ => rfl
  cases l with
  | nil =>
    obtain ⟨a, c, rfl⟩ := ha.form
    have e : rightB [] = true := by decide
    rw [e]
    clear ha
    go_enter Tryz.func96, Tryz.ntmps96
    go_wp2
    go_ret
    exact ⟨rfl, Below.refl _ _⟩
  | cons x t =>
    obtain ⟨g, o, c, e, hlc, hg, p0⟩ := ha.spot 0 (by simp)
    subst e
    have hal := (Below.refl w.heap.size w).alloc (Nat.le_refl _) (.cells #[.int .i64 x] 3)
    have hX := Blk.new w [.int .i64 x] 3
    obtain ⟨a4, c4, hsl, hrows, how⟩ := from17 (some ⟨g, o, none⟩) (x :: t).length c (by simp) hlc
    have hr := (hrows _ (x :: t) rfl (ha.below hal).rows).ints
    have hS := iSome_any (J := fun (s : Int) F w' => BoJ w.heap.size (.int .i64 s) F w') rgt 103 (.pointer (some ⟨w.heap.size, 0, none⟩)) (fun _ _ => by kernel_rfl) _ t _ hr (by simp at hl; omega) x
      (fun k => k = w.heap.size) (fun h0 k hk hf => by have := ha.rows.lt (by simp) k (how k hk); omega) ⟨hX, fun k => Iff.rfl⟩ (fun _ _ => True) trivial (fun _ _ _ _ => trivial)
      (fun s F w' y k hx _ _ hj ho => iRight1_any _ s y F w' hj)
    rw [runS_right, List.length_cons, Nat.add_sub_cancel] at hS
    rw [List.length_cons, Nat.add_sub_cancel] at hsl
    have HS := Lib.hid hS
    have HAL := Lib.hid hal
    generalize rightB (x :: t) = r at *
    replace p0 : w.cell? ⟨g, o, none⟩ = some (.int .i64 x) := by simpa using p0
    rw [List.length_cons] at *
    clear hal hX hS ha hr hrows how hg
    generalize t.length = n at *
    have n0 : (0 : Int) ≤ (n : Int) := by omega
    have n1 : ¬ ((n : Int) + 1 = 0) := by omega
    go_enter Tryz.func96, Tryz.ntmps96
    go_wp2_with (go_at_call 102; (with_reducible refine HS.out.mono ?_); rintro e w1 ⟨rfl, F', h1, hm⟩; have HM := Lib.hid hm; clear h1 hm)
    go_ret
    exact ⟨by simp, HAL.out.trans (HM.out.only.below (fun k hk => by omega) HAL.out.size)⟩
end Go.Proofs.YthchkhgimnchcaaGreat
