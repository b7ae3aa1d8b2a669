/- Texts of this proof, joined: HpI; HpJ; SortRow; SortK; HpK. -/
import Derived.Test.YtkhnkhkpjgemkaaBun4
import Derived.Shelf.SlSortCmp.KitK
import Derived.Shelf.SlSortCmp.NoneTotal
import Derived.Shelf.Lay
import Derived.Shelf.SlGeneric
import Derived.Ground.SlsfProg
/- Stage 13's program: Drop. -/
namespace Go.Proofs.Ytkhnkhkpjgemkaa
open Go.RowKit

theorem RawAt.cut {F : Nat → Prop} {w w2 w3 : World} {p gb o c q : Nat} {b m m' : Nat} {T : List Th} {g g' : Int → Option Nat} (h : RawAt F w p (.slice (some ⟨gb, o, none⟩) (q + 1) c) b T m g) (hq : T.length = q + 1) (hm : MapN w2 b m' g') (hg : w.grownBy w2 (some b)) (hb : Below w2.heap.size w2 w3) :
    RawAt F (w3.setCell ⟨p, 0, none⟩ (.slice (some ⟨gb, o, none⟩) q c)) p (.slice (some ⟨gb, o, none⟩) q c) b T.dropLast m' g' ∧ Only F w (w3.setCell ⟨p, 0, none⟩ (.slice (some ⟨gb, o, none⟩) q c)) := by
  have hpb : some p ≠ some b := fun e => h.ne (by injection e with e; exact e.symm)
  have hv := h.fv gb rfl
  have ho := ((h.own.grown hg fun k e => by simp [Value.ownBlock] at e; subst e; exact fun e => hv.2.2 (by injection e)).kept hb).take csT_len q (by omega)
  have hO := ((Only.grown (F := F) hg fun k e => by injection e with e; subst e; exact h.fb).trans (Only.of_below hb)).set ⟨p, 0, none⟩ (.slice (some ⟨gb, o, none⟩) q c) h.fp
  refine ⟨⟨?_, ?_, ?_, h.fp, h.fb, fun k e => h.fv k e, fun k hk => Nat.lt_of_lt_of_le (h.lt k hk) hO.size⟩, hO⟩
  · have := ((h.blk.grown hg hpb).kept hb).set 0 (.slice (some ⟨gb, o, none⟩) q c)
    simpa using this
  · rw [List.dropLast_eq_take, hq, Nat.add_sub_cancel]
    exact ho.away _ _ fun k e => by simp [Value.ownBlock] at e; subst e; exact hv.2.1
  · exact (hm.kept hb).away _ _ h.ne
theorem uptoT (a : Option Addr) (n c k : Nat) (hk : k ≤ c) (w' : World) : (Instr.sliceAt 60 (.slice a n c) none (some (.int .i64 (k : Int))) none).run Try.prog w' = .ok (.slice a k c) w' := by
  have h1 : (k : Int) ≤ (c : Int) := by omega
  simp [go_sem, sliced, h1]
theorem set_dropLast {T : List Th} {i : Nat} (x : Th) : (T.set i x).dropLast = T.dropLast.set i x := by
  rw [List.dropLast_eq_take, List.dropLast_eq_take, List.length_set, List.take_set]

set_option maxHeartbeats 4000000 in
set_option maxRecDepth 100000 in
theorem hDrop_any {F : Nat → Prop} {p : Nat} {S : List Th} (id : Int) (w : World) (h : HeapAt F w p S) (hn : S.length ≤ 1000) (hx : I64 id) :
    Calls Try.prog 29 #[ptr13 p, .int .i64 id] w fun e w' => e = .returned (.bool (hasT S id)) ∧ ∃ F', HeapAt F' w' p (dropT S id) ∧ Mv F F' w w' := by
  have HH := Lib.hid h
  obtain ⟨v, b, T, g, ⟨hr, hpos, hids⟩, hhp, hP, hS⟩ := h
  have hlen := hP.length_eq
  rw [pos_has hpos hP]
  have HF := Lib.hid (hFind_any id w hr hx)
  have HS := Lib.hid (srtT_drop hS id)
  cases hg : g id with
  | none =>
    rw [hg] at HF
    simp only [Option.getD_none, Option.isSome_none] at HF ⊢
    have hd : dropT S id = S := dropT_no fun y hy => hpos.no hg y (hP.mem_iff.2 hy)
    rw [hd]
    clear hr hpos hids hhp hP hS hlen hg hd HS
    go_enter Try.func29, Try.ntmps29
    go_wp2_with (go_at_call 30; (with_reducible refine HF.out.mono ?_); rintro e w1 ⟨rfl, rfl⟩)
    go_ret
    exact ⟨rfl, F, HH.out, Mv.refl _ _⟩
  | some i =>
    rw [hg] at HF
    simp only [Option.getD_some, Option.isSome_some] at HF ⊢
    obtain ⟨hi, he⟩ := (hpos id i).1 hg
    obtain ⟨q, hq⟩ : ∃ q, T.length = q + 1 := ⟨T.length - 1, by omega⟩
    obtain ⟨gb, o, c, rfl, hlc, ⟨j0, j1, j2⟩, _⟩ := hr.own.th q (by omega)
    have hl : q = T.length - 1 := by omega
    have HM := Lib.hid hr.map
    have HX := Lib.hid hx
    have p1 := hr.blk.cell 1 rfl
    have HB := Lib.hid fun (w2 : World) (hg : w.grownBy w2 (some b)) => hr.blk.grown hg (fun e => hr.ne (by injection e with e; exact e.symm))
    have HO := Lib.hid fun (w2 : World) (hg : w.grownBy w2 (some b)) => (hr.own.grown hg fun k e => by simp [Value.ownBlock] at e; subst e; exact fun e => (hr.fv gb rfl).2.2 (by injection e)).th q (by omega)
    rw [hq] at hr HO HB HM
    have HC := Lib.hid fun (w2 w3 : World) (m' : Nat) g' (hm : MapN w2 b m' g') hg hb => hr.cut (w2 := w2) (w3 := w3) hq hm hg hb
    have hqc : q ≤ c := by omega
    have hup := uptoT (some ⟨gb, o, none⟩) (q + 1) c q hqc
    have q0 : (0 : Int) ≤ (q : Int) := by omega
    have q1 : (q : Int) ≤ 1000 := by omega
    have hin : tg T q = (tg T (T.length - 1)) := by rw [hl]
    by_cases hiq : i < q
    · have c1 : (i : Int) < (q : Int) := by omega
      have hne : (tg T q).id ≠ id := fun e => by
        have := hpos.dst.inj (show q < T.length by omega) hi (by rw [e, he])
        omega
      have hsl : T.dropLast.length = q := by rw [List.length_dropLast]; omega
      have hgs : (g (tg T q).id) = some q := hpos.some (by omega)
      have hgap : ∀ w', RawAt F w' p (.slice (some ⟨gb, o, none⟩) q c) b T.dropLast q (upd g id none) → GapAt F w' p (.slice (some ⟨gb, o, none⟩) q c) b T.dropLast (upd g id none) i (tg T q) := fun w' h1 =>
        ⟨q, h1, by unfold upd; rw [if_neg hne, hgs, hsl]; rfl, by omega, by
          have h2 := hpos.over (show i < T.length - 1 by omega)
          rw [set_dropLast, ← hin, he] at h2
          have e : upd (upd g (tg T q).id (some i)) id none = upd (upd g id none) (tg T q).id (some i) := by
            funext k
            unfold upd
            by_cases hk : k = id
            · rw [if_pos hk, if_neg (fun h => hne (by rw [← h, hk])), if_pos hk]
            · rw [if_neg hk, if_neg hk]
          rwa [e] at h2, fun y hy => by
          rcases List.mem_or_eq_of_mem_set hy with h1 | h1
          · exact hids y (List.dropLast_subset _ h1)
          · rw [h1, tg_get _ _ (by omega)]
            exact hids _ (List.getElem_mem _)⟩
      have hfix : fixI (T.dropLast.set i (tg T q)) i := by
        rw [← set_dropLast]
        exact (hhp.set hi (tg T q)).pop
      have hpm := drop_last hpos.dst hP hi
      rw [set_dropLast, ← hin, he] at hpm
      have HPm := Lib.hid hpm
      have HFL := Lib.hid fun w' h1 => hFill_any i (tg T q) w' (hgap w' h1) hfix (by rw [hsl]; omega)
      have HG := Lib.hid (show (g id).isSome = true by rw [hg]; rfl)
      clear hr hpos hids hhp hP hS hlen hg hi he hl hx hgap hfix hpm hin hsl hne hgs j0 j1 j2 hn
      generalize tg T q = x at *
      obtain ⟨x1, x2, x3⟩ := x
      simp only at HFL HO
      go_enter Try.func29, Try.ntmps29
      go_wp2_with (first
        | (go_at_call 30; (with_reducible refine HF.out.mono ?_); rintro e w1 ⟨rfl, rfl⟩)
        | (at_delete; refine wpList_delN rfl rfl _ _ rfl rfl HM.out id HX.out rfl ?_; intro w2 hm2 hg2; rw [HG.out, if_pos rfl, Nat.add_sub_cancel] at hm2; have HCC := Lib.hid fun w3 hb => HC.out w2 w3 q _ hm2 hg2 hb; have hbk := HB.out w2 hg2; have u0 := hbk.cell 0 rfl; have f0 := hbk.free 0 rfl; have hal := (Below.refl w2.heap.size w2).alloc (Nat.le_refl _) (.cells #[.int .i64 x1, .int .i64 x2, .int .i64 x3] 66); have hbl := hbk.kept hal; have u1 := hbl.cell 0 rfl; have f1 := hbl.free 0 rfl; have HR4 := Lib.hid (HCC.out _ hal); have hx := (Blk.new w2 [.int .i64 x1, .int .i64 x2, .int .i64 x3] 66).away ⟨p, 0, none⟩ (.slice (some ⟨gb, o, none⟩) q c) (fun e => by have := hbk.lt; simp at e; omega); have x0 := hx.cell 0 rfl; have x4 := hx.cell 1 rfl; have x5 := hx.cell 2 rfl; obtain ⟨_, _, _, e, _, ⟨j0, j1, j2⟩, _⟩ := HO.out w2 hg2; cases e; clear hbk hm2 hg2 hal hbl hx HCC)
        | (go_at_call 31; (with_reducible refine (HFL.out _ HR4.out.1).mono ?_); rintro e w4 ⟨rfl, T', g', h1, h2, h3, h4⟩))
      go_ret
      exact ⟨rfl, F, ⟨_, b, T', g', h1, h2, h3.trans HPm.out, HS.out⟩, ⟨HR4.out.2.trans h4, fun k hk => .inl hk⟩⟩
    · have hie : i = q := by omega
      subst hie
      have hsl : T.dropLast.length = i := by rw [List.length_dropLast]; omega
      have hpop : Pos T.dropLast (upd g id none) := by
        have := hpos.pop (by omega)
        rwa [← hl, he] at this
      have hpm := drop_last hpos.dst hP hi
      rw [← hl, he] at hpm
      have hse : (T.set i (tg T i)).dropLast = T.dropLast := by
        rw [tg_get _ _ hi, List.set_getElem_self]
      rw [hse] at hpm
      have HF2 := Lib.hid fun w' (h1 : RawAt F w' p (.slice (some ⟨gb, o, none⟩) i c) b T.dropLast i (upd g id none)) => (show HpAt F w' p (.slice (some ⟨gb, o, none⟩) i c) b T.dropLast (upd g id none) from ⟨by rw [hsl]; exact h1, hpop, fun y hy => hids y (List.dropLast_subset _ hy)⟩)
      have HPO := Lib.hid hhp.pop
      have HPm := Lib.hid hpm
      have HG := Lib.hid (show (g id).isSome = true by rw [hg]; rfl)
      clear hr hpos hids hhp hP hS hlen hg hi he hl hx hpop hpm hin hsl hse j0 j1 j2 hn hiq
      generalize tg T i = x at *
      obtain ⟨x1, x2, x3⟩ := x
      simp only at HO
      go_enter Try.func29, Try.ntmps29
      go_wp2_with (first
        | (go_at_call 30; (with_reducible refine HF.out.mono ?_); rintro e w1 ⟨rfl, rfl⟩)
        | (at_delete; refine wpList_delN rfl rfl _ _ rfl rfl HM.out id HX.out rfl ?_; intro w2 hm2 hg2; rw [HG.out, if_pos rfl, Nat.add_sub_cancel] at hm2; have HCC := Lib.hid fun w3 hb => HC.out w2 w3 i _ hm2 hg2 hb; have hbk := HB.out w2 hg2; have u0 := hbk.cell 0 rfl; have f0 := hbk.free 0 rfl; have hal := (Below.refl w2.heap.size w2).alloc (Nat.le_refl _) (.cells #[.int .i64 x1, .int .i64 x2, .int .i64 x3] 66); have hbl := hbk.kept hal; have u1 := hbl.cell 0 rfl; have f1 := hbl.free 0 rfl; have HR4 := Lib.hid (HCC.out _ hal); have hx := (Blk.new w2 [.int .i64 x1, .int .i64 x2, .int .i64 x3] 66).away ⟨p, 0, none⟩ (.slice (some ⟨gb, o, none⟩) i c) (fun e => by have := hbk.lt; simp at e; omega); have x0 := hx.cell 0 rfl; have x4 := hx.cell 1 rfl; have x5 := hx.cell 2 rfl; obtain ⟨_, _, _, e, _, ⟨j0, j1, j2⟩, _⟩ := HO.out w2 hg2; cases e; clear hbk hm2 hg2 hal hbl hx HCC))
      go_ret
      exact ⟨rfl, F, ⟨_, b, T.dropLast, _, HF2.out _ HR4.out.1, HPO.out, HPm.out, HS.out⟩, ⟨HR4.out.2, fun k hk => .inl hk⟩⟩
theorem hDrop_nil (id : Int) (w : World) : Calls Try.prog 29 #[.pointer none, .int .i64 id] w fun e w' => e = .returned (.bool false) ∧ Below w.heap.size w w' := by
  go_enter Try.func29, Try.ntmps29
  go_wp2_with (go_at_call 30; (with_reducible refine (hFind_nil _ _).mono ?_); rintro e w1 ⟨rfl, rfl⟩)
  go_ret
  exact ⟨rfl, Below.refl _ _⟩
end Go.Proofs.Ytkhnkhkpjgemkaa
/- Stage 13's program: Len, First, Pop, Has. -/
namespace Go.Proofs.Ytkhnkhkpjgemkaa
open Go.RowKit

set_option maxHeartbeats 2000000 in
theorem hLen_any {F : Nat → Prop} {p : Nat} {S : List Th} (w : World) (h : HeapAt F w p S) (_hn : S.length ≤ 1000) :
    Calls Try.prog 37 #[ptr13 p] w fun e w' => e = .returned (.int .i64 (S.length : Int)) ∧ Below w.heap.size w w' := by
  obtain ⟨v, b, T, g, ⟨hr, hpos, hids⟩, hhp, hP, hS⟩ := h
  have p0 := hr.blk.cell 0 rfl
  obtain ⟨a, c, rfl⟩ := hr.own.form
  rw [← hP.length_eq]
  clear hr hpos hids hhp hP hS
  go_enter Try.func37, Try.ntmps37
  go_wp2
  go_ret
  exact ⟨rfl, Below.refl _ _⟩
theorem hLen_nil (w : World) : Calls Try.prog 37 #[.pointer none] w fun e w' => e = .returned (.int .i64 0) ∧ Below w.heap.size w w' := by
  go_enter Try.func37, Try.ntmps37
  go_wp2
  go_ret
  exact ⟨rfl, Below.refl _ _⟩

set_option maxHeartbeats 2000000 in
theorem hFirst_any {F : Nat → Prop} {p : Nat} {S : List Th} (w : World) (h : HeapAt F w p S) (hn : S.length ≤ 1000) :
    Calls Try.prog 26 #[ptr13 p] w fun e w' => e = .returned (.tuple #[.int .i64 (frsT S).1, .bool (frsT S).2]) ∧ Below w.heap.size w w' := by
  have HH := Lib.hid h
  obtain ⟨v, b, T, g, ⟨hr, hpos, hids⟩, hhp, hP, hS⟩ := h
  have hl := hP.length_eq
  have HL := Lib.hid (hLen_any w HH.out hn)
  by_cases h0 : T.length = 0
  · have : S = [] := List.eq_nil_of_length_eq_zero (by omega)
    subst this
    clear hr hpos hids hhp hP hS hl h0 HH
    go_enter Try.func26, Try.ntmps26
    go_wp2_with (go_at_call 37; (with_reducible refine HL.out.mono ?_); rintro e w1 ⟨rfl, hb⟩)
    exact bodyPost_ret (v := .tuple #[.int .i64 0, .bool false]) (by simp [results, Try.results26, go_sem]) rfl ⟨rfl, hb⟩
  · obtain ⟨t, hS2⟩ := first_is hhp hS hP (by omega)
    obtain ⟨gb, o, c, rfl, hlc, ⟨j0, j1, j2⟩, _⟩ := hr.own.th 0 (by omega)
    have p0 := hr.blk.cell 0 rfl
    have hfr : frsT S = ((tg T 0).id, true) := by rw [hS2]; rfl
    rw [hfr]
    have h9 : ((S.length : Int) == 0) = false := beq_noI (by omega)
    have hpos2 : (0 : Int) < (T.length : Int) := by omega
    rw [Nat.zero_mul, Nat.add_zero] at j0
    generalize (tg T 0).id = x at *
    generalize S.length = n at *
    clear hr hpos hids hhp hP hS hl h0 HH hS2 hfr j1 j2 hn
    go_enter Try.func26, Try.ntmps26
    go_wp2_with (go_at_call 37; (with_reducible refine HL.out.mono ?_); rintro e w1 ⟨rfl, hb⟩; have q0 := (World.cell?_of_block (a := ⟨p, 0, none⟩) (hb.block p (World.block_lt_of_cell? _ _ p0))).trans p0; have k0 := (World.cell?_of_block (a := ⟨gb, o, none⟩) (hb.block gb (World.block_lt_of_cell? _ _ j0))).trans j0; have HB := Lib.hid hb; clear hb p0 j0)
    exact bodyPost_ret (v := .tuple #[.int .i64 x, .bool true]) (by simp [results, Try.results26, go_sem]) rfl ⟨rfl, HB.out⟩
theorem hFirst_nil (w : World) : Calls Try.prog 26 #[.pointer none] w fun e w' => e = .returned (.tuple #[.int .i64 0, .bool false]) ∧ Below w.heap.size w w' := by
  go_enter Try.func26, Try.ntmps26
  go_wp2_with (go_at_call 37; (with_reducible refine (hLen_nil _).mono ?_); rintro e w1 ⟨rfl, hb⟩)
  exact bodyPost_ret (v := .tuple #[.int .i64 0, .bool false]) (by simp [results, Try.results26, go_sem]) rfl ⟨rfl, hb⟩

theorem fnd_pos {T S : List Th} {g : Int → Option Nat} (h : Pos T g) (hp : T.Perm S) (id : Int) : fndT S id = match g id with | some i => (tg T i, true) | none => (⟨0, 0, 0⟩, false) := by
  unfold fndT
  cases hg : g id with
  | none =>
    have : S.find? (fun x => decide (x.id = id)) = none := List.find?_eq_none.2 fun y hy => by simpa using h.no hg y (hp.mem_iff.2 hy)
    rw [this]
  | some i =>
    obtain ⟨hi, e⟩ := (h id i).1 hg
    have hm : tg T i ∈ S := by rw [tg_get _ _ hi]; exact hp.mem_iff.1 (List.getElem_mem hi)
    cases hf : S.find? (fun x => decide (x.id = id)) with
    | none => exact absurd e (by simpa using List.find?_eq_none.1 hf _ hm)
    | some y =>
      have h1 := List.find?_some hf
      have h2 := List.mem_of_find?_eq_some hf
      obtain ⟨j, hj, ej⟩ := List.getElem_of_mem (hp.mem_iff.2 h2)
      have h3 := (h id j).2 ⟨hj, by rw [tg_get _ _ hj, ej]; simpa using h1⟩
      rw [hg] at h3
      cases h3
      show (y, true) = (tg T i, true)
      rw [tg_get _ _ hi, ej]

end Go.Proofs.Ytkhnkhkpjgemkaa
/- Rows that a sort of structs works on, from and to lists of one's own. FOR ALL LATER STAGES. -/
namespace Go.Proofs.Ytkhnkhkpjgemkaa
open Go.RowKit Go.Shelf

/-- what a comparing function says and leaves -/
def CmpK {α : Type} (P : Program) (g : Nat) (cs : α → List Value) (cf : α → α → Int) : Prop :=
  ∀ x y w, Calls P g #[.agg (cs x).toArray, .agg (cs y).toArray] w fun e w' => e = .returned (.int .i64 (cf x y)) ∧ ∃ q os', w' = Sort.grow (w.drewN q) os'
theorem below_sortK {α : Type} [Inhabited α] {B blk off n K : Nat} {cs : α → List Value} {w : World} {d : Array α} {os : Array Obj} (hb : B ≤ blk) (hz : B ≤ w.heap.size) : Below B w (sortWorldK cs K w blk off n d os) := by
  refine ⟨rfl, rfl, rfl, ?_, fun k hk => ?_⟩
  · unfold sortWorldK
    rw [Sort.size_grow]
    simp [Sort.putRowK, Sort.putRow, Sort.mapBlock, Sort.ahead]
  · unfold sortWorldK
    rw [Sort.heap_grow_old _ _ (by simp [Sort.putRowK, Sort.putRow, Sort.mapBlock, Sort.ahead]; omega)]
    have : blk ≠ k := by omega
    simp [Sort.putRowK, Sort.putRow, Sort.mapBlock, Sort.ahead, Array.getElem?_modify, this]
theorem OwnR.holdsK {α : Type} [Inhabited α] {w : World} {B K : Nat} {e : TypeId} {cs : α → List Value} {v : Value} {l : List α} (hK : ∀ x, (cs x).length = K) (h : OwnR w B e K cs v l) (h0 : 0 < l.length) :
    ∃ g cap, v = .slice (some ⟨g, 0, none⟩) l.length cap ∧ B ≤ g ∧ g < w.heap.size ∧ l.length ≤ cap ∧ Sort.HoldsK cs K w g 0 l.toArray := by
  rcases h.2 with ⟨rfl, he⟩ | ⟨g, cap, cur, rfl, hg, hh, hnc, hcp, hcs, htake⟩
  · omega
  · refine ⟨g, cap, rfl, hg, (Array.getElem?_eq_some_iff.1 hh).1, hnc, fun j hj => ?_⟩
    have hj' : j < l.length * K := by simpa using hj
    refine ⟨?_, by simp [World.frozen?, hh]⟩
    have K0 : 0 < K := Nat.pos_of_ne_zero fun e => by subst e; simp at hj'
    have hq : j / K < l.length := (Nat.div_lt_iff_lt_mul K0).2 hj'
    have hr : j % K < K := Nat.mod_lt _ K0
    have hu : (cs l[j / K])[j % K]? = some ((cs l[j / K])[j % K]'(by rw [hK]; exact hr)) := List.getElem?_eq_getElem _
    have h1 := flats_at hK l (j / K) l[j / K] (List.getElem?_eq_getElem hq) (j % K) _ hu
    rw [Nat.mul_comm, Nat.div_add_mod, ← htake, List.getElem?_take_of_lt hj'] at h1
    simp only [World.cell?, hh, Nat.zero_add]
    rw [Sort.get_flatK _ _ _ _ (by simpa using hj')]
    have e1 : l.toArray[j / K]! = l[j / K] := by rw [getElem!_pos _ _ (by simpa using hq)]; simp
    rw [e1, getElem!_pos _ _ (by rw [hK]; exact hr)]
    simpa using h1
theorem rows_of_holdsK {α : Type} [Inhabited α] {w : World} {g cap K : Nat} {cs : α → List Value} {l : List α} (hK : ∀ x, (cs x).length = K) (hH : Sort.HoldsK cs K w g 0 l.toArray) (hg : g < w.heap.size) (hc : l.length ≤ cap) : RowsAt w K cs (.slice (some ⟨g, 0, none⟩) l.length cap) l := by
  refine ⟨_, cap, rfl, hc, fun _ => ⟨g, 0, rfl, hg, fun j x hj i u hu => ?_⟩⟩
  have hjl : j < l.length := (List.getElem?_eq_some_iff.1 hj).1
  have hi : i < K := by rw [← hK x]; exact (List.getElem?_eq_some_iff.1 hu).1
  have hlt : j * K + i < l.length * K := by
    have : (j + 1) * K ≤ l.length * K := Nat.mul_le_mul_right _ hjl
    rw [Nat.add_mul] at this
    omega
  have K0 : 0 < K := by omega
  have h1 := (hH (j * K + i) (by simpa using hlt)).1
  rw [Sort.get_flatK _ _ _ _ (by simpa using hlt)] at h1
  have e2 : (j * K + i) / K = j := by rw [Nat.mul_comm, Nat.mul_add_div K0, Nat.div_eq_of_lt hi, Nat.add_zero]
  have e3 : (j * K + i) % K = i := by rw [Nat.mul_comm, Nat.mul_add_mod, Nat.mod_eq_of_lt hi]
  have e1 : l.toArray[j]! = x := by
    rw [getElem!_pos _ _ (by simpa using hjl)]
    rw [List.getElem?_eq_getElem hjl] at hj
    simpa using Option.some.inj hj
  rw [e2, e3, e1] at h1
  rw [Nat.zero_add] at h1 ⊢
  rw [h1]
  have : (cs x)[i]! = u := by
    rw [getElem!_pos _ _ (by rw [hK]; exact hi)]
    rw [List.getElem?_eq_getElem (by rw [hK]; exact hi)] at hu
    exact Option.some.inj hu
  rw [← this]
  rfl
end Go.Proofs.Ytkhnkhkpjgemkaa
/- slices.SortFunc at structs, over a list that the call has gathered: the same things, in order. FOR ALL LATER STAGES. -/
namespace Go.Proofs.Ytkhnkhkpjgemkaa
open Go.RowKit Go.Shelf

theorem sortK_own {P : Program} {ρ : Ren} {α : Type} [Inhabited α] (L : SlLaysF0.n6 P ρ) (K : Nat) (aE : ∀ w, (isAgg (ρ.t 24)).run P w = .ok true w) (zE : ∀ w, (Go.sizeOf (ρ.t 24)).run P w = .ok K w) (cs : α → List Value) (hK : ∀ x, (cs x).length = K) (hone : ∀ x, ∀ u ∈ cs x, u.oneCell' = true)
    (cf : α → α → Int) (hO : Sort.SWO (ltOf cf)) (g : Nat) (eg : ∀ args w, (callFunc g args).run P w = .ok (.enter g args) w) (hcmp : CmpK P g cs cf) (v : Value) (l : List α) (B : Nat) (e : TypeId) (w : World) (h : OwnR w B e K cs v l) (hB : B ≤ w.heap.size) (hsz : l.length < 4611686018427387904) :
    Calls P (ρ.f 6) #[v, .func (.func g) #[] #[]] w fun e' w' => e' = .returned (.tuple #[]) ∧ ∃ l', l'.Perm l ∧ l'.Pairwise (fun x y => ltOf cf y x = false) ∧ RowsAt w' K cs v l' ∧ Below B w w' := by
  by_cases h0 : l.length = 0
  · have : l = [] := List.eq_nil_of_length_eq_zero h0
    subst this
    obtain ⟨a, c, rfl⟩ := RowsAt.form (OwnR.rows hK h)
    refine (AnyF.slices_SortFunc_none L a c _ w).mono ?_
    rintro e w' ⟨rfl, rfl⟩
    exact ⟨rfl, [], List.Perm.refl _, List.Pairwise.nil, OwnR.rows hK h, Below.refl _ _⟩
  · obtain ⟨gb, cap, rfl, hg, hgw, hc, hH⟩ := h.holdsK hK (by omega)
    have hs := AnyQ.slices_SortFunc L K aE zE cs hK hone cf hO g #[] gb 0 cap l.toArray w eg (fun m os dk _ x y => hcmp x y _) hH hgw (by simpa using hsz)
    refine hs.mono ?_
    rintro e w' ⟨rfl, d', n, os, hp, hsrt, rfl⟩
    obtain ⟨p1, p2, p3⟩ := hp
    have e1 : d'.toList.Perm l := by
      have q1 : d'.extract 0 l.toArray.size = d' := by rw [← p1]; simp
      have q2 : l.toArray.extract 0 l.toArray.size = l.toArray := by simp
      rw [q1, q2] at p3
      simpa using p3
    have hlen : d'.toList.length = l.length := e1.length_eq
    have hH2 : Sort.HoldsK cs K (sortWorldK cs K w gb 0 n d' os) gb 0 d'.toList.toArray := by
      have := holdsK_sortWorldK cs K w gb 0 n l.toArray d' os hgw hH p1
      simpa using this
    have hr := rows_of_holdsK hK hH2 (lt_sortWorldK cs K w gb 0 n d' os hgw) (cap := cap) (by omega)
    rw [hlen] at hr
    refine ⟨rfl, d'.toList, e1, ?_, hr, below_sortK hg hB⟩
    rw [List.pairwise_iff_getElem]
    intro i j hi hj hij
    have := hsrt i j (Nat.zero_le _) hij (by rw [← p1]; simpa using hj)
    rw [getElem!_pos d' i (by simpa using hi), getElem!_pos d' j (by simpa using hj)] at this
    simpa using this
end Go.Proofs.Ytkhnkhkpjgemkaa
/- Stage 13's program: All. -/
namespace Go.Proofs.Ytkhnkhkpjgemkaa
open Go.RowKit Go.Shelf
shelf_lay_g SlLaysF0.n6 Slsf 6 at Try 35 as sortTh

theorem ordT_swo : Sort.SWO (ltOf ordT) where
  irrefl x := by
    show decide (ordT x x < 0) = false
    rw [ordT_ahead]; exact ahead_irr x
  trans x y z h1 h2 := by
    unfold ltOf at *
    rw [ordT_ahead] at *
    exact ahead_trans h1 h2
  ntrans x y z h1 h2 := by
    unfold ltOf at *
    rw [ordT_ahead] at *
    exact nah_trans h2 h1
theorem ordT_cmp : CmpK Try.prog 36 csT ordT := fun x y w => hOrder_any x y w

set_option maxHeartbeats 2000000 in
theorem hSort_any (v : Value) (T : List Th) (B : Nat) (w : World) (h : OwnR w B 66 3 csT v T) (hB : B ≤ w.heap.size) (hn : T.length ≤ 1000000) :
    Calls Try.prog 35 #[v, .func (.func 36) #[] #[]] w fun e w' => e = .returned (.tuple #[]) ∧ ∃ T', T'.Perm T ∧ T'.Pairwise (fun x y => ahead y x = false) ∧ ThAt w' v T' ∧ Below B w w' := by
  have eg : ∀ args w, (callFunc 36 args).run Try.prog w = .ok (.enter 36 args) w := enters_of Try.func36 (by kernel_rfl) rfl
  have := sortK_own sortTh 3 Try.isAgg66 Try.sizeOf66 csT csT_len csT_one ordT ordT_swo _ eg ordT_cmp v T B _ w h hB (by omega)
  refine this.mono ?_
  rintro e w' ⟨rfl, T', h1, h2, h3, h4⟩
  refine ⟨rfl, T', h1, h2.imp fun {x y} h => ?_, h3, h4⟩
  rw [← ordT_ahead]
  exact h

set_option maxHeartbeats 2000000 in
theorem hClone_any (v : Value) (T : List Th) (w : World) (h : OwnO w 3 csT v T) (hn : T.length ≤ 1000000) :
    Calls Try.prog 34 #[v] w fun e w' => ∃ v', e = .returned v' ∧ OwnR w' w.heap.size 66 3 csT v' T ∧ Below w.heap.size w w' := by
  rcases id h with ⟨rfl, rfl⟩ | ⟨g, o, cap, rfl, _⟩
  · have he : (binOp BinOp.eql 60 (.slice none 0 0) (.slice none 0 0)).run Try.prog w = .ok (.bool true) w := by kernel_rfl
    clear h
    go_enter Try.func34, Try.ntmps34
    go_wp2
    go_ret
    exact ⟨_, rfl, OwnR.nil _ _ _ _ _, Below.refl _ _⟩
  · obtain ⟨i0, hi, hz0, hz1, hz2⟩ := info_parts info_hth
    have hal := (Below.refl w.heap.size w).alloc (Nat.le_refl _) (.cells #[] 66)
    have HR := Lib.hid ((h.rows csT_len).kept hal)
    have HO := Lib.hid (OwnR.empty w 3 csT 66 w.heap.size rfl)
    have HB := Lib.hid hal
    have he : (binOp BinOp.eql 60 (.slice (some ⟨g, o, none⟩) T.length cap) (.slice none 0 0)).run Try.prog w = .ok (.bool false) w := by kernel_rfl
    clear h hal
    go_enter Try.func34, Try.ntmps34
    go_wp2_with (at_builtin; refine wpList_append_rows csT_len (by decide) csT_one rfl _ _ 60 rfl w.heap.size 66 i0 (.agg #[.int .i64 0, .int .i64 0, .int .i64 0]) 24 Try.underlying60 hi hz0 hz1 hz2 rfl _ _ rfl HO.out _ T rfl HR.out (by unfold maxLen; simp; omega) (by simp; omega) HB.out.size ?_; intro v2 w2 o2 g2; have HO2 := Lib.hid o2; have HB2 := Lib.hid (OwnR.below HO.out HB.out HB.out.size g2); clear o2 g2)
    go_ret
    exact ⟨_, rfl, HO2.out, HB2.out⟩

set_option maxHeartbeats 4000000 in
set_option maxRecDepth 100000 in
theorem hAll_any {F : Nat → Prop} {p : Nat} {S : List Th} (w : World) (h : HeapAt F w p S) (hn : S.length ≤ 1000) :
    Calls Try.prog 25 #[ptr13 p] w fun e w' => ∃ v, e = .returned v ∧ OwnI w' w.heap.size v (idsT S) ∧ Below w.heap.size w w' := by
  obtain ⟨v, b, T, g, ⟨hr, hpos, hids⟩, hhp, hP, hS⟩ := h
  have hl := hP.length_eq
  have p0 := hr.blk.cell 0 rfl
  have HC := Lib.hid (hClone_any v T w hr.own (by omega))
  have HEQ := Lib.hid fun (T' : List Th) (h1 : T'.Perm T) (h2 : T'.Pairwise (fun x y => ahead y x = false)) => (show T' = S from by
    have hd : Dst T' := hpos.dst.perm h1.symm
    refine srtT_eq ?_ hS (h1.trans hP)
    refine List.pairwise_iff_getElem.2 fun i j hi hj hij => ahead_else (List.pairwise_iff_getElem.1 h2 i j hi hj hij) fun e => ?_
    have := hd.inj hj hi (by rw [tg_get _ _ hi, tg_get _ _ hj]; exact e)
    omega)
  obtain ⟨a0, c0, rfl⟩ := hr.own.form
  have HL := Lib.hid hl
  obtain ⟨i0, hi, hz0, hz1, hz2⟩ := info_parts info_int
  clear hr hpos hids hhp hP hS hl
  go_enter Try.func25, Try.ntmps25
  go_wp2_with (first
    | (go_at_call 34; (with_reducible refine HC.out.mono ?_); rintro e w1 ⟨v1, rfl, ho, hb⟩; have HB1 := Lib.hid hb; have HST := Lib.hid (hSort_any v1 T w.heap.size w1 ho hb.size (by have := HL.out; omega)); obtain ⟨a1, c1, e1⟩ := RowsAt.form (OwnR.rows csT_len ho); subst e1; clear ho hb)
    | (go_at_call 35; (with_reducible refine HST.out.mono ?_); rintro e w2 ⟨rfl, T', h1, h2, h3, h4⟩; have e2 := HEQ.out T' h1 h2; subst e2; have HR := Lib.hid h3; have HB2 := Lib.hid (HB1.out.trans h4); clear h1 h2 h3 h4 HST HEQ HC p0))
  generalize T.length = tl at *
  have htl := HL.out
  subst htl
  go_loopw [4, 18] (fun ov iv wr => ∃ k : Nat, k ≤ T'.length ∧ iv = .int .i64 k ∧ OwnI wr w2.heap.size ov (idsT (T'.take k)) ∧ Below w2.heap.size w2 wr) (fun _ iv _ => T'.length - (intOf iv).toNat)
  case atStart => exact ⟨0, by omega, rfl, OwnR.nil _ _ _ _ _, Below.refl _ _⟩
  case round =>
    obtain ⟨k, hk, rfl, ho, hB⟩ := hrel
    by_cases hlt : k < T'.length
    · obtain ⟨g, o, cc, e, hcc, hgg, q0, q1, q2⟩ := ThAt.at (RowsAt.kept HR.out hB) k hlt
      cases e
      have hnx := idsT_take T' k hlt
      have hil := idsT_len (T'.take k)
      rw [List.length_take] at hil
      have k0 : (0 : Int) ≤ (k : Int) := by omega
      have k1 : (k : Int) < (T'.length : Int) := by omega
      generalize T'[k] = y at *
      obtain ⟨y1, y2, y3⟩ := y
      simp only at hnx q0 q1 q2
      have hal := (Below.refl wr.heap.size wr).alloc (Nat.le_refl _) (.cells #[.int .i64 y1, .int .i64 y2, .int .i64 y3] 66)
      have HNX := Lib.hid hnx
      have HO := Lib.hid (OwnR.alloc (ho.kept hal) (.cells #[.int .i64 y1] 3))
      have hp1 := oneI13 (wr.alloc (.cells #[.int .i64 y1, .int .i64 y2, .int .i64 y3] 66)) y1
      rw [show (wr.alloc (.cells #[.int .i64 y1, .int .i64 y2, .int .i64 y3] 66)).heap.size = wr.heap.size + 1 by simp] at hp1
      have HP := Lib.hid hp1
      have HB := Lib.hid ((hB.alloc hB.size (.cells #[.int .i64 y1, .int .i64 y2, .int .i64 y3] 66)).alloc (by have := hB.size; simp; omega) (.cells #[.int .i64 y1] 3))
      have HIL := Lib.hid (show (idsT (T'.take k)).length ≤ 1000000 by omega)
      clear ho hB hal hnx hil hp1
      go_wp2_with (at_builtin; refine wpList_append_rows csI_len (by decide) csI_one13 rfl _ _ 33 rfl w2.heap.size 3 i0 (.int .i64 0) 8 Try.underlying33 hi hz0 hz1 hz2 rfl _ _ rfl HO.out _ [y1] rfl HP.out (by have := HIL.out; unfold maxLen; simp; omega) (by have := HIL.out; simp; omega) HB.out.size ?_; intro v3 w3 o3 g3; have HO3 := Lib.hid o3; have HB3 := Lib.hid (OwnR.below HO.out HB.out HB.out.size g3); clear o3 g3)
      go_roundw
      case rel => exact ⟨k + 1, by omega, by go_num, by rw [HNX.out]; exact HO3.out, HB3.out⟩
      case measure => simp [intOf] <;> omega
    · have hke : k = T'.length := by omega
      subst hke
      rw [List.take_length] at ho
      have HO := Lib.hid ho
      clear ho
      go_wp2
      go_ret
      exact ⟨_, rfl, HO.out.base13 HB2.out.size, HB2.out.trans (hB.mono HB2.out.size)⟩
end Go.Proofs.Ytkhnkhkpjgemkaa
