/- Stage 13's program: Drop. -/
import Derived.Test.YtnfdhlkngjplkaaHpH
namespace Go.Proofs.Ytnfdhlkngjplkaa
open Go.RowKit

theorem RawAt.cut {F : Nat → Prop} {w w2 w3 : World} {p gb o c q : Nat} {b m m' : Nat} {T : List Th} {g g' : Int → Option Nat} (h : RawAt F w p (.slice (some ⟨gb, o, none⟩) (q + 1) c) b T m g) (hq : T.length = q + 1) (hm : MapN w2 b m' g') (hg : w.grownBy w2 (some b)) (hb : Below w2.heap.size w2 w3) :
    RawAt F (w3.setCell ⟨p, 0, none⟩ (.slice (some ⟨gb, o, none⟩) q c)) p (.slice (some ⟨gb, o, none⟩) q c) b T.dropLast m' g' ∧ Only F w (w3.setCell ⟨p, 0, none⟩ (.slice (some ⟨gb, o, none⟩) q c)) := by
  have hpb : some p ≠ some b := fun e => h.ne (by injection e with e; exact e.symm)
  have hv := h.fv gb rfl
  have ho := ((h.own.grown hg fun k e => by simp [Value.ownBlock] at e; subst e; exact fun e => hv.2.2 (by injection e)).kept hb).take csT_len q (by omega)
  have hO := ((Only.grown (F := F) hg fun k e => by injection e with e; subst e; exact h.fb).trans (Only.of_below hb)).set ⟨p, 0, none⟩ (.slice (some ⟨gb, o, none⟩) q c) h.fp
  refine ⟨⟨?_, ?_, ?_, h.fp, h.fb, fun k e => h.fv k e, fun k hk => Nat.lt_of_lt_of_le (h.lt k hk) hO.size⟩, hO⟩
  · have := ((h.blk.grown hg hpb).kept hb).set 0 (.slice (some ⟨gb, o, none⟩) q c)
    simpa using this
  · rw [List.dropLast_eq_take, hq, Nat.add_sub_cancel]
    exact ho.away _ _ fun k e => by simp [Value.ownBlock] at e; subst e; exact hv.2.1
  · exact (hm.kept hb).away _ _ h.ne
theorem uptoT (a : Option Addr) (n c k : Nat) (hk : k ≤ c) (w' : World) : (Instr.sliceAt 59 (.slice a n c) none (some (.int .i64 (k : Int))) none).run Try.prog w' = .ok (.slice a k c) w' := by
  have h1 : (k : Int) ≤ (c : Int) := by omega
  simp [go_sem, sliced, h1]
theorem set_dropLast {T : List Th} {i : Nat} (x : Th) : (T.set i x).dropLast = T.dropLast.set i x := by
  rw [List.dropLast_eq_take, List.dropLast_eq_take, List.length_set, List.take_set]

set_option maxHeartbeats 4000000 in
set_option maxRecDepth 100000 in
theorem hDrop_any {F : Nat → Prop} {p : Nat} {S : List Th} (id : Int) (w : World) (h : HeapAt F w p S) (hn : S.length ≤ 1000) (hx : I64 id) :
    Calls Try.prog 39 #[ptr13 p, .int .i64 id] w fun e w' => e = .returned (.bool (hasT S id)) ∧ ∃ F', HeapAt F' w' p (dropT S id) ∧ Mv F F' w w' := by
  have HH := Lib.hid h
  obtain ⟨v, b, T, g, ⟨hr, hpos, hids⟩, hhp, hP, hS⟩ := h
  have hlen := hP.length_eq
  rw [pos_has hpos hP]
  have HF := Lib.hid (hFind_any id w hr hx)
  have HS := Lib.hid (srtT_drop hS id)
  cases hg : g id with
  | none =>
    rw [hg] at HF
    simp only [Option.getD_none, Option.isSome_none] at HF ⊢
    have hd : dropT S id = S := dropT_no fun y hy => hpos.no hg y (hP.mem_iff.2 hy)
    rw [hd]
    clear hr hpos hids hhp hP hS hlen hg hd HS
    go_enter Try.func39, Try.ntmps39
    go_wp2_with (go_at_call 51; (with_reducible refine HF.out.mono ?_); rintro e w1 ⟨rfl, rfl⟩)
    go_ret
    exact ⟨rfl, F, HH.out, Mv.refl _ _⟩
  | some i =>
    rw [hg] at HF
    simp only [Option.getD_some, Option.isSome_some] at HF ⊢
    obtain ⟨hi, he⟩ := (hpos id i).1 hg
    obtain ⟨q, hq⟩ : ∃ q, T.length = q + 1 := ⟨T.length - 1, by omega⟩
    obtain ⟨gb, o, c, rfl, hlc, ⟨j0, j1, j2⟩, _⟩ := hr.own.th q (by omega)
    have hl : q = T.length - 1 := by omega
    have HM := Lib.hid hr.map
    have HX := Lib.hid hx
    have p1 := hr.blk.cell 1 rfl
    have HB := Lib.hid fun (w2 : World) (hg : w.grownBy w2 (some b)) => hr.blk.grown hg (fun e => hr.ne (by injection e with e; exact e.symm))
    have HO := Lib.hid fun (w2 : World) (hg : w.grownBy w2 (some b)) => (hr.own.grown hg fun k e => by simp [Value.ownBlock] at e; subst e; exact fun e => (hr.fv gb rfl).2.2 (by injection e)).th q (by omega)
    rw [hq] at hr HO HB HM
    have HC := Lib.hid fun (w2 w3 : World) (m' : Nat) g' (hm : MapN w2 b m' g') hg hb => hr.cut (w2 := w2) (w3 := w3) hq hm hg hb
    have hqc : q ≤ c := by omega
    have hup := uptoT (some ⟨gb, o, none⟩) (q + 1) c q hqc
    have q0 : (0 : Int) ≤ (q : Int) := by omega
    have q1 : (q : Int) ≤ 1000 := by omega
    have hin : tg T q = (tg T (T.length - 1)) := by rw [hl]
    by_cases hiq : i < q
    · have c1 : (i : Int) < (q : Int) := by omega
      have hne : (tg T q).id ≠ id := fun e => by
        have := hpos.dst.inj (show q < T.length by omega) hi (by rw [e, he])
        omega
      have hsl : T.dropLast.length = q := by rw [List.length_dropLast]; omega
      have hgs : (g (tg T q).id) = some q := hpos.some (by omega)
      have hgap : ∀ w', RawAt F w' p (.slice (some ⟨gb, o, none⟩) q c) b T.dropLast q (upd g id none) → GapAt F w' p (.slice (some ⟨gb, o, none⟩) q c) b T.dropLast (upd g id none) i (tg T q) := fun w' h1 =>
        ⟨q, h1, by unfold upd; rw [if_neg hne, hgs, hsl]; rfl, by omega, by
          have h2 := hpos.over (show i < T.length - 1 by omega)
          rw [set_dropLast, ← hin, he] at h2
          have e : upd (upd g (tg T q).id (some i)) id none = upd (upd g id none) (tg T q).id (some i) := by
            funext k
            unfold upd
            by_cases hk : k = id
            · rw [if_pos hk, if_neg (fun h => hne (by rw [← h, hk])), if_pos hk]
            · rw [if_neg hk, if_neg hk]
          rwa [e] at h2, fun y hy => by
          rcases List.mem_or_eq_of_mem_set hy with h1 | h1
          · exact hids y (List.dropLast_subset _ h1)
          · rw [h1, tg_get _ _ (by omega)]
            exact hids _ (List.getElem_mem _)⟩
      have hfix : fixI (T.dropLast.set i (tg T q)) i := by
        rw [← set_dropLast]
        exact (hhp.set hi (tg T q)).pop
      have hpm := drop_last hpos.dst hP hi
      rw [set_dropLast, ← hin, he] at hpm
      have HPm := Lib.hid hpm
      have HFL := Lib.hid fun w' h1 => hFill_any i (tg T q) w' (hgap w' h1) hfix (by rw [hsl]; omega)
      have HG := Lib.hid (show (g id).isSome = true by rw [hg]; rfl)
      clear hr hpos hids hhp hP hS hlen hg hi he hl hx hgap hfix hpm hin hsl hne hgs j0 j1 j2 hn
      generalize tg T q = x at *
      obtain ⟨x1, x2, x3⟩ := x
      simp only at HFL HO
      go_enter Try.func39, Try.ntmps39
      go_wp2_with (first
        | (go_at_call 51; (with_reducible refine HF.out.mono ?_); rintro e w1 ⟨rfl, rfl⟩)
        | (at_delete; refine wpList_delN rfl rfl _ _ rfl rfl HM.out id HX.out rfl ?_; intro w2 hm2 hg2; rw [HG.out, if_pos rfl, Nat.add_sub_cancel] at hm2; have HCC := Lib.hid fun w3 hb => HC.out w2 w3 q _ hm2 hg2 hb; have hbk := HB.out w2 hg2; have u0 := hbk.cell 0 rfl; have f0 := hbk.free 0 rfl; have hal := (Below.refl w2.heap.size w2).alloc (Nat.le_refl _) (.cells #[.int .i64 x1, .int .i64 x2, .int .i64 x3] 77); have hbl := hbk.kept hal; have u1 := hbl.cell 0 rfl; have f1 := hbl.free 0 rfl; have HR4 := Lib.hid (HCC.out _ hal); have hx := (Blk.new w2 [.int .i64 x1, .int .i64 x2, .int .i64 x3] 77).away ⟨p, 0, none⟩ (.slice (some ⟨gb, o, none⟩) q c) (fun e => by have := hbk.lt; simp at e; omega); have x0 := hx.cell 0 rfl; have x4 := hx.cell 1 rfl; have x5 := hx.cell 2 rfl; obtain ⟨_, _, _, e, _, ⟨j0, j1, j2⟩, _⟩ := HO.out w2 hg2; cases e; clear hbk hm2 hg2 hal hbl hx HCC)
        | (go_at_call 52; (with_reducible refine (HFL.out _ HR4.out.1).mono ?_); rintro e w4 ⟨rfl, T', g', h1, h2, h3, h4⟩))
      go_ret
      exact ⟨rfl, F, ⟨_, b, T', g', h1, h2, h3.trans HPm.out, HS.out⟩, ⟨HR4.out.2.trans h4, fun k hk => .inl hk⟩⟩
    · have hie : i = q := by omega
      subst hie
      have hsl : T.dropLast.length = i := by rw [List.length_dropLast]; omega
      have hpop : Pos T.dropLast (upd g id none) := by
        have := hpos.pop (by omega)
        rwa [← hl, he] at this
      have hpm := drop_last hpos.dst hP hi
      rw [← hl, he] at hpm
      have hse : (T.set i (tg T i)).dropLast = T.dropLast := by
        rw [tg_get _ _ hi, List.set_getElem_self]
      rw [hse] at hpm
      have HF2 := Lib.hid fun w' (h1 : RawAt F w' p (.slice (some ⟨gb, o, none⟩) i c) b T.dropLast i (upd g id none)) => (show HpAt F w' p (.slice (some ⟨gb, o, none⟩) i c) b T.dropLast (upd g id none) from ⟨by rw [hsl]; exact h1, hpop, fun y hy => hids y (List.dropLast_subset _ hy)⟩)
      have HPO := Lib.hid hhp.pop
      have HPm := Lib.hid hpm
      have HG := Lib.hid (show (g id).isSome = true by rw [hg]; rfl)
      clear hr hpos hids hhp hP hS hlen hg hi he hl hx hpop hpm hin hsl hse j0 j1 j2 hn hiq
      generalize tg T i = x at *
      obtain ⟨x1, x2, x3⟩ := x
      simp only at HO
      go_enter Try.func39, Try.ntmps39
      go_wp2_with (first
        | (go_at_call 51; (with_reducible refine HF.out.mono ?_); rintro e w1 ⟨rfl, rfl⟩)
        | (at_delete; refine wpList_delN rfl rfl _ _ rfl rfl HM.out id HX.out rfl ?_; intro w2 hm2 hg2; rw [HG.out, if_pos rfl, Nat.add_sub_cancel] at hm2; have HCC := Lib.hid fun w3 hb => HC.out w2 w3 i _ hm2 hg2 hb; have hbk := HB.out w2 hg2; have u0 := hbk.cell 0 rfl; have f0 := hbk.free 0 rfl; have hal := (Below.refl w2.heap.size w2).alloc (Nat.le_refl _) (.cells #[.int .i64 x1, .int .i64 x2, .int .i64 x3] 77); have hbl := hbk.kept hal; have u1 := hbl.cell 0 rfl; have f1 := hbl.free 0 rfl; have HR4 := Lib.hid (HCC.out _ hal); have hx := (Blk.new w2 [.int .i64 x1, .int .i64 x2, .int .i64 x3] 77).away ⟨p, 0, none⟩ (.slice (some ⟨gb, o, none⟩) i c) (fun e => by have := hbk.lt; simp at e; omega); have x0 := hx.cell 0 rfl; have x4 := hx.cell 1 rfl; have x5 := hx.cell 2 rfl; obtain ⟨_, _, _, e, _, ⟨j0, j1, j2⟩, _⟩ := HO.out w2 hg2; cases e; clear hbk hm2 hg2 hal hbl hx HCC))
      go_ret
      exact ⟨rfl, F, ⟨_, b, T.dropLast, _, HF2.out _ HR4.out.1, HPO.out, HPm.out, HS.out⟩, ⟨HR4.out.2, fun k hk => .inl hk⟩⟩
theorem hDrop_nil (id : Int) (w : World) : Calls Try.prog 39 #[.pointer none, .int .i64 id] w fun e w' => e = .returned (.bool false) ∧ Below w.heap.size w w' := by
  go_enter Try.func39, Try.ntmps39
  go_wp2_with (go_at_call 51; (with_reducible refine (hFind_nil _ _).mono ?_); rintro e w1 ⟨rfl, rfl⟩)
  go_ret
  exact ⟨rfl, Below.refl _ _⟩
end Go.Proofs.Ytnfdhlkngjplkaa
