/- Stage 13's program: Put. -/
import Derived.Test.YtnfdhlkngjplkaaHpG
namespace Go.Proofs.Ytnfdhlkngjplkaa
open Go.RowKit

abbrev zTh : Th := ⟨0, 0, 0⟩
theorem info_hth : (Try.prog.info? 77).map (fun i => (i.zero, i.size, i.bytes)) = some (some (.agg #[.int .i64 0, .int .i64 0, .int .i64 0]), 3, 24) := by kernel_rfl
theorem oneZ (w : World) : ThAt (w.alloc (.cells #[.int .i64 0, .int .i64 0, .int .i64 0] 77)) (.slice (some ⟨w.heap.size, 0, none⟩) 1 1) [zTh] := by
  refine ⟨_, 1, rfl, Nat.le_refl _, fun _ => ⟨w.heap.size, 0, rfl, by simp, fun j y hj i u hu => ?_⟩⟩
  have h0 : j = 0 ∧ y = zTh := by
    cases j with
    | zero => simp at hj; exact ⟨rfl, hj.symm⟩
    | succ j => simp at hj
  obtain ⟨rfl, rfl⟩ := h0
  rcases i with _ | _ | _ | i
  · simp [csT] at hu; subst hu; go_simp
  · simp [csT] at hu; subst hu; go_simp
  · simp [csT] at hu; subst hu; go_simp
  · simp [csT] at hu

set_option maxHeartbeats 4000000 in
set_option maxRecDepth 100000 in
theorem hPut_any {F : Nat → Prop} {p : Nat} {S : List Th} (x : Th) (w : World) (h : HeapAt F w p S) (hn : S.length ≤ 1000) (hx : I64 x.id) :
    Calls Try.prog 37 #[ptr13 p, .int .i64 x.id, .int .i64 x.key, .int .i64 x.seq] w fun e w' => e = .returned (.bool (!hasT S x.id)) ∧ ∃ F', HeapAt F' w' p (putT S x) ∧ Mv F F' w w' := by
  obtain ⟨v, b, T, g, ⟨hr, hpos, hids⟩, hhp, hP, hS⟩ := h
  have hlen := hP.length_eq
  rw [pos_has hpos hP]
  have HF := Lib.hid (hFind_any x.id w hr hx)
  have HS := Lib.hid (srtT_put hS x)
  cases hg : g x.id with
  | some i =>
    rw [hg] at HF
    simp only [Option.getD_some, Option.isSome_some] at HF ⊢
    obtain ⟨hi, he⟩ := (hpos x.id i).1 hg
    have hl : (T.set i x).length = T.length := List.length_set ..
    have hgap : GapAt F w p v b T g i x := ⟨T.length, hr, by rw [hg]; rfl, hi, by rw [upd_self hg]; exact hpos.set hi he, fun y hy => by
      rcases List.mem_or_eq_of_mem_set hy with h1 | h1
      · exact hids y h1
      · rw [h1]; exact hx⟩
    have HG := Lib.hid (hFill_any i x w hgap (hhp.set hi x) (by omega))
    have HPm := Lib.hid (put_in hpos.dst hP hi he)
    clear hr hpos hids hhp hP hS hlen hg hi he hl hgap
    go_enter Try.func37, Try.ntmps37
    go_wp2_with (first
      | (go_at_call 51; (with_reducible refine HF.out.mono ?_); rintro e w1 ⟨rfl, rfl⟩)
      | (go_at_call 52; (with_reducible refine HG.out.mono ?_); rintro e w2 ⟨rfl, T', g', h1, h2, h3, h4⟩))
    go_ret
    exact ⟨rfl, F, ⟨v, b, T', g', h1, h2, h3.trans HPm.out, HS.out⟩, ⟨h4, fun k hk => .inl hk⟩⟩
  | none =>
    rw [hg] at HF
    simp only [Option.getD_none, Option.isSome_none] at HF ⊢
    obtain ⟨i0, hi, hz0, hz1, hz2⟩ := info_parts info_hth
    have p0 := hr.blk.cell 0 rfl
    have z0 := hr.blk.free 0 rfl
    obtain ⟨a, c, rfl⟩ := hr.own.form
    have hal := (Below.refl w.heap.size w).alloc (Nat.le_refl _) (.cells #[.int .i64 0, .int .i64 0, .int .i64 0] 77)
    have HO := Lib.hid (hr.own.kept hal)
    have HZ := Lib.hid (oneZ w)
    have HGR := Lib.hid fun (w2 : World) (v' : Value) (ho : OwnO w2 3 csT v' (T ++ [zTh])) hg hv => hr.grow (w1 := w.alloc (.cells #[.int .i64 0, .int .i64 0, .int .i64 0] 77)) hal ho hg hv
    have HBK := Lib.hid fun (w2 : World) (hg : (w.alloc (.cells #[.int .i64 0, .int .i64 0, .int .i64 0] 77)).grownBy w2 (Value.slice a T.length c).ownBlock) => (hr.blk.kept hal).grown hg (fun e => (hr.fv p e.symm).2.1 rfl)
    have hset : (T ++ [zTh]).set T.length x = T ++ [x] := by simp
    have hgap : ∀ F' w' v', RawAt F' w' p v' b (T ++ [zTh]) T.length g → GapAt F' w' p v' b (T ++ [zTh]) g T.length x := fun F' w' v' h1 =>
      ⟨T.length, h1, by rw [hg]; simp, by simp, by rw [hset]; exact hpos.snoc hg, fun y hy => by
        rw [hset] at hy
        rcases List.mem_append.1 hy with h2 | h2
        · exact hids y h2
        · rw [List.mem_singleton.1 h2]; exact hx⟩
    have hfix : fixI ((T ++ [zTh]).set T.length x) T.length := by
      rw [hset]
      have := hhp.snoc x
      exact ⟨fun k h0 hk hne _ => this.rest k h0 hk hne, this.kids⟩
    have HFL := Lib.hid fun F' w' v' (h1 : RawAt F' w' p v' b (T ++ [zTh]) T.length g) => hFill_any T.length x w' (hgap F' w' v' h1) hfix (by simp; omega)
    have HPm := Lib.hid (put_new hP (hpos.no hg))
    have HSE := Lib.hid hset
    have hl1 : T.length ≤ 1000 := by omega
    clear hr hpos hids hhp hP hS hlen hgap hfix hset hg hal hn
    go_enter Try.func37, Try.ntmps37
    go_wp2_with (first
      | (go_at_call 51; (with_reducible refine HF.out.mono ?_); rintro e w1 ⟨rfl, rfl⟩)
      | (at_builtin; refine wpList_append_o rfl _ _ _ _ rfl csT_len (by decide) csT_one 77 77 i0 (.agg #[.int .i64 0, .int .i64 0, .int .i64 0]) Try.underlying59 Try.underlying59 hi hz0 hz1 rfl rfl HO.out _ [zTh] rfl HZ.out (by unfold maxLen; simp; omega) (by rw [hz2]; simp; omega) ?_; intro v' w2 h1 h2 h3; have HR := Lib.hid (HGR.out w2 v' h1 h2 h3); have hbk := HBK.out w2 h2; have q0 := hbk.cell 0 rfl; have y0 := hbk.free 0 rfl; obtain ⟨a', c', e'⟩ := h1.form; rw [List.length_append, List.length_singleton] at e'; subst e'; clear h1 h2 h3 hbk)
      | (go_at_call 52; (with_reducible refine (HFL.out _ _ _ HR.out.1).mono ?_); rintro e w2 ⟨rfl, T', g', h1, h2, h3, h4⟩))
    go_ret
    exact ⟨rfl, _, ⟨_, b, T', g', h1, h2, (by rw [HSE.out] at h3; exact h3.trans HPm.out), HS.out⟩, HR.out.2.trans ⟨h4, fun k hk => .inl hk⟩⟩
theorem hPut_nil (x : Th) (w : World) : Calls Try.prog 37 #[.pointer none, .int .i64 x.id, .int .i64 x.key, .int .i64 x.seq] w fun e w' => e = .returned (.bool false) ∧ Below w.heap.size w w' := by
  go_enter Try.func37, Try.ntmps37
  go_wp2
  go_ret
  exact ⟨rfl, Below.refl _ _⟩
end Go.Proofs.Ytnfdhlkngjplkaa
