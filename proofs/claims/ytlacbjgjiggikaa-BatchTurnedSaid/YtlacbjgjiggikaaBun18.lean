/- Texts of this proof, joined: BtI; BtBase23. -/
import Derived.Test.YtlacbjgjiggikaaBun17
/- Stage 23: the law BatchTurned. -/
namespace Go.Proofs.Ytlacbjgjiggikaa
open Go.RowKit Go.Maps

theorem csSp_one (x : Sp) : ∀ u ∈ csSp x, u.oneCell' = true := by
  intro u hu
  simp only [csSp, List.mem_cons, List.not_mem_nil, or_false] at hu
  rcases hu with rfl | rfl | rfl | rfl | rfl | rfl | rfl | rfl | rfl <;> rfl
theorem info_spec : (Try.prog.info? 37).map (fun i => (i.zero, i.size, i.bytes)) = some (some (.agg #[.int .i64 0, .int .i64 0, .int .u64 0, .int .u64 0, .int .i64 0, .int .i64 0, .int .i64 0, .int .i64 0, .slice none 0 0]), 9, 88) := by kernel_rfl
theorem appS23 {ops : Array Oper} {rest : List Oper} {o : Oper} {a : Act} {Q : Exit → Act → World → Prop} {B : Nat} {w : World} (x : Sp) {v : Value} {l : List Sp} (hown : OwnR w B 37 9 csSp v l) (hB : B ≤ w.heap.size) (hl : l.length ≤ 1000000)
    (hgd : o.guard = none) (s y : Operand) (ho : o.op = .call { callee := .builtin .append, args := #[s, y], argTypes := #[23, 23] }) (hs : a.eval s = v) (hx : a.eval y = .slice (some ⟨w.heap.size, 0, none⟩) 1 1)
    (hK : ∀ v' w', OwnR w' B 37 9 csSp v' (l ++ [x]) → Below B w w' → wpList Try.prog ops Q rest (a.put o.dst v') w') : wpList Try.prog ops Q (o :: rest) a (w.alloc (.cells #[.int .i64 x.id, .int .i64 x.prio, .int .u64 x.sk, .int .u64 x.ge, .int .i64 x.fx, .int .i64 x.fy, .int .i64 x.tx, .int .i64 x.ty, .slice x.a x.aft.length x.c] 37)) := by
  obtain ⟨i, hi, hz, hs1, hb1⟩ := info_parts info_spec
  exact appK csSp_len (by decide) csSp_one 37 23 i _ 88 Try.underlying23 hi hz hs1 hb1 rfl (by decide) hown hB hl hgd s y ho hs hx fun v' w' h1 h2 _ _ => hK v' w' h1 h2
theorem upto23 (a : Option Addr) (n c k : Nat) (hk : k ≤ c) (w' : World) : (Instr.sliceAt 23 (.slice a n c) none (some (.int .i64 (k : Int))) none).run Try.prog w' = .ok (.slice a k c) w' := by
  have h1 : (k : Int) ≤ (c : Int) := by omega
  simp [go_sem, sliced, h1]
theorem from23 (a : Option Addr) (n c k : Nat) (hk : k ≤ n) (hn : n ≤ c) : ∃ a4 c4, (∀ w', (Instr.sliceAt 23 (.slice a n c) (some (.int .i64 (k : Int))) none none).run Try.prog w' = .ok (.slice a4 (n - k) c4) w') ∧ ∀ (w' : World) (l : List Sp), l.length = n → RowsAt w' 9 csSp (.slice a n c) l → RowsAt w' 9 csSp (.slice a4 (n - k) c4) (l.drop k) := by
  have h1 : (k : Int) ≤ (n : Int) := by omega
  by_cases hck : c = k
  · have hc0 : n = k := by omega
    refine ⟨a, 0, fun w' => ?_, fun w' l hl h => ?_⟩
    · simp [go_sem, hck, hc0, sliced]
    · have := restAt13 h k (by omega) a (fun h => by omega)
      rwa [hck, Nat.sub_self] at this
  · refine ⟨a.map (fun x => x.add (k * 9)), c - k, fun w' => ?_, fun w' l hl h => ?_⟩
    · simp [go_sem, sliced, h1]
      exact fun h => absurd h hck
    · exact restAt13 h k (by omega) _ (fun _ g o e => by subst e; simp [Addr.add])
theorem turn_perm (L : List Sp) (k : Nat) : L.Perm (([] ++ L.drop k) ++ L.take k) := by
  rw [List.nil_append]
  exact (List.Perm.of_eq (List.take_append_drop k L).symm).trans List.perm_append_comm

set_option maxHeartbeats 16000000 in
set_option maxRecDepth 100000 in
theorem batchTurned_any (room : Int) (vk vl : Value) (K : List Tk) (L : List Sp) (y : Int) (w : World) (hk : RowsAt w 14 csTk vk K) (hl : SpsAt w vl L) (hK : ∀ x ∈ K, x.In) (hL : ∀ x ∈ L, x.In) (hy : 0 ≤ y ∧ y < 256) :
    Calls Try.prog 3 #[.int .i64 room, vk, vl, .int .u8 y] w fun e w' => e = .returned (.bool true) ∧ Below w.heap.size w w' := by
  have HAL := Lib.hid fun w => bAlive_any w
  have GT := Lib.hid (refFew23_any vk K 70 w hk (by omega))
  have GS := Lib.hid fun w' hb => refFew22_any vl L 20 w' (hl.kept hb).1 (by omega)
  obtain ⟨va, vc, rfl⟩ := RowsAt.form hk
  obtain ⟨la, lc, hlc, hle⟩ : ∃ a c, L.length ≤ c ∧ vl = .slice a L.length c := by
    obtain ⟨a, c, e, h, _⟩ := hl.1
    exact ⟨a, c, h, e⟩
  subst hle
  cases f1 : fewT K 70 with
  | false =>
    rw [f1] at GT
    clear f1 hk hl hK hL
    go_enter Try.func3, Try.ntmps3
    go_wp2_with (first
      | (go_at_call 5; (with_reducible refine GT.out.mono ?_); rintro e w1 ⟨rfl, hb⟩; have HB := Lib.hid hb; clear hb)
      | (go_at_call 8; (with_reducible refine (HAL.out _).mono ?_); rintro e w9 ⟨rfl, hb⟩; replace HB := Lib.hid (HB.out.trans (hb.mono HB.out.size)); clear hb))
    go_ret
    exact ⟨rfl, HB.out⟩
  | true =>
  rw [f1] at GT
  cases f2 : fewS L 20 with
  | false =>
    rw [f2] at GS
    clear f1 f2 hk hl hK hL
    go_enter Try.func3, Try.ntmps3
    go_wp2_with (first
      | (go_at_call 5; (with_reducible refine GT.out.mono ?_); rintro e w1 ⟨rfl, hb⟩; have HB := Lib.hid hb; clear hb)
      | (go_at_call 6; (with_reducible refine (GS.out _ HB.out).mono ?_); rintro e w2 ⟨rfl, hb⟩; replace HB := Lib.hid (HB.out.trans (hb.mono HB.out.size)); clear hb)
      | (go_at_call 8; (with_reducible refine (HAL.out _).mono ?_); rintro e w9 ⟨rfl, hb⟩; replace HB := Lib.hid (HB.out.trans (hb.mono HB.out.size)); clear hb))
    go_ret
    exact ⟨rfl, HB.out⟩
  | true =>
  rw [f2] at GS
  have f3 := fewT_iff.1 f1
  have f4 := fewS_iff.1 f2
  have GC := fun w' hb => bCheck_any room (.slice va K.length vc) (.slice la L.length lc) K L w' (RowsAt.kept hk hb) (hl.kept hb) (by omega) (by omega) (tk_64 hK) (sp_64 hL) (fun x hx => (hL x hx).len)
  have l20 : (L.length : Int) ≤ 20 := f4.1
  by_cases hz : bchk room K L = 0
  case neg =>
    replace GC := Lib.hid GC
    generalize bchk room K L = q at *
    have e1 : (q == 0) = false := beq_noI hz
    clear f1 f2 f3 f4 hk hl hK hL
    go_enter Try.func3, Try.ntmps3
    go_wp2_with (first
      | (go_at_call 5; (with_reducible refine GT.out.mono ?_); rintro e w1 ⟨rfl, hb⟩; have HB := Lib.hid hb; clear hb)
      | (go_at_call 6; (with_reducible refine (GS.out _ HB.out).mono ?_); rintro e w2 ⟨rfl, hb⟩; replace HB := Lib.hid (HB.out.trans (hb.mono HB.out.size)); clear hb)
      | (go_at_call 7; (with_reducible refine (GC.out _ HB.out).mono ?_); rintro e w3 ⟨rfl, hb⟩; replace HB := Lib.hid (HB.out.trans (hb.mono HB.out.size)); clear hb)
      | (go_at_call 8; (with_reducible refine (HAL.out _).mono ?_); rintro e w9 ⟨rfl, hb⟩; replace HB := Lib.hid (HB.out.trans (hb.mono HB.out.size)); clear hb))
    go_ret
    exact ⟨rfl, HB.out⟩
  rw [hz] at GC
  replace GC := Lib.hid GC
  have hok := bchk_iff.1 hz
  have HL := Lib.hid hl
  have hne : ((L.length : Int) == 0) = false := beq_noI (by have := hok.ne; omega)
  have hne2 : ¬ (L.length : Int) = 0 := by have := hok.ne; omega
  have hpos : (0 : Int) < (L.length : Int) := by have := hok.ne; omega
  obtain ⟨k, hkl, hm⟩ : ∃ k : Nat, k < L.length ∧ Int.tmod y (L.length : Int) = (k : Int) := by
    refine ⟨(Int.tmod y (L.length : Int)).toNat, ?_, ?_⟩
    · have h1 := Int.emod_lt_of_pos y hpos
      have h2 := Int.emod_nonneg y hne2
      rw [Int.tmod_eq_emod_of_nonneg hy.1]
      omega
    · have h2 := Int.emod_nonneg y hne2
      rw [Int.tmod_eq_emod_of_nonneg hy.1]
      omega
  have kpos : (0 : Int) ≤ (k : Int) := by omega
  have kle : (k : Int) ≤ (L.length : Int) := by omega
  have hup := upto23 la L.length lc k (by omega)
  obtain ⟨a4, c4, hsl, hrest⟩ := from23 la L.length lc k (by omega) hlc
  have y0 := hy.1
  have y1 := hy.2
  have hp := turn_perm L k
  have hokT := hok.perm hp
  have hTL : (([] ++ L.drop k) ++ L.take k).length = L.length := hp.length_eq.symm
  have hOT := perm_ord hp
  have hOl := hok.ord_len
  have h8 := fun x hx => chk_len (hok.chk x hx)
  have h64 := sp_64 hL
  have hTm : ∀ x ∈ (([] ++ L.drop k) ++ L.take k), x ∈ L := fun x hx => hp.symm.subset hx
  have GO1 := fun w' hb => bOrder_any (.slice la L.length lc) L w' (hl.kept hb) (by omega) (by have := arcsO_len h8; omega) h64
  rw [hok.whole] at GO1
  have GO2 := fun w' v (hv : SpsAt w' v (([] ++ L.drop k) ++ L.take k)) => bOrder_any v (([] ++ L.drop k) ++ L.take k) w' hv (by omega) (by have := arcsO_len (L := ([] ++ L.drop k) ++ L.take k) fun x hx => h8 x (hTm x hx); omega) (fun x hx => h64 x (hTm x hx))
  rw [hokT.whole, hOT] at GO2
  have GC2 := fun w' v (hb : Below w.heap.size w w') (hv : SpsAt w' v (([] ++ L.drop k) ++ L.take k)) => bCheck_any room (.slice va K.length vc) v K (([] ++ L.drop k) ++ L.take k) w' (RowsAt.kept hk hb) hv (by omega) (by omega) (tk_64 hK) (fun x hx => h64 x (hTm x hx)) (fun x hx => (hL x (hTm x hx)).len)
  rw [bchk_iff.2 hokT] at GC2
  obtain ⟨O, hO⟩ : ∃ O, ordL (idsO L) (arcsO L) = O := ⟨_, rfl⟩
  rw [hO] at GO1 GO2 hOl
  obtain ⟨p, hpl⟩ : ∃ p, L.length = p + 1 := ⟨L.length - 1, by have := hok.ne; omega⟩
  obtain ⟨last, hlast⟩ : ∃ n, O[p]? = some n := ⟨_, List.getElem?_eq_getElem (by omega)⟩
  have GC3 := fun (h1 : L.length ≠ 1) w' v (hb : Below w.heap.size w w') (hv : SpsAt w' v (restO L last)) => by
    have hr := hok.rest h1 (n := last) (k := p) (by rw [hO]; omega) (by rw [hO]; omega) (by simp only [hO]; exact (List.getElem?_eq_some_iff.1 hlast).2)
    have hrl : (restO L last).length ≤ L.length := List.length_filter_le _ _
    have := bCheck_any room (.slice va K.length vc) v K (restO L last) w' (RowsAt.kept hk hb) hv (by omega) (by omega) (tk_64 hK) (fun x hx => h64 x (List.mem_filter.1 hx).1) (fun x hx => (hL x (List.mem_filter.1 hx).1).len)
    rw [bchk_iff.2 hr] at this
    exact this
  have GI := fun (w' : World) va vb (h1 : IntsAt w' va O) (h2 : IntsAt w' vb O) => refInts_any va vb O O w' h1 h2 (by omega) (by omega)
  rw [decide_eq_true rfl] at GI
  replace GO1 := Lib.hid GO1
  replace GO2 := Lib.hid GO2
  replace GC2 := Lib.hid GC2
  replace GC3 := Lib.hid GC3
  replace GI := Lib.hid GI
  have HOL := Lib.hid hOl
  have HPL := Lib.hid hpl
  have HTM := Lib.hid hTm
  have HLAST := Lib.hid hlast
  have HREST := Lib.hid hrest
  obtain ⟨i0, hi, hz0, hz1, hz2⟩ := info_parts info_spec
  have HTL := Lib.hid hTL
  clear f1 f2 f3 f4 hk hl hK hL hz hok hp hokT hTL hOT h8 h64 hO hOl hTm hlast hrest hy hpl
  go_enter Try.func3, Try.ntmps3
  go_wp2_with (first
    | (go_at_call 5; (with_reducible refine GT.out.mono ?_); rintro e w1 ⟨rfl, hb⟩; have HB := Lib.hid hb; clear hb)
    | (go_at_call 6; (with_reducible refine (GS.out _ HB.out).mono ?_); rintro e w2 ⟨rfl, hb⟩; replace HB := Lib.hid (HB.out.trans (hb.mono HB.out.size)); clear hb)
    | (go_at_call 7; (with_reducible refine (GC.out _ HB.out).mono ?_); rintro e w3 ⟨rfl, hb⟩; replace HB := Lib.hid (HB.out.trans (hb.mono HB.out.size)); clear hb))
  obtain ⟨B0, hsz⟩ : ∃ B0, w3.heap.size = B0 := ⟨_, rfl⟩
  refine wp_region_chain 9 [.own (Lk.list B0 9 csSp 0 []), .calm 3, .own (Lk.list B0 9 csSp (L.length - k) ([] ++ L.drop k)), .calm 3, .own (Lk.list B0 9 csSp L.length (([] ++ L.drop k) ++ L.take k))] [0, 4, 8] rfl (by kernel_rfl) (by simp) (by kernel_rfl) (by kernel_rfl) ?_
  simp only [List.take_succ_cons, List.take_zero, List.drop_succ_cons, List.drop_zero]
  refine ⟨rfl, Lk.at_empty hsz (e := 37) (fun k => by simp [go_sem]), fun x1 A hA => ?_⟩
  simp [Act.put, Lk.list] at hA
  subst hA
  refine ⟨by simp, fun M => ?_⟩
  simp only [List.take_succ_cons, List.take_zero, List.drop_succ_cons, List.drop_zero]
  repeat (go_big_quiet_step (fail))
  refine wpQuiet_nil ?_
  clear M
  have hkm : L.length ≤ 20 := by omega
  refine ⟨rfl, Lk.at_append hsz (.tmp 44) (.tmp 47) 23 23 rfl csSp_len (by decide) csSp_one 37 37 i0 (.agg #[.int .i64 0, .int .i64 0, .int .u64 0, .int .u64 0, .int .i64 0, .int .i64 0, .int .i64 0, .int .i64 0, .slice none 0 0]) Try.underlying23 Try.underlying23 hi hz0 hz1 rfl (.slice x1.1 0 x1.2) [] rfl (.slice a4 (L.length - k) c4) (L.drop k) rfl _ (by simp) (by unfold maxLen; simp; omega) (by rw [hz2]; simp; omega) (fun n hn => ⟨hn, HREST.out _ L rfl (RowsAt.kept HL.out.1 (HB.out.trans (n.h.mono HB.out.size)))⟩), fun x2 A hA => ?_⟩
  simp [Act.put, Lk.list] at hA
  subst hA
  refine ⟨by simp, fun M => ?_⟩
  simp only [List.take_succ_cons, List.take_zero, List.drop_succ_cons, List.drop_zero]
  repeat (go_big_quiet_step (fail))
  refine wpQuiet_nil ?_
  clear M
  refine ⟨rfl, Lk.at_append hsz (.tmp 48) (.tmp 51) 23 23 rfl csSp_len (by decide) csSp_one 37 37 i0 (.agg #[.int .i64 0, .int .i64 0, .int .u64 0, .int .u64 0, .int .i64 0, .int .i64 0, .int .i64 0, .int .i64 0, .slice none 0 0]) Try.underlying23 Try.underlying23 hi hz0 hz1 rfl (.slice x2.1 (L.length - k) x2.2) ([] ++ L.drop k) rfl (.slice la k lc) (L.take k) rfl _ (by simp; omega) (by unfold maxLen; simp; omega) (by rw [hz2]; simp; omega) (fun n hn => ⟨hn, RowsAt.front (RowsAt.kept HL.out.1 (HB.out.trans (n.h.mono HB.out.size))) k (by omega)⟩), fun x3 A hA => ⟨rfl, fun w4 hb4 hr => ?_⟩⟩
  simp [Act.put, Lk.list] at hA
  subst hA
  obtain ⟨a3, c3⟩ := x3
  obtain ⟨ho, _⟩ := hr
  have HB4 := Lib.hid (HB.out.trans (hb4.mono HB.out.size))
  have HT4 := Lib.hid (show SpsAt w4 (.slice a3 L.length c3) (([] ++ L.drop k) ++ L.take k) from ⟨OwnO.rows csSp_len ho, fun x hx => (HL.out.2 x (HTM.out x hx)).below HB4.out⟩)
  simp only at *
  clear hb4 ho hsz HB hup hsl hm i0 hi hz0 hz1 hz2 HREST hlc
  have q1 : (L.length : Int) - 1 = ((L.length - 1 : Nat) : Int) := by omega
  have q2 : (0 : Int) ≤ ((L.length - 1 : Nat) : Int) := by omega
  have q3 : ((L.length - 1 : Nat) : Int) < (L.length : Int) := by omega
  go_wp2_with (first
    | (go_at_call 9; (with_reducible refine (GO1.out _ HB4.out).mono ?_); rintro e w5 ⟨v5, rfl, hv, hb⟩; obtain ⟨a5, c5, e5⟩ := hv.form; rw [HOL.out] at e5; subst e5; have HV5 := Lib.hid hv; have HT5 := Lib.hid (HT4.out.kept hb); have HB5 := Lib.hid (HB4.out.trans (hb.mono HB4.out.size)); clear hv hb)
    | (go_at_call 9; (with_reducible refine (GO2.out _ _ HT5.out).mono ?_); rintro e w6 ⟨v6, rfl, hv, hb⟩; obtain ⟨a6, c6, e6⟩ := hv.form; rw [HOL.out] at e6; subst e6; have HV6 := Lib.hid hv; replace HV5 := Lib.hid (HV5.out.below hb); have HT6 := Lib.hid (HT5.out.kept hb); have HB6 := Lib.hid (HB5.out.trans (hb.mono HB5.out.size)); clear hv hb)
    | (go_at_call 7; (with_reducible refine (GC2.out _ _ HB6.out HT6.out).mono ?_); rintro e w7 ⟨rfl, hb⟩; replace HV6 := Lib.hid (HV6.out.below hb); replace HV5 := Lib.hid (HV5.out.below hb); have HB7 := Lib.hid (HB6.out.trans (hb.mono HB6.out.size)); clear hb)
    | (go_at_call 10; (with_reducible refine (GI.out _ _ _ HV5.out HV6.out).mono ?_); rintro e w8 ⟨rfl, hb⟩; replace HV5 := Lib.hid (HV5.out.below hb); have HB8 := Lib.hid (HB7.out.trans (hb.mono HB7.out.size)); clear hb))
  obtain ⟨g5, o5, cc5, e5, _, _, p5⟩ := HV5.out.spot (L.length - 1) (by have := HOL.out; omega)
  rw [HOL.out] at e5
  cases e5
  have hlast : O[L.length - 1]'(by have := HOL.out; omega) = last := (List.getElem?_eq_some_iff.1 (show O[L.length - 1]? = some last by rw [← HLAST.out]; congr 1; have := HPL.out; omega)).2
  rw [hlast] at p5
  have HP5 := Lib.hid p5
  clear hlast p5 HT4 HT5 HT6 HV5 HV6
  go_loopg [15, 91] L.length (fun kx rv iv ws => ∃ j : Nat, j ≤ L.length ∧ L.length - j ≤ kx ∧ iv = .int .i64 j ∧ Hid (OwnR ws w8.heap.size 37 9 csSp rv (restO (L.take j) last)) ∧ Hid (Below w8.heap.size w8 ws))
  case atStart => exact ⟨0, Nat.zero_le _, Nat.le_refl _, rfl, OwnR.nil _ _ _ _ _, Below.refl _ _⟩
  case round =>
    obtain ⟨j, hj, hjx, rfl, HO, HB9⟩ := hrel
    have hb9 := HB8.out.trans (HB9.out.mono HB8.out.size)
    by_cases hjl : j < L.length
    · obtain ⟨g, o, cc, id, prio, sk, ge, fx, fy, tx, ty, a, c, l, he, e, hlc, p0, p1, p2, p3, p4, p5, p6, p7, p8, hi8⟩ := (HL.out.kept hb9).spot j hjl
      cases e
      have HJJ := Lib.hid (And.intro hjl hjx)
      have hnx := restO_take L last j hjl
      rw [he] at hnx
      dsimp only at hnx
      have hrl : (restO (L.take j) last).length ≤ 20 := by
        have := List.length_filter_le (fun x : Sp => !decide (x.id = last)) (L.take j)
        rw [List.length_take] at this
        unfold restO
        omega
      have hal := (Below.refl wr.heap.size wr).alloc (Nat.le_refl _) (.cells #[.int .i64 id, .int .i64 prio, .int .u64 sk, .int .u64 ge, .int .i64 fx, .int .i64 fy, .int .i64 tx, .int .i64 ty, .slice a l.length c] 37)
      have hX := Blk.new wr [.int .i64 id, .int .i64 prio, .int .u64 sk, .int .u64 ge, .int .i64 fx, .int .i64 fy, .int .i64 tx, .int .i64 ty, .slice a l.length c] 37
      have hP := (hal.cell (Nat.lt_of_lt_of_le (World.block_lt_of_cell? _ _ HP5.out) HB9.out.size)).trans ((HB9.out.cell (World.block_lt_of_cell? _ _ HP5.out)).trans HP5.out)
      have j1 : (j : Int) < (L.length : Int) := by omega
      have j0 : (0 : Int) ≤ (j : Int) := by omega
      have j2 : (j : Int) ≤ 20 := by omega
      have HX := Lib.hid hX
      have HPX := Lib.hid hP
      have HO3 := Lib.hid (OwnR.alloc HO.out (.cells #[.int .i64 id, .int .i64 prio, .int .u64 sk, .int .u64 ge, .int .i64 fx, .int .i64 fy, .int .i64 tx, .int .i64 ty, .slice a l.length c] 37))
      have HB3 := Lib.hid (HB9.out.alloc HB9.out.size (.cells #[.int .i64 id, .int .i64 prio, .int .u64 sk, .int .u64 ge, .int .i64 fx, .int .i64 fy, .int .i64 tx, .int .i64 ty, .slice a l.length c] 37))
      have HNX := Lib.hid hnx
      have HRL := Lib.hid hrl
      obtain ⟨rs, rc, re⟩ := RowsAt.form (OwnR.rows csSp_len HO.out)
      subst re
      generalize restO (L.take j) last = R at *
      clear hj hjx hjl hnx he hrl hal hX hP hi8 hb9 HO HB9
      go_upto_region 13 with (fail)
      generalize wr.alloc (.cells #[.int .i64 id, .int .i64 prio, .int .u64 sk, .int .u64 ge, .int .i64 fx, .int .i64 fy, .int .i64 tx, .int .i64 ty, .slice a l.length c] 37) = W5 at *
      clear p0 p1 p2 p3 p4 p5 p6 p7 p8
      go_wp2
      refine wp_region_calm0 (by kernel_rfl) (by kernel_rfl) fun M => ?_
      have c0 := fun n : In M.w => n.cell (M.cell (HX.out.cell 0 rfl))
      have d0 := fun n : In M.w => n.cell (M.cell HPX.out)
      repeat (go_big_quiet_step (fail))
      refine wpQuiet_nil ?_
      intro w9 hb9
      have HO5 := Lib.hid (OwnR.kept HO3.out hb9)
      have HB5' := Lib.hid (HB3.out.trans (hb9.mono HB3.out.size))
      have HX5 := Lib.hid (HX.out.kept hb9)
      clear c0 d0 M hb9 HO3 HB3
      by_cases hid : id = last
      · subst hid
        have hnx2 := HNX.out
        rw [if_pos rfl] at hnx2
        have HN2 := Lib.hid hnx2
        clear hnx2
        go_wp2
        go_roundg (L.length - (j + 1))
        case measure => have := HJJ.out; omega
        case rel => exact ⟨j + 1, by have := HJJ.out; omega, Nat.le_refl _, by go_num, by rw [HN2.out]; exact HO5.out, HB5'.out⟩
      · have hnx2 := HNX.out
        rw [if_neg hid] at hnx2
        have HN2 := Lib.hid hnx2
        have i1 : (id == last) = false := beq_noI hid
        have x0 := HX5.out.cell 0 rfl
        have x1 := HX5.out.cell 1 rfl
        have x2 := HX5.out.cell 2 rfl
        have x3 := HX5.out.cell 3 rfl
        have x4 := HX5.out.cell 4 rfl
        have x5 := HX5.out.cell 5 rfl
        have x6 := HX5.out.cell 6 rfl
        have x7 := HX5.out.cell 7 rfl
        have x8 := HX5.out.cell 8 rfl
        clear hnx2
        go_wp2_with (at_builtin; refine appS23 ⟨id, prio, sk, ge, fx, fy, tx, ty, a, c, l⟩ HO5.out HB5'.out.size (by have := HRL.out; omega) rfl _ _ rfl rfl rfl ?_; intro v10 w10 o10 b10; have HO10 := Lib.hid o10; have HB10 := Lib.hid (HB5'.out.trans b10); clear o10 b10 x0 x1 x2 x3 x4 x5 x6 x7 x8)
        go_roundg (L.length - (j + 1))
        case measure => have := HJJ.out; omega
        case rel => exact ⟨j + 1, by have := HJJ.out; omega, Nat.le_refl _, by go_num, by rw [HN2.out]; exact HO10.out, HB10.out⟩
    · have hje : j = L.length := by omega
      subst hje
      obtain ⟨rs, rc, re⟩ := RowsAt.form (OwnR.rows csSp_len HO.out)
      subst re
      have hrr := OwnR.rows csSp_len HO.out
      generalize (restO (L.take L.length) last).length = m7 at *
      rw [List.take_length] at hrr
      have HRS := Lib.hid (show SpsAt wr (.slice rs m7 rc) (restO L last) from ⟨hrr, fun x hx => (HL.out.2 x (List.mem_filter.1 hx).1).below hb9⟩)
      have HBr := Lib.hid hb9
      clear hj hjx hjl HO hrr hb9
      by_cases h1 : L.length = 1
      · have e1 : ((L.length : Int) == 1) = true := by rw [h1]; rfl
        have HB := HBr
        clear h1
        go_wp2_with (go_at_call 8; (with_reducible refine (HAL.out _).mono ?_); rintro e w9 ⟨rfl, hb⟩; replace HB := Lib.hid (HB.out.trans (hb.mono HB.out.size)); clear hb)
        go_ret
        exact ⟨rfl, HB.out⟩
      · have e1 : ((L.length : Int) == 1) = false := beq_noI (by omega)
        have e2 : ¬ (L.length : Int) = 1 := by omega
        have GC4 := Lib.hid (GC3.out h1 wr _ HBr.out HRS.out)
        clear h1
        go_wp2_with (first
          | (go_at_call 7; (with_reducible refine GC4.out.mono ?_); rintro e w11 ⟨rfl, hb⟩; have HB := Lib.hid (HBr.out.trans (hb.mono HBr.out.size)); clear hb)
          | (go_at_call 8; (with_reducible refine (HAL.out _).mono ?_); rintro e w9 ⟨rfl, hb⟩; replace HB := Lib.hid (HB.out.trans (hb.mono HB.out.size)); clear hb))
        go_ret
        exact ⟨rfl, HB.out⟩
end Go.Proofs.Ytlacbjgjiggikaa
/- Stage 23: what the frames of BatchTurned and BatchFull want. -/
