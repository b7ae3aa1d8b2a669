/- Stage 25's program: those, Free, View, Contains, Pick, the answers of nobody's roster. -/
import Derived.Test.YtlgemfgikdaelaaRsC
import Derived.Test.YtlgemfgikdaelaaAppK
import Derived.Test.YtlgemfgikdaelaaGraphRefA
import Derived.Test.YtlgemfgikdaelaaSkillMathB
import Derived.Laws.BitsAllLaws
namespace Go.Proofs.Ytlgemfgikdaelaa
open Go.RowKit

theorem info_hand : (Try.prog.info? 52).map (fun i => (i.zero, i.size, i.bytes)) = some (some (.agg #[.int .i64 0, .int .u64 0, .bool false]), 3, 24) := by kernel_rfl
theorem appHd {ops : Array Oper} {rest : List Oper} {o : Oper} {a : Act} {Q : Exit → Act → World → Prop} {B : Nat} {w : World} (x : Hd) {v : Value} {l : List Hd} (hown : OwnR w B 52 3 csHd v l) (hB : B ≤ w.heap.size) (hl : l.length ≤ 1000000)
    (hgd : o.guard = none) (s y : Operand) (ho : o.op = .call { callee := .builtin .append, args := #[s, y], argTypes := #[29, 29] }) (hs : a.eval s = v) (hx : a.eval y = .slice (some ⟨w.heap.size, 0, none⟩) 1 1)
    (hK : ∀ v' w', OwnR w' B 52 3 csHd v' (l ++ [x]) → Below B w w' → wpList Try.prog ops Q rest (a.put o.dst v') w') : wpList Try.prog ops Q (o :: rest) a (w.alloc (.cells #[.int .i64 x.id, .int .u64 (x.bits : Int), .bool x.on] 52)) := by
  obtain ⟨i, hi, hz, hs1, hb1⟩ := info_parts info_hand
  exact appK csHd_len (by decide) csHd_one 52 29 i _ 24 Try.underlying29 hi hz hs1 hb1 rfl (by decide) hown hB hl hgd s y ho hs hx fun v' w' h1 h2 _ _ => hK v' w' h1 h2
theorem freeE_take (L : List En) (j : Nat) (hj : j < L.length) : freeE (L.take (j + 1)) = if L[j].free then freeE (L.take j) ++ [L[j].hd] else freeE (L.take j) := by
  unfold freeE
  rw [List.take_succ_eq_append_getElem hj, List.filter_append, List.map_append]
  cases h : L[j].free with
  | true => rw [List.filter_cons_of_pos h, if_pos rfl]; rfl
  | false => rw [List.filter_cons_of_neg (by simp [h]), if_neg (by simp)]; simp
theorem freeE_len (L : List En) : (freeE L).length ≤ L.length := by
  unfold freeE
  rw [List.length_map]
  exact List.length_filter_le _ _

section
variable {F : Nat → Prop} {w w' : World} {p : Nat} {room : Int} {v : Value} {L : List En}
set_option maxHeartbeats 4000000 in
set_option maxRecDepth 100000 in
theorem rThose_any (h : RsAt F w p room L) :
    Calls Try.prog 33 #[ptr25 p, .func (.func 34) #[] #[]] w fun e w' => ∃ v, e = .returned v ∧ OwnR w' w.heap.size 52 3 csHd v (freeE L) ∧ Below w.heap.size w w' := by
  obtain ⟨v0, hr, hF⟩ := h
  have hlen := hr.len
  have HR := Lib.hid hr
  obtain ⟨va, vc, hv⟩ := OwnO.form hr.row
  subst hv
  have HI := Lib.hid fun x w => rIsFree_any x w
  clear hr hF
  go_enter Try.func33, Try.ntmps33
  go_wp2
  refine wp_scope_goto 0 (fun n a' w' => ∃ (j : Nat) (z : Int) (ov : Value), n = L.length - j ∧ z = j ∧ j ≤ L.length ∧ OwnR w' w.heap.size 52 3 csHd ov (freeE (L.take j)) ∧ Below w.heap.size w w' ∧ ∃ u2 u3 u7 u8 u9 u10 u11 u12 u13 u14 u15 u16 u17 u18 u19 u20 u21 u22 u23 u24 u25 u26 u27 u28 u29 u30 u31 u32 u33 u34, a' = { tmps := #[ptr25 p, .func (.func 34) #[] #[], u2, u3, .slice none 0 0, ov, .int .i64 z, u7, u8, u9, u10, u11, u12, u13, u14, u15, u16, u17, u18, u19, u20, u21, u22, u23, u24, u25, u26, u27, u28, u29, u30, u31, u32, u33, u34], defers := [] }) rfl rfl ?_ ?_
  · rintro n a' w' ⟨j, _, ov, rfl, rfl, hj, ho, hB, u2, u3, u7, u8, u9, u10, u11, u12, u13, u14, u15, u16, u17, u18, u19, u20, u21, u22, u23, u24, u25, u26, u27, u28, u29, u30, u31, u32, u33, u34, rfl⟩ K hK
    have HK := Lib.hid hK
    have HO := Lib.hid ho
    have HB := Lib.hid hB
    have hRk := HR.out.kept hB
    have q1 := hRk.blk.cell 1 rfl
    have j0 : (0 : Int) ≤ (j : Int) := by omega
    clear hK ho hB
    by_cases hlt : j < L.length
    · obtain ⟨g, o, cc, e, -, -, p0, p1, p2, p3⟩ := row_at hRk.rows j hlt
      cases e
      have hft := freeE_take L j hlt
      have hfl := freeE_len (L.take j)
      rw [List.length_take] at hfl
      have hi := HI.out L[j]
      generalize L[j] = x at *
      obtain ⟨f, hf⟩ : ∃ f, x.free = f := ⟨_, rfl⟩
      rw [hf] at hi hft
      obtain ⟨id, bi, on, bu⟩ := x
      dsimp only [env, En.hd] at hi hft p0 p1 p2 p3
      have GI := Lib.hid hi
      have HN := Lib.hid hft
      have j1 : (j : Int) < (L.length : Int) := by omega
      have HA := Lib.hid ((Below.refl w'.heap.size w').alloc (Nat.le_refl _) (.cells #[.int .i64 id, .int .u64 (bi : Int), .bool on, .bool bu] 68))
      have HX := Lib.hid (Blk.new w' [.int .i64 id, .int .u64 (bi : Int), .bool on, .bool bu] 68)
      clear hi hft hRk hf
      cases f with
      | false =>
        go_wp2_with (go_at_call 34; (with_reducible refine (GI.out _).mono ?_); rintro e w1 ⟨rfl, hb⟩; have HB1 := Lib.hid (HA.out.trans (hb.mono HA.out.size)); clear hb)
        go_step3
        exact ⟨rfl, HK.out (L.length - (j + 1)) _ _ (by omega) ⟨j + 1, _, ov, rfl, by omega, by omega, by rw [HN.out]; exact OwnR.kept HO.out HB1.out, HB.out.trans (HB1.out.mono HB.out.size), _, _, _, _, _, _, _, _, _, _, _, _, _, _, _, _, _, _, _, _, _, _, _, _, _, _, _, _, _, _,  rfl⟩⟩
      | true =>
        go_wp2_with (first
          | (go_at_call 34; (with_reducible refine (GI.out _).mono ?_); rintro e w1 ⟨rfl, hb⟩; have HXK := Lib.hid (HX.out.kept hb); have s0 := HXK.out.cell 0 rfl; have s1 := HXK.out.cell 1 rfl; have s2 := HXK.out.cell 2 rfl; have HB1 := Lib.hid (HA.out.trans (hb.mono HA.out.size)); have HO1 := Lib.hid (OwnR.kept HO.out HB1.out); clear hb)
          | (at_builtin; refine appHd ⟨id, bi, on⟩ HO1.out (Nat.le_trans HB.out.size HB1.out.size) (by have := hlen; omega) rfl _ _ rfl rfl rfl ?_; intro v7 w7 h1 h2; have K1 := Lib.hid h1; have K2 := Lib.hid (HB.out.trans ((HB1.out.mono HB.out.size).trans h2)); clear h1 h2))
        go_step3
        exact ⟨rfl, HK.out (L.length - (j + 1)) _ _ (by omega) ⟨j + 1, _, _, rfl, by omega, by omega, by rw [HN.out]; exact K1.out, K2.out, _, _, _, _, _, _, _, _, _, _, _, _, _, _, _, _, _, _, _, _, _, _, _, _, _, _, _, _, _, _,  rfl⟩⟩
    · have e : j = L.length := by omega
      subst e
      have HO2 := HO.out
      rw [List.take_length] at HO2
      clear hRk hlt
      go_wp2
      simp only [Exit.jump]
      go_ret
      exact ⟨_, rfl, HO2, HB.out⟩
  · intro K hpass
    go_wp2
    go_step3
    rename_i hback
    exact hback _ _ (hpass (L.length - 0) _ _ ⟨0, _, _, rfl, rfl, by omega, OwnR.nil _ _ _ _ _, Below.refl _ _, _, _, _, _, _, _, _, _, _, _, _, _, _, _, _, _, _, _, _, _, _, _, _, _, _, _, _, _, _, _,  rfl⟩)

theorem rFree_any (h : RsAt F w p room L) : Calls Try.prog 18 #[ptr25 p] w fun e w' => ∃ v, e = .returned v ∧ OwnR w' w.heap.size 52 3 csHd v (freeE L) ∧ Below w.heap.size w w' := by
  have G := Lib.hid (rThose_any h)
  clear h
  go_enter Try.func18, Try.ntmps18
  go_wp2_with (go_at_call 33; (with_reducible refine G.out.mono ?_); rintro e w1 ⟨v, rfl, h1, h2⟩; have K1 := Lib.hid h1; have K2 := Lib.hid h2; clear h1 h2)
  go_ret
  exact ⟨_, rfl, K1.out, K2.out⟩

theorem viewE_take (L : List En) (j : Nat) (hj : j < L.length) : viewE (L.take (j + 1)) = viewE (L.take j) ++ [L[j].hd] := by
  unfold viewE
  rw [List.take_succ_eq_append_getElem hj, List.map_append]
  rfl
set_option maxHeartbeats 4000000 in
set_option maxRecDepth 100000 in
theorem rView_any (h : RsAt F w p room L) : Calls Try.prog 17 #[ptr25 p] w fun e w' => ∃ v, e = .returned v ∧ OwnR w' w.heap.size 52 3 csHd v (viewE L) ∧ Below w.heap.size w w' := by
  obtain ⟨v0, hr, hF⟩ := h
  have hlen := hr.len
  have HR := Lib.hid hr
  have q1 := hr.blk.cell 1 rfl
  obtain ⟨va, vc, hv⟩ := OwnO.form hr.row
  subst hv
  have l16 : (L.length : Int) ≤ 16 := by omega
  have HLN := Lib.hid hlen
  clear hr hF
  go_enter Try.func17, Try.ntmps17
  go_wp2
  go_loopg [3, 13] L.length (fun kx ov iv wr => ∃ k : Nat, k ≤ L.length ∧ L.length - k ≤ kx ∧ iv = .int .i64 k ∧ Hid (OwnR wr w.heap.size 52 3 csHd ov (viewE (L.take k))) ∧ Hid (Below w.heap.size w wr))
  case atStart => exact ⟨0, Nat.zero_le _, Nat.le_refl _, rfl, OwnR.nil _ _ _ _ _, Below.refl _ _⟩
  case round =>
    obtain ⟨k, hk, hkx, rfl, HO, HB⟩ := hrel
    clear q1
    by_cases hlt : k < L.length
    · obtain ⟨g, o, cc, e, -, -, p0, p1, p2, p3⟩ := row_at ((HR.out.kept HB.out).rows) k hlt
      cases e
      have hvt := viewE_take L k hlt
      have hvl : (viewE (L.take k)).length = k := by unfold viewE; rw [List.length_map, List.length_take]; omega
      generalize L[k] = x at *
      obtain ⟨id, bi, on, bu⟩ := x
      dsimp only [En.hd] at hvt p0 p1 p2 p3
      have HN := Lib.hid hvt
      have HVL := Lib.hid hvl
      have HK := Lib.hid (And.intro hlt hkx)
      have k0 : (0 : Int) ≤ (k : Int) := by omega
      have k1 : (k : Int) < (L.length : Int) := by omega
      have HA := Lib.hid ((Below.refl wr.heap.size wr).alloc (Nat.le_refl _) (.cells #[.int .i64 id, .int .u64 (bi : Int), .bool on, .bool bu] 68))
      have HX := Lib.hid (Blk.new wr [.int .i64 id, .int .u64 (bi : Int), .bool on, .bool bu] 68)
      have s0 := HX.out.cell 0 rfl
      have s1 := HX.out.cell 1 rfl
      have s2 := HX.out.cell 2 rfl
      have HO1 := Lib.hid (OwnR.kept HO.out HA.out)
      have hsz : (wr.alloc (.cells #[.int .i64 id, .int .u64 (bi : Int), .bool on, .bool bu] 68)).heap.size = wr.heap.size + 1 := by simp
      clear hvt hvl hlt hkx hk hlen
      go_wp2_with (at_builtin; (refine appHd ⟨id, bi, on⟩ HO1.out (Nat.le_trans HB.out.size HA.out.size) (by have := HVL.out; have := HLN.out; have := HK.out.1; omega) rfl _ _ rfl rfl (by rw [hsz]; rfl) ?_; intro v7 w7 h1 h2; have K1 := Lib.hid h1; have K2 := Lib.hid (HB.out.trans ((HA.out.mono HB.out.size).trans h2)); clear h1 h2))
      go_roundg (L.length - (k + 1))
      case measure => have := HK.out; omega
      case rel => exact ⟨k + 1, by have := HK.out; omega, Nat.le_refl _, by go_num, by rw [HN.out]; exact K1.out, K2.out⟩
    · have e : k = L.length := by omega
      subst e
      have HO2 := HO.out
      rw [List.take_length] at HO2
      clear hlt
      go_wp2
      go_ret
      exact ⟨_, rfl, HO2, HB.out⟩
end

/-! ### slices.Contains at numbers; skill.Has -/
set_option maxHeartbeats 2000000 in
theorem cIndex_any (va : Value) (l : List Int) (n : Int) (W : World) (ha : IntsAt W va l) (hl : l.length ≤ 1000000) :
    Calls Try.prog 38 #[va, .int .i64 n] W fun e w' => ∃ r : Int, e = .returned (.int .i64 r) ∧ (0 ≤ r ↔ n ∈ l) ∧ W = w' := by
  have HA := Lib.hid ha
  obtain ⟨a, c, rfl⟩ := IntsAt.form ha
  clear ha
  go_enter Try.func38, Try.ntmps38
  go_wp2
  go_loopg [8] l.length (fun kx iv wr => ∃ k : Nat, k ≤ l.length ∧ l.length - k ≤ kx ∧ iv = .int .i64 k ∧ n ∉ l.take k ∧ W = wr)
  case atStart => exact ⟨0, by omega, by omega, rfl, by simp, rfl⟩
  case round =>
    obtain ⟨k, hk, hkx, rfl, hno, rfl⟩ := hrel
    by_cases hlt : k < l.length
    · obtain ⟨g, o, cc, e, hlc, _, p0⟩ := IntsAt.spot HA.out k hlt
      cases e
      have j1 : (k : Int) < (l.length : Int) := by omega
      have j0 : (0 : Int) ≤ (k : Int) := by omega
      by_cases hx : n = l[k]
      · have HIN := Lib.hid (show n ∈ l from hx ▸ List.getElem_mem hlt)
        rw [← hx] at p0
        clear hx hno hlt hk hkx
        go_wp2
        go_ret
        exact ⟨_, rfl, ⟨fun _ => HIN.out, fun _ => by omega⟩, rfl⟩
      · have HNO := Lib.hid (inL_take l n k hlt (fun e => hx e.symm) hno)
        have hx2 : (n == l[k]) = false := beq_noI hx
        generalize l[k] = x at *
        have HK := Lib.hid (And.intro hlt hkx)
        clear hx hno hlt hk hkx
        go_wp2
        go_roundg (l.length - (k + 1))
        case measure => have := HK.out; omega
        case rel => exact ⟨k + 1, by have := HK.out; omega, Nat.le_refl _, by go_num, HNO.out, by trivial⟩
    · have hke : k = l.length := by omega
      subst hke
      rw [List.take_length] at hno
      have HIN := Lib.hid hno
      clear hno hlt hk hkx
      go_wp2
      go_ret
      exact ⟨_, rfl, ⟨fun h => absurd h (by decide), fun h => absurd h HIN.out⟩, rfl⟩
theorem cContains_any (va : Value) (l : List Int) (n : Int) (W : World) (ha : IntsAt W va l) (hl : l.length ≤ 1000000) :
    Calls Try.prog 31 #[va, .int .i64 n] W fun e w' => e = .returned (.bool (inL l n)) ∧ W = w' := by
  have G := Lib.hid (cIndex_any va l n W ha hl)
  clear ha hl
  go_enter Try.func31, Try.ntmps31
  go_wp2_with (go_at_call 38; (with_reducible refine G.out.mono ?_); rintro e w1 ⟨r, rfl, hr, rfl⟩; have HR := Lib.hid hr; clear hr)
  go_ret
  exact ⟨ret_b (by unfold inL; exact decide_eq_decide.2 HR.out), rfl⟩
theorem kHas_any (a b : Nat) (W : World) (ha : a < 2 ^ 64) (hb : b < 2 ^ 64) : Calls Try.prog 23 #[.int .u64 (a : Int), .int .u64 (b : Int)] W fun e w' => e = .returned (.bool (hasK a b 64)) ∧ W = w' := by
  have h1 := u64_andNot_nat b a hb ha
  have h2 := hasK_andNot a b ha
  generalize b &&& (18446744073709551615 - a) = x at *
  have H2 := Lib.hid h2
  clear h2
  go_enter Try.func23, Try.ntmps23
  go_wp2
  go_ret
  exact ⟨ret_b (by rw [H2.out]; by_cases h : x = 0 <;> simp [h]), rfl⟩

/-! ### Pick -/
theorem pickH_at (H : List Hd) (need : Nat) (nt : List Int) (k : Nat) (hk : k < H.length) : pickH (H.drop k) need nt = if mayH need nt H[k] then (H[k].id, true) else pickH (H.drop (k + 1)) need nt := by
  rw [List.drop_eq_getElem_cons hk]
  unfold pickH
  cases h : mayH need nt H[k] with
  | true => rw [List.find?_cons_of_pos h, if_pos rfl]
  | false => rw [List.find?_cons_of_neg (by simp [h]), if_neg (by simp)]
theorem freeE_bits {L : List En} (h : RsOk L) : ∀ x ∈ freeE L, x.bits < 2 ^ 64 := by
  intro x hx
  unfold freeE at hx
  obtain ⟨y, hy, rfl⟩ := List.mem_map.1 hx
  exact h.bits y (List.mem_filter.1 hy).1
section
variable {F : Nat → Prop} {w w' : World} {p : Nat} {room : Int} {v : Value} {L : List En}
set_option maxHeartbeats 8000000 in
set_option maxRecDepth 100000 in
theorem rPick_any (h : RsAt F w p room L) (need : Nat) (hn : need < 2 ^ 64) (vn : Value) (nt : List Int) (hnt : IntsAt w vn nt) (hl : nt.length ≤ 1000) :
    Calls Try.prog 13 #[ptr25 p, .int .u64 (need : Int), vn] w fun e w' => e = .returned (.tuple #[.int .i64 (pickE L need nt).1, .bool (pickE L need nt).2]) ∧ Below w.heap.size w w' := by
  have G := Lib.hid (rFree_any h)
  have hbits := freeE_bits h.ok
  have hfl : (freeE L).length ≤ 16 := by have := freeE_len L; have := h.fit; omega
  unfold pickE
  generalize freeE L = H at *
  obtain ⟨r, hr⟩ : ∃ r, pickH H need nt = r := ⟨_, rfl⟩
  rw [hr]
  have HRR := Lib.hid hr
  have HBT := Lib.hid hbits
  have HNT := Lib.hid hnt
  have HL := Lib.hid hl
  have HN := Lib.hid hn
  obtain ⟨na, nc, rfl⟩ := hnt.form
  have l16 : (H.length : Int) ≤ 16 := by omega
  clear h hbits hfl hr hl hn hnt
  go_enter Try.func13, Try.ntmps13
  go_wp2_with (go_at_call 18; (with_reducible refine G.out.mono ?_); rintro e w1 ⟨v, rfl, h1, h2⟩; obtain ⟨fa, fc, e⟩ := RowsAt.form (OwnR.rows csHd_len h1); subst e; have K1 := Lib.hid (OwnR.rows csHd_len h1); have K2 := Lib.hid h2; clear h1 h2)
  go_loopg [13] H.length (fun kx iv wr => ∃ k : Nat, k ≤ H.length ∧ H.length - k ≤ kx ∧ iv = .int .i64 k ∧ Hid (pickH (H.drop k) need nt = r) ∧ Hid (Below w1.heap.size w1 wr))
  case atStart => exact ⟨0, Nat.zero_le _, Nat.le_refl _, rfl, HRR.out, Below.refl _ _⟩
  case round =>
    obtain ⟨k, hk, hkx, rfl, HP, HB⟩ := hrel
    have HBW := Lib.hid (K2.out.trans (HB.out.mono K2.out.size))
    by_cases hlt : k < H.length
    · obtain ⟨g, o, cc, e, -, -, hx⟩ := (K1.out.kept HB.out).spot k hlt
      cases e
      have hpk := pickH_at H need nt k hlt
      rw [HP.out] at hpk
      have hb := HBT.out _ (List.getElem_mem hlt)
      have p0 : World.cell? _ ⟨g, o + k * 3, none⟩ = some (.int .i64 (H[k]'hlt).id) := hx 0 _ rfl
      have p1 : World.cell? _ ⟨g, o + k * 3 + 1, none⟩ = some (.int .u64 ((H[k]'hlt).bits : Int)) := hx 1 _ rfl
      have p2 : World.cell? _ ⟨g, o + k * 3 + 2, none⟩ = some (.bool (H[k]'hlt).on) := hx 2 _ rfl
      clear hx
      generalize H[k] = x at *
      obtain ⟨id, bi, on⟩ := x
      have hm : mayH need nt ⟨id, bi, on⟩ = (hasK bi need 64 && !inL nt id) := rfl
      rw [hm] at hpk
      dsimp only at hpk hb p0 p1 p2
      clear hm
      have gh := fun W => kHas_any bi need W hb HN.out
      obtain ⟨t, ht⟩ : ∃ t, hasK bi need 64 = t := ⟨_, rfl⟩
      rw [ht] at hpk
      simp only [ht] at gh
      have GH := Lib.hid gh
      have HA := Lib.hid ((Below.refl wr.heap.size wr).alloc (Nat.le_refl _) (.cells #[.int .i64 id, .int .u64 (bi : Int), .bool on] 52))
      have HX := Lib.hid (Blk.new wr [.int .i64 id, .int .u64 (bi : Int), .bool on] 52)
      have gc := cContains_any _ nt id (wr.alloc (.cells #[.int .i64 id, .int .u64 (bi : Int), .bool on] 52)) (HNT.out.below (HBW.out.trans (HA.out.mono HBW.out.size))) (by have := HL.out; omega)
      obtain ⟨u, hu⟩ : ∃ u, inL nt id = u := ⟨_, rfl⟩
      rw [hu] at hpk gc
      have GC := Lib.hid gc
      have HB2 := Lib.hid (HB.out.trans (HA.out.mono HB.out.size))
      have s0 := HX.out.cell 0 rfl
      have s1 := HX.out.cell 1 rfl
      have k0 : (0 : Int) ≤ (k : Int) := by omega
      have k1 : (k : Int) < (H.length : Int) := by omega
      have HK := Lib.hid (And.intro hlt hkx)
      have HPK := Lib.hid hpk
      clear hpk hb hlt hkx hk gh gc ht hu
      cases t with
      | false =>
        have HP2 := Lib.hid (show pickH (H.drop (k + 1)) need nt = r by have := HPK.out; rw [Bool.false_and, if_neg (by simp)] at this; exact this.symm)
        clear HPK
        go_wp2_with (go_at_call 23; (with_reducible refine (GH.out _).mono ?_); rintro e w2 ⟨rfl, rfl⟩)
        go_roundg (H.length - (k + 1))
        case measure => have := HK.out; omega
        case rel => exact ⟨k + 1, by have := HK.out; omega, Nat.le_refl _, by go_num, HP2.out, HB2.out⟩
      | true =>
        cases u with
        | true =>
          have HP2 := Lib.hid (show pickH (H.drop (k + 1)) need nt = r by have := HPK.out; rw [Bool.true_and, if_neg (by simp)] at this; exact this.symm)
          clear HPK
          go_wp2_with (first
            | (go_at_call 23; (with_reducible refine (GH.out _).mono ?_); rintro e w2 ⟨rfl, rfl⟩)
            | (go_at_call 31; (with_reducible refine GC.out.mono ?_); rintro e w2 ⟨rfl, rfl⟩))
          go_roundg (H.length - (k + 1))
          case measure => have := HK.out; omega
          case rel => exact ⟨k + 1, by have := HK.out; omega, Nat.le_refl _, by go_num, HP2.out, HB2.out⟩
        | false =>
          have HP2 := Lib.hid (show r = (id, true) by have := HPK.out; simpa using this)
          clear HPK
          go_wp2_with (first
            | (go_at_call 23; (with_reducible refine (GH.out _).mono ?_); rintro e w2 ⟨rfl, rfl⟩)
            | (go_at_call 31; (with_reducible refine GC.out.mono ?_); rintro e w2 ⟨rfl, rfl⟩))
          have hfin := HBW.out.trans (HA.out.mono HBW.out.size)
          exact bodyPost_ret (v := .tuple #[.int .i64 id, .bool true]) (by simp [results, Try.results13, go_sem]) rfl ⟨by rw [HP2.out], hfin⟩
    · have e : k = H.length := by omega
      subst e
      have hfin : r = (0, false) := by
        have := HP.out
        rw [List.drop_length] at this
        exact this.symm
      have HFI := Lib.hid hfin
      clear hlt hk hkx hfin
      go_wp2
      exact bodyPost_ret (v := .tuple #[.int .i64 0, .bool false]) (by simp [results, Try.results13, go_sem]) rfl ⟨by rw [HFI.out], HBW.out⟩
end
end Go.Proofs.Ytlgemfgikdaelaa
