/- Stage 25's document: ID, Clip, Find, Insert. -/
import Derived.Test.YtlgemfgikdaelaaRsRS
import Derived.Test.YtlgemfgikdaelaaRsD
namespace Go.Proofs.Ytlgemfgikdaelaa
open Go.RowKit

def clipR' (n : Int) : Int := if n < 0 then 0 else if 16 < n then 16 else n
theorem clipR_eq (n : Int) : clipR n = clipR' n := by
  unfold clipR clipR'
  split
  · omega
  · split <;> omega
theorem refClip25_any (n : Int) (w : World) : Calls Try.prog 7 #[.int .i64 n, .int .i64 0, .int .i64 16] w fun e w' => e = .returned (.int .i64 (clipR n)) ∧ w = w' := by
  rw [clipR_eq]
  unfold clipR'
  by_cases h : n < 0
  · rw [if_pos h]
    go_enter Try.func7, Try.ntmps7
    go_wp2
    go_ret
    exact ⟨rfl, rfl⟩
  · rw [if_neg h]
    by_cases h1 : 16 < n
    · rw [if_pos h1]
      go_enter Try.func7, Try.ntmps7
      go_wp2
      go_ret
      exact ⟨rfl, rfl⟩
    · rw [if_neg h1]
      go_enter Try.func7, Try.ntmps7
      go_wp2
      go_ret
      exact ⟨rfl, rfl⟩
def idB (n : Int) : Bool := decide (1 ≤ n ∧ n ≤ 999)
theorem refID25_any (n : Int) (w : World) : Calls Try.prog 28 #[.int .i64 n] w fun e w' => e = .returned (.bool (idB n)) ∧ w = w' := by
  have h : idB n = (decide (1 ≤ n) && decide (n ≤ 999)) := by unfold idB; simp
  by_cases h1 : 1 ≤ n
  · by_cases h2 : n ≤ 999
    all_goals
      have H := Lib.hid (show idB n = decide (n ≤ 999) by rw [h, decide_eq_true h1, Bool.true_and])
      clear h
      go_enter Try.func28, Try.ntmps28
      go_wp2
      go_ret
      exact ⟨ret_b (by rw [H.out]; simp [*]), rfl⟩
  · have H := Lib.hid (show idB n = false by rw [h, decide_eq_false h1, Bool.false_and])
    clear h
    go_enter Try.func28, Try.ntmps28
    go_wp2
    go_ret
    exact ⟨ret_b H.out.symm, rfl⟩

/-- where one is; -1: nowhere -/
def plcE (L : List En) (n : Int) : Int := if hasE L n then (befE L n : Nat) else -1
theorem viewE_len (L : List En) : (viewE L).length = L.length := List.length_map _
theorem viewE_get (L : List En) (k : Nat) (hk : k < (viewE L).length) : (viewE L)[k] = (L[k]'(by rw [← viewE_len]; exact hk)).hd := List.getElem_map _
theorem plcE_at {L : List En} (h : RsOk L) {k : Nat} (hk : k < L.length) {n : Int} (hn : L[k].id = n) : plcE L n = (k : Nat) := by
  subst hn
  obtain ⟨h1, h2⟩ := hasE_mem h (List.getElem_mem hk)
  obtain ⟨hb, e, e2⟩ := h.at h1
  unfold plcE
  rw [if_pos h1]
  have h3 : ¬ befE L L[k].id < k := fun hlt => by have := rs_at h.rise hb hk hlt; omega
  have h4 : ¬ k < befE L L[k].id := fun hlt => by have := rs_at h.rise hk hb hlt; omega
  congr 1
  omega
theorem plcE_no {L : List En} {n : Int} (h : ∀ x ∈ L, x.id ≠ n) : plcE L n = -1 := by
  unfold plcE
  rw [if_neg]
  intro hh
  unfold hasE at hh
  rw [List.any_eq_true] at hh
  obtain ⟨x, hx, e⟩ := hh
  exact h x hx (by simpa using e)
set_option maxHeartbeats 4000000 in
set_option maxRecDepth 100000 in
theorem refFind25_any (va : Value) (L : List En) (n : Int) (w : World) (ha : RowsAt w 3 csHd va (viewE L)) (hok : RsOk L) (hl : L.length ≤ 16) :
    Calls Try.prog 22 #[va, .int .i64 n] w fun e w' => e = .returned (.int .i64 (plcE L n)) ∧ w = w' := by
  obtain ⟨a, c, rfl⟩ := RowsAt.form ha
  have hvl := viewE_len L
  have hge := viewE_get L
  have hat := fun k (hk : k < L.length) => plcE_at hok hk (n := n) 
  have hno := plcE_no (L := L) (n := n)
  generalize plcE L n = r at *
  have HA := Lib.hid ha
  have HGE := Lib.hid hge
  have HAT := Lib.hid hat
  have HNO := Lib.hid hno
  rw [hvl] at HA ⊢
  have HVL := Lib.hid hvl
  have l2 : (L.length : Int) ≤ 16 := by omega
  clear ha hge hat hno hok hvl
  go_enter Try.func22, Try.ntmps22
  go_wp2
  go_loopg [5] L.length (fun kx iv wr => ∃ k : Nat, k ≤ L.length ∧ L.length - k ≤ kx ∧ iv = .int .i64 k ∧ Hid (∀ x ∈ L.take k, x.id ≠ n) ∧ w = wr)
  case atStart => exact ⟨0, by omega, by omega, rfl, fun x hx => by simp at hx, rfl⟩
  case round =>
    obtain ⟨k, hk, hkx, rfl, HN, rfl⟩ := hrel
    by_cases hlt : k < L.length
    · obtain ⟨g, o, cc, e, -, -, p0, p1, p2⟩ := hd_at HA.out k (by rw [HVL.out]; exact hlt)
      rw [HGE.out k (by rw [HVL.out]; exact hlt)] at p0 p1 p2
      simp only [Value.slice.injEq] at e
      obtain ⟨rfl, -, rfl⟩ := e
      have hat := HAT.out k hlt
      have htk : ∀ P : En → Prop, (∀ x ∈ L.take k, P x) → P L[k] → ∀ x ∈ L.take (k + 1), P x := fun P h1 h2 x hx => by
        rw [List.take_succ_eq_append_getElem hlt, List.mem_append, List.mem_singleton] at hx
        rcases hx with hx | rfl
        · exact h1 x hx
        · exact h2
      have htk2 := htk (fun x => x.id ≠ n) HN.out
      generalize L[k] = x at *
      obtain ⟨id, bi, on, bu⟩ := x
      dsimp only [En.hd] at p0 hat htk2
      have HK := Lib.hid (And.intro hlt hkx)
      have k0 : (0 : Int) ≤ (k : Int) := by omega
      have k1 : (k : Int) < (L.length : Int) := by omega
      clear htk hlt hkx hk p1 p2
      by_cases he : id = n
      · have HR := Lib.hid (hat he)
        subst he
        clear hat htk2
        go_wp2
        go_ret
        exact ⟨ret_i HR.out.symm, rfl⟩
      · have e0 : (id == n) = false := beq_noI he
        have HN2 := Lib.hid (htk2 he)
        clear hat htk2 he
        go_wp2
        go_roundg (L.length - (k + 1))
        case measure => have := HK.out; omega
        case rel => exact ⟨k + 1, by have := HK.out; omega, Nat.le_refl _, by go_num, HN2.out, rfl⟩
    · have e : k = L.length := by omega
      subst e
      have HR := Lib.hid (HNO.out (by have := HN.out; rwa [List.take_length] at this))
      clear hlt hk hkx
      go_wp2
      go_ret
      exact ⟨ret_i HR.out.symm, rfl⟩

/-! ### Insert -/
/-- with k looked at: b is where the new one goes -/
def insK (H : List Hd) (b : Nat) (x : Hd) (k : Nat) : List Hd := H.take (min k b) ++ if b < k then x :: (H.take k).drop b else []
theorem insK_len (H : List Hd) (b : Nat) (x : Hd) (k : Nat) : (insK H b x k).length ≤ H.length + 1 := by
  unfold insK
  rw [List.length_append, List.length_take]
  split
  · rw [List.length_cons, List.length_drop, List.length_take]
    omega
  · simp
    omega
theorem insK_lt {H : List Hd} {b k : Nat} (x : Hd) (hk : k < H.length) (h : k < b) : insK H b x (k + 1) = insK H b x k ++ [H[k]] := by
  unfold insK
  rw [if_neg (by omega), if_neg (by omega), Nat.min_eq_left (by omega), Nat.min_eq_left (by omega), List.append_nil, List.append_nil, List.take_succ_eq_append_getElem hk]
theorem insK_at {H : List Hd} {b : Nat} (x : Hd) (hk : b < H.length) : insK H b x (b + 1) = (insK H b x b ++ [x]) ++ [H[b]] := by
  unfold insK
  rw [if_pos (by omega), if_neg (by omega), Nat.min_eq_right (by omega), Nat.min_self, List.append_nil, List.take_succ_eq_append_getElem hk, List.drop_append, List.drop_of_length_le (by rw [List.length_take]; omega), List.length_take, Nat.min_eq_left (by omega), Nat.sub_self, List.append_assoc]
  rfl
theorem insK_gt {H : List Hd} {b k : Nat} (x : Hd) (hk : k < H.length) (h : b < k) : insK H b x (k + 1) = insK H b x k ++ [H[k]] := by
  unfold insK
  rw [if_pos (by omega), if_pos h, Nat.min_eq_right (by omega), Nat.min_eq_right (by omega), List.take_succ_eq_append_getElem hk, List.drop_append_of_le_length (by rw [List.length_take]; omega), List.append_assoc]
  rfl
theorem insK_end_lt {H : List Hd} {b : Nat} (x : Hd) (h : b < H.length) : insK H b x H.length = H.take b ++ x :: H.drop b := by
  unfold insK
  rw [if_pos h, Nat.min_eq_right (by omega), List.take_length]
theorem insK_end {H : List Hd} {b : Nat} (x : Hd) (h : b = H.length) : insK H b x H.length ++ [x] = H.take b ++ x :: H.drop b := by
  unfold insK
  subst h
  rw [if_neg (by omega), Nat.min_self, List.take_length, List.append_nil, List.drop_length]
theorem viewE_ins (L : List En) (x : En) : viewE (insE L x) = (viewE L).take (befE L x.id) ++ x.hd :: (viewE L).drop (befE L x.id) := by
  unfold viewE insE
  rw [List.map_append, List.map_cons, List.map_take, List.map_drop]

set_option maxHeartbeats 16000000 in
set_option maxRecDepth 100000 in
theorem refInsert25_any (va : Value) (L : List En) (x : En) (w : World) (ha : RowsAt w 3 csHd va (viewE L)) (hok : RsOk L) (hl : L.length ≤ 16) (hn : hasE L x.id = false) :
    Calls Try.prog 29 #[va, hdv x.hd] w fun e w' => ∃ v, e = .returned v ∧ OwnR w' w.heap.size 52 3 csHd v (viewE (insE L x)) ∧ Below w.heap.size w w' := by
  rw [viewE_ins]
  have hvl := viewE_len L
  have hbl := befE_le L x.id
  have hb : ∀ k (hk : k < (viewE L).length), x.id < ((viewE L)[k]).id ↔ befE L x.id ≤ k := fun k hk => by
    rw [viewE_get L k hk]
    have hk' : k < L.length := by omega
    have h1 := befE_at hok.rise x.id hk'
    have h2 := hasE_no hn _ (List.getElem_mem hk')
    show x.id < (L[k]).id ↔ _
    omega
  generalize befE L x.id = b at *
  generalize viewE L = H at *
  obtain ⟨a, c, rfl⟩ := RowsAt.form ha
  obtain ⟨id, bi, on, bu⟩ := x
  dsimp only [En.hd, hdv] at hb ⊢
  have HA := Lib.hid ha
  have HBK := Lib.hid hb
  have l2 : (H.length : Int) ≤ 16 := by omega
  have HBL := Lib.hid (show b ≤ H.length ∧ H.length ≤ 16 by omega)
  obtain ⟨W1, hW1⟩ : ∃ W1, w.alloc (.cells #[.int .i64 id, .int .u64 (bi : Int), .bool on] 52) = W1 := ⟨_, rfl⟩
  have hX := Blk.new w [.int .i64 id, .int .u64 (bi : Int), .bool on] 52
  have hB0 := (Below.refl w.heap.size w).alloc (Nat.le_refl _) (.cells #[.int .i64 id, .int .u64 (bi : Int), .bool on] 52)
  change Blk (w.alloc (.cells #[.int .i64 id, .int .u64 (bi : Int), .bool on] 52)) _ _ at hX
  rw [hW1] at hX hB0
  have HW1 := Lib.hid hW1
  have HX := Lib.hid hX
  have HB0 := Lib.hid hB0
  clear ha hb hn hok hl hvl hbl hX hB0 hW1
  go_enter Try.func29, Try.ntmps29
  go_wp2
  rw [HW1.out]
  go_loopg [5, 6, 7] H.length (fun kx ov dv iv wr => ∃ k : Nat, k ≤ H.length ∧ H.length - k ≤ kx ∧ iv = .int .i64 k ∧ dv = .bool (decide (b < k)) ∧ Hid (OwnR wr W1.heap.size 52 3 csHd ov (insK H b ⟨id, bi, on⟩ k)) ∧ Hid (Below W1.heap.size W1 wr))
  case atStart => exact ⟨0, Nat.zero_le _, Nat.le_refl _, rfl, by simp, by show OwnR _ _ _ _ _ _ (insK H b ⟨id, bi, on⟩ 0); unfold insK; rw [if_neg (by omega), Nat.zero_min, List.take_zero]; exact OwnR.nil _ _ _ _ _, Below.refl _ _⟩
  case round =>
    obtain ⟨k, hk, hkx, rfl, rfl, HO, HB⟩ := hrel
    have HXB := Lib.hid fun w' (hb : Below W1.heap.size W1 w') => HX.out.kept hb
    have HBB := Lib.hid fun w' (hb : Below W1.heap.size W1 w') => HB0.out.trans (hb.mono HB0.out.size)
    have hil := insK_len H b ⟨id, bi, on⟩ k
    by_cases hlt : k < H.length
    · obtain ⟨g, o, cc, e, -, hg, c0, c1, c2⟩ := hd_at HA.out k hlt
      simp only [Value.slice.injEq] at e
      obtain ⟨rfl, -, rfl⟩ := e
      have hbk := HBK.out k hlt
      have h3lt := insK_lt (H := H) (b := b) (k := k) ⟨id, bi, on⟩ hlt
      have h3gt := insK_gt (H := H) (b := b) (k := k) ⟨id, bi, on⟩ hlt
      have h3at := fun (e : k = b) => (show insK H b ⟨id, bi, on⟩ (k + 1) = (insK H b ⟨id, bi, on⟩ k ++ [⟨id, bi, on⟩]) ++ [H[k]] from by subst e; exact insK_at _ hlt)
      generalize H[k] = y at *
      obtain ⟨yi, yb, yo⟩ := y
      dsimp only at hbk c0 c1 c2
      have CF := Lib.hid fun w' (hb : Below W1.heap.size W1 w') => And.intro (((HBB.out w' hb).cell (p := ⟨g, o + k * 3, none⟩) hg).trans c0) (And.intro (((HBB.out w' hb).cell (p := ⟨g, o + k * 3 + 1, none⟩) hg).trans c1) (((HBB.out w' hb).cell (p := ⟨g, o + k * 3 + 2, none⟩) hg).trans c2))
      have HK := Lib.hid (And.intro hlt hkx)
      have HIL := Lib.hid (show (insK H b ⟨id, bi, on⟩ k).length ≤ 17 by have := HBL.out; omega)
      have k0 : (0 : Int) ≤ (k : Int) := by omega
      have k1 : (k : Int) < (H.length : Int) := by omega
      have p0 := (CF.out _ HB.out).1
      have s0 := (HXB.out _ HB.out).cell 0 rfl
      clear c0 c1 c2 hg hil
      by_cases hbk1 : b < k
      · have d1 : decide (b < k) = true := decide_eq_true hbk1
        have HN := Lib.hid (h3gt hbk1)
        rw [d1]
        have d2 : decide (b < k + 1) = true := decide_eq_true (by omega)
        have D2 := Lib.hid d2
        clear hbk h3lt h3gt h3at hlt hkx hk hbk1 d1 d2
        go_upto_region 6 with fail
        refine wp_region_calm0 (by kernel_rfl) (by kernel_rfl) fun M => ?_
        have m0 := fun n : In M.w => n.cell (M.cell p0)
        have m3 := fun n : In M.w => n.cell (M.cell s0)
        repeat (go_big_quiet_step (fail))
        refine wpQuiet_nil ?_
        intro w10 hb10
        have HB1 := Lib.hid (HB.out.trans (hb10.mono HB.out.size))
        have HO1 := Lib.hid (OwnR.kept HO.out hb10)
        have q0 := (CF.out _ HB1.out).1
        have q1 := (CF.out _ HB1.out).2.1
        have q2 := (CF.out _ HB1.out).2.2
        clear m0 m3 M hb10 p0 s0
        go_wp2_with (at_builtin; refine appHd ⟨yi, yb, yo⟩ HO1.out HB1.out.size (by have := HIL.out; omega) rfl _ _ rfl rfl rfl ?_; intro v7 w7 h1 h2; have K1 := Lib.hid h1; have K2 := Lib.hid (HB1.out.trans h2); clear h1 h2)
        go_roundg (H.length - (k + 1))
        case measure => have := HK.out; omega
        case rel => exact ⟨k + 1, by have := HK.out; omega, Nat.le_refl _, by go_num, by rw [D2.out], by rw [HN.out]; exact K1.out, K2.out⟩
      · have d1 : decide (b < k) = false := decide_eq_false hbk1
        rw [d1]
        by_cases hkb : k = b
        · have HN := Lib.hid (h3at hkb)
          have j1 : id < yi := hbk.2 (by omega)
          have d2 : decide (b < k + 1) = true := decide_eq_true (by omega)
          have D2 := Lib.hid d2
          clear hbk h3lt h3gt h3at hlt hkx hk hbk1 d1 d2 hkb
          go_upto_region 6 with fail
          refine wp_region_calm0 (by kernel_rfl) (by kernel_rfl) fun M => ?_
          have m0 := fun n : In M.w => n.cell (M.cell p0)
          have m3 := fun n : In M.w => n.cell (M.cell s0)
          repeat (go_big_quiet_step (fail))
          refine wpQuiet_nil ?_
          intro w10 hb10
          have HB1 := Lib.hid (HB.out.trans (hb10.mono HB.out.size))
          have HO1 := Lib.hid (OwnR.kept HO.out hb10)
          have q0 := (CF.out _ HB1.out).1
          have q1 := (CF.out _ HB1.out).2.1
          have q2 := (CF.out _ HB1.out).2.2
          have s0 := (HXB.out _ HB1.out).cell 0 rfl
          have s1 := (HXB.out _ HB1.out).cell 1 rfl
          have s2 := (HXB.out _ HB1.out).cell 2 rfl
          clear m0 m3 M hb10 p0
          go_wp2_with (first
            | (at_builtin; refine appHd ⟨id, bi, on⟩ HO1.out HB1.out.size (by have := HIL.out; omega) rfl _ _ rfl rfl rfl ?_; intro v7 w7 h1 h2; have K1 := Lib.hid h1; have K2 := Lib.hid (HB1.out.trans h2); have q0 := (CF.out _ K2.out).1; have q1 := (CF.out _ K2.out).2.1; have q2 := (CF.out _ K2.out).2.2; clear h1 h2 HO1)
            | (at_builtin; refine appHd ⟨yi, yb, yo⟩ K1.out K2.out.size (by have := HIL.out; rw [List.length_append]; simp; omega) rfl _ _ rfl rfl rfl ?_; intro v8 w8 h1 h2; have K3 := Lib.hid h1; have K4 := Lib.hid (K2.out.trans h2); clear h1 h2))
          go_roundg (H.length - (k + 1))
          case measure => have := HK.out; omega
          case rel => exact ⟨k + 1, by have := HK.out; omega, Nat.le_refl _, by go_num, by rw [D2.out], by rw [HN.out]; exact K3.out, K4.out⟩
        · have HN := Lib.hid (h3lt (by omega))
          have j1 : ¬ id < yi := fun h => by have := hbk.1 h; omega
          have d2 : decide (b < k + 1) = false := decide_eq_false (by omega)
          have D2 := Lib.hid d2
          clear hbk h3lt h3gt h3at hlt hkx hk hbk1 d1 d2 hkb
          go_upto_region 6 with fail
          refine wp_region_calm0 (by kernel_rfl) (by kernel_rfl) fun M => ?_
          have m0 := fun n : In M.w => n.cell (M.cell p0)
          have m3 := fun n : In M.w => n.cell (M.cell s0)
          repeat (go_big_quiet_step (fail))
          refine wpQuiet_nil ?_
          intro w10 hb10
          have HB1 := Lib.hid (HB.out.trans (hb10.mono HB.out.size))
          have HO1 := Lib.hid (OwnR.kept HO.out hb10)
          have q0 := (CF.out _ HB1.out).1
          have q1 := (CF.out _ HB1.out).2.1
          have q2 := (CF.out _ HB1.out).2.2
          clear m0 m3 M hb10 p0 s0
          go_wp2_with (at_builtin; refine appHd ⟨yi, yb, yo⟩ HO1.out HB1.out.size (by have := HIL.out; omega) rfl _ _ rfl rfl rfl ?_; intro v7 w7 h1 h2; have K1 := Lib.hid h1; have K2 := Lib.hid (HB1.out.trans h2); clear h1 h2)
          go_roundg (H.length - (k + 1))
          case measure => have := HK.out; omega
          case rel => exact ⟨k + 1, by have := HK.out; omega, Nat.le_refl _, by go_num, by rw [D2.out], by rw [HN.out]; exact K1.out, K2.out⟩
    · have e : k = H.length := by omega
      subst e
      by_cases hbl : b < H.length
      · have HE := Lib.hid (insK_end_lt (H := H) (b := b) ⟨id, bi, on⟩ hbl)
        rw [decide_eq_true hbl]
        clear hlt hk hkx hbl hil
        go_wp2
        go_ret
        exact ⟨_, rfl, by rw [← HE.out]; exact OwnR.base13 HO.out HB0.out.size, HBB.out _ HB.out⟩
      · have HE := Lib.hid (insK_end (H := H) (b := b) ⟨id, bi, on⟩ (by have := HBL.out; omega))
        rw [decide_eq_false hbl]
        have s0 := (HXB.out _ HB.out).cell 0 rfl
        have s1 := (HXB.out _ HB.out).cell 1 rfl
        have s2 := (HXB.out _ HB.out).cell 2 rfl
        have HIL := Lib.hid (show (insK H b ⟨id, bi, on⟩ H.length).length ≤ 17 by have := HBL.out; omega)
        clear hlt hk hkx hbl hil
        go_wp2_with (at_builtin; refine appHd ⟨id, bi, on⟩ HO.out HB.out.size (by have := HIL.out; omega) rfl _ _ rfl rfl rfl ?_; intro v7 w7 h1 h2; have K1 := Lib.hid h1; have K2 := Lib.hid (HB.out.trans h2); clear h1 h2)
        go_ret
        exact ⟨_, rfl, by rw [← HE.out]; exact OwnR.base13 K1.out HB0.out.size, HBB.out _ K2.out⟩
end Go.Proofs.Ytlgemfgikdaelaa
