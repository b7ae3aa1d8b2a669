/- Stage 25's program: New, Add, Set, Take, Busy, Give, Find. -/
import Derived.Test.YtlgemfgikdaelaaRsBG
import Derived.Deep.CutBlock
namespace Go.Proofs.Ytlgemfgikdaelaa
open Go.RowKit

theorem rInsert_any {w : World} {v : Value} {L : List En} (h : OwnO w 4 csEn v L) (x : En) (i : Nat) (hi : i ≤ L.length) (hl : L.length ≤ 1000) (vb : Nat) (t : TypeId) (hvb : w.heap[vb]? = some (.cells (csEn x).toArray t (0, 0))) (hne : ∀ k, v.ownBlock = some k → vb ≠ k) :
    Calls Try.prog 37 #[v, .int .i64 (i : Int), .slice (some ⟨vb, 0, none⟩) 1 1] w (InsR w v (L.take i ++ x :: L.drop i)) := by
  by_cases hil : i = L.length
  · subst hil
    rw [List.take_length, List.drop_length]
    refine rIns_end h x hl _ ⟨some ⟨vb, 0, none⟩, 1, rfl, Nat.le_refl _, fun _ => ⟨vb, 0, rfl, lt_of_block hvb, fun j y hj q u hu => ?_⟩⟩
    cases j with
    | succ j => simp at hj
    | zero =>
      simp at hj
      subst hj
      simp [World.cell?, hvb, hu]
  · rcases h with ⟨rfl, rfl⟩ | ⟨g, o, c, rfl, hg, hc, hm, h1, h2⟩
    · simp at hi hil
      omega
    · by_cases hr : c < L.length + 1
      · exact rIns_grow x i (by omega) hl hg hc hr h1 vb t hvb
      · exact rIns_room x i (by omega) hl hg (by omega) hm h1 h2 vb t hvb (hne g rfl)

/-- one cell of a row changed -/
theorem flats_set {α : Type} {K : Nat} {cs : α → List Value} (hK : ∀ x, (cs x).length = K) : ∀ (l : List α) (k : Nat) (hk : k < l.length) (q : Nat) (u : Value) (y : α), cs y = (cs l[k]).set q u → q < K → flats cs (l.set k y) = (flats cs l).set (k * K + q) u
  | x :: l, 0, _, q, u, y, hy, hq => by
    rw [List.set_cons_zero, flats_cons, flats_cons, hy, Nat.zero_mul, Nat.zero_add, List.set_append_left _ _ (by rw [hK]; exact hq)]
    rfl
  | x :: l, k + 1, hk, q, u, y, hy, hq => by
    have ih := flats_set hK l k (by simpa using hk) q u y hy hq
    rw [List.set_cons_succ, flats_cons, flats_cons, ih, List.set_append_right _ _ (by rw [hK, Nat.add_mul]; omega), hK]
    congr 2
    rw [Nat.add_mul]
    omega
theorem OwnO.setc {α : Type} {K : Nat} {cs : α → List Value} (hK : ∀ x, (cs x).length = K) {w : World} {g o n c : Nat} {l : List α} (h : OwnO w K cs (.slice (some ⟨g, o, none⟩) n c) l) (k : Nat) (hk : k < l.length) (q : Nat) (hq : q < K) (u : Value) (y : α) (hy : cs y = (cs l[k]).set q u) :
    OwnO (w.setCell ⟨g, o + k * K + q, none⟩ u) K cs (.slice (some ⟨g, o, none⟩) n c) (l.set k y) := by
  rcases h with ⟨e, _⟩ | ⟨g', o', c', e, hg, hc, hm, h1, h2⟩
  · cases e
  · cases e
    have hlk : (k + 1) * K ≤ l.length * K := Nat.mul_le_mul_right _ hk
    have hcl : l.length * K ≤ c * K := Nat.mul_le_mul_right _ hc
    rw [Nat.add_mul] at hlk
    refine .inr ⟨g, o, c, by rw [List.length_set], by simpa [World.setCell] using hg, by rw [List.length_set]; exact hc, hm, fun j hj => ?_, fun j hj => ⟨?_, by rw [World.frozen?_setCell]; exact (h2 j hj).2⟩⟩
    · rw [List.length_set] at hj
      rw [flats_set hK l k hk q u y hy hq, List.getElem?_set]
      split
      · rename_i e
        subst e
        rw [if_pos (by rw [flats_length hK]; omega)]
        have := (h2 (k * K + q) (by omega)).1
        obtain ⟨z, hz⟩ := Option.isSome_iff_exists.1 this
        rw [← Nat.add_assoc] at hz ⊢
        exact World.cell?_setCell_same _ _ _ (by rw [hz])
      · rename_i e
        rw [World.cell?_setCell_other _ _ _ _ (by intro e2; have h5 := congrArg Addr.off e2; dsimp only at h5; omega)]
        exact h1 j hj
    · by_cases e : j = k * K + q
      · subst e
        have := (h2 (k * K + q) hj).1
        obtain ⟨z, hz⟩ := Option.isSome_iff_exists.1 this
        rw [← Nat.add_assoc] at hz ⊢
        rw [World.cell?_setCell_same _ _ _ (by rw [hz])]
        rfl
      · rw [World.cell?_setCell_other _ _ _ _ (by intro e2; have h5 := congrArg Addr.off e2; dsimp only at h5; omega)]
        exact (h2 j hj).1

/-- a roster in the blocks F -/
def RsAt (F : Nat → Prop) (w : World) (p : Nat) (room : Int) (L : List En) : Prop := ∃ v, RsRaw w p room v L ∧ ∀ k, F k ↔ k = p ∨ v.ownBlock = some k
section
variable {F : Nat → Prop} {w w' : World} {p : Nat} {room : Int} {v : Value} {L : List En}
theorem RsAt.lt (h : RsAt F w p room L) : ∀ k, F k → k < w.heap.size := by
  obtain ⟨v, h1, h2⟩ := h
  intro k hk
  rcases (h2 k).1 hk with rfl | hk
  · exact h1.lt
  · exact h1.row.lt k hk
theorem RsAt.same (h : RsAt F w p room L) (hz : w.heap.size ≤ w'.heap.size) (he : ∀ k, F k → w'.heap[k]? = w.heap[k]?) : RsAt F w' p room L := by
  obtain ⟨v, h1, h2⟩ := h
  exact ⟨v, h1.same hz fun k hk => he k ((h2 k).2 hk), h2⟩
theorem RsAt.kept (h : RsAt F w p room L) (hb : Below w.heap.size w w') : RsAt F w' p room L := h.same hb.size fun k hk => hb.block k (h.lt k hk)
theorem RsAt.ok (h : RsAt F w p room L) : RsOk L := by
  obtain ⟨v, h1, h2⟩ := h
  exact h1.ok
theorem RsAt.fit (h : RsAt F w p room L) : (L.length : Int) ≤ room ∧ room ≤ 16 := by
  obtain ⟨v, h1, h2⟩ := h
  exact ⟨h1.fit, h1.r16⟩
/-- what a call that changes it leaves -/
def RsTo (F : Nat → Prop) (w w' : World) (p : Nat) (room : Int) (L' : List En) : Prop := ∃ F', RsAt F' w' p room L' ∧ Mv F F' w w'
theorem RsAt.stay (h : RsAt F w p room L) (hb : Below w.heap.size w w') : RsTo F w w' p room L := ⟨F, h.kept hb, Mv.of_below hb⟩

/-- a cell of a hand written -/
theorem RsRaw.write (h : RsRaw w p room v L) (hF : ∀ k, F k ↔ k = p ∨ v.ownBlock = some k) {w1 : World} (hb : Below w.heap.size w w1) {g o c : Nat} (hv : v = .slice (some ⟨g, o, none⟩) L.length c) {k : Nat} (hk : k < L.length) (q : Nat) (hq : q < 4) (u : Value) (y : En)
    (hy : csEn y = (csEn L[k]).set q u) (hid : y.id = L[k].id) (hbi : y.bits = L[k].bits) : RsTo F w (w1.setCell ⟨g, o + k * 4 + q, none⟩ u) p room (L.set k y) := by
  have h1 := h.kept hb
  subst hv
  have hgp : g ≠ p := h.ne g rfl
  refine ⟨F, ⟨_, ⟨h1.blk.away _ _ (fun e => hgp e.symm), ?_, h.ne, h.ok.set k hk y hid hbi, by rw [List.length_set]; exact h.fit, h.r16⟩, fun j => hF j⟩,
    ⟨(Only.of_below hb).set _ _ ((hF g).2 (.inr rfl)), fun j hj => .inl hj⟩⟩
  have := h1.row.setc csEn_len k hk q hq u y hy
  exact this
/-- a new list written -/
theorem RsRaw.put (h : RsRaw w p room v L) (hF : ∀ k, F k ↔ k = p ∨ v.ownBlock = some k) {w1 w2 : World} (hb : Below w.heap.size w w1) {v' : Value} {L' : List En} (hO : OwnO w2 4 csEn v' L') (hg : w1.grownBy w2 v.ownBlock) (hv : v'.ownBlock = v.ownBlock ∨ v'.ownBlock = some w1.heap.size)
    (hok : RsOk L') (hfit : (L'.length : Int) ≤ room) : RsTo F w (w2.setCell ⟨p, 1, none⟩ v') p room L' := by
  have h1 := h.kept hb
  have hp1 : p < w1.heap.size := h1.lt
  have hne : ∀ k, v'.ownBlock = some k → k ≠ p := fun k hk e => by
    rcases hv with hv | hv
    · exact h.ne k (hv ▸ hk) e
    · rw [hv] at hk
      injection hk with hk
      omega
  have hX := (h1.blk.grown (row := v.ownBlock) hg fun e => h.ne p e.symm rfl).set 1 v'
  refine ⟨fun k => k = p ∨ v'.ownBlock = some k, ⟨v', ⟨hX, hO.away _ _ (fun k hk => hne k hk), hne, hok, hfit, h.r16⟩, fun k => Iff.rfl⟩, ⟨?_, fun k hk => ?_⟩⟩
  · exact ((Only.of_below hb).trans (Only.grown hg fun k e => (hF k).2 (.inr e))).set _ _ ((hF p).2 (.inl rfl))
  · rcases hk with hk | hk
    · exact .inl ((hF k).2 (.inl hk))
    · rcases hv with hv | hv
      · exact .inl ((hF k).2 (.inr (hv ▸ hk)))
      · rw [hv] at hk
        injection hk with hk
        have := hb.size
        exact .inr (by omega)

def clipR (n : Int) : Int := max 0 (min n 16)
set_option maxHeartbeats 4000000 in
set_option maxRecDepth 100000 in
theorem rNew_any (n : Int) (w : World) : Calls Try.prog 6 #[.int .i64 n] w fun e w' => ∃ p F, e = .returned (ptr25 p) ∧ RsAt F w' p (clipR n) [] ∧ (∀ k, F k → w.heap.size ≤ k) ∧ Below w.heap.size w w' := by
  obtain ⟨r, hr⟩ : ∃ r, clipR n = r := ⟨_, rfl⟩
  have hmm : min (max n 0) 16 = r := by rw [← hr]; unfold clipR; omega
  have HR := Lib.hid (show 0 ≤ r ∧ r ≤ 16 by rw [← hr]; unfold clipR; omega)
  rw [hr]
  obtain ⟨q, hq⟩ : ∃ q, max n 0 = q := ⟨_, rfl⟩
  rw [hq] at hmm
  clear hr
  go_enter Try.func6, Try.ntmps6
  go_wp2
  go_ret
  have hb := (Below.refl w.heap.size w).alloc (Nat.le_refl _) (.cells #[.int .i64 r, .slice none 0 0] 64)
  have hX := Blk.new w [.int .i64 r, .slice none 0 0] 64
  exact ⟨w.heap.size, fun k => k = w.heap.size ∨ (Value.slice none 0 0).ownBlock = some k, rfl, ⟨_, ⟨hX, OwnO.nil _ _ _, fun k hk => by simp [Value.ownBlock] at hk, RsOk.nil, HR.out.1, HR.out.2⟩, fun k => Iff.rfl⟩, fun k hk => by
    rcases hk with rfl | hk
    · exact Nat.le_refl _
    · simp [Value.ownBlock] at hk, hb⟩

set_option maxHeartbeats 4000000 in
set_option maxRecDepth 100000 in
theorem rAdd_any (h : RsAt F w p room L) (n : Int) (b : Nat) (hb64 : b < 2 ^ 64) :
    Calls Try.prog 26 #[ptr25 p, .int .i64 n, .int .u64 (b : Int)] w fun e w' => e = .returned (.int .i64 (addE room L n b).2) ∧ RsTo F w w' p room (addE room L n b).1 := by
  have HS := Lib.hid fun w1 (hb : Below w.heap.size w w1) => h.stay hb
  obtain ⟨v, hr, hF⟩ := h
  have GP := Lib.hid (rPlace_any hr n)
  unfold addE
  by_cases hn : 1 ≤ n ∧ n ≤ 999
  · rw [if_neg (Classical.not_not.2 hn)]
    have n1 : 1 ≤ n := hn.1
    have n2 : n ≤ 999 := hn.2
    cases hh : hasE L n with
    | true =>
      rw [if_pos rfl]
      rw [hh] at GP
      clear hr hF hn hh
      go_enter Try.func26, Try.ntmps26
      go_wp2_with (go_at_call 36; (with_reducible refine GP.out.mono ?_); rintro e w1 ⟨rfl, hb⟩; have HB := Lib.hid hb; clear hb)
      go_ret
      exact ⟨rfl, HS.out _ HB.out⟩
    | false =>
      rw [if_neg (by simp)]
      rw [hh] at GP
      have hble := befE_le L n
      have hc0 := fun w1 (hb : Below w.heap.size w w1) => (hr.kept hb).blk.cell 0 rfl
      have hc1 := fun w1 (hb : Below w.heap.size w w1) => (hr.kept hb).blk.cell 1 rfl
      have hf1 := fun w1 (hb : Below w.heap.size w w1) => (hr.kept hb).blk.free 1 rfl
      have HC0 := Lib.hid hc0
      have HC1 := Lib.hid hc1
      obtain ⟨va, vc, hv⟩ := OwnO.form hr.row
      by_cases hroom : room ≤ (L.length : Int)
      · rw [if_pos hroom]
        subst hv
        clear hr hF hn hh hc0 hc1 hf1 hble
        go_enter Try.func26, Try.ntmps26
        go_upto_region 8 with (go_at_call 36; (with_reducible refine GP.out.mono ?_); rintro e w1 ⟨rfl, hb⟩; have HB := Lib.hid hb; clear hb)
        have c0 := HC0.out _ HB.out
        have c1 := HC1.out _ HB.out
        refine wp_region_calm0 (by kernel_rfl) (by kernel_rfl) fun M => ?_
        have m0 := fun n : In M.w => n.cell (M.cell c0)
        have m1 := fun n : In M.w => n.cell (M.cell c1)
        repeat (go_big_quiet_step (fail))
        refine wpQuiet_nil ?_
        intro w2 hb2
        have HB2 := Lib.hid (HB.out.trans (hb2.mono HB.out.size))
        clear hb2 m0 m1 M c0 c1
        go_wp2
        go_ret
        exact ⟨rfl, HS.out _ HB2.out⟩
      · rw [if_neg hroom]
        have hins : insE L ⟨n, b, true, false⟩ = L.take (befE L n) ++ ⟨n, b, true, false⟩ :: L.drop (befE L n) := rfl
        have hok : RsOk (insE L ⟨n, b, true, false⟩) := hr.ok.ins (x := ⟨n, b, true, false⟩) hn hb64 hh
        have hfit : ((insE L ⟨n, b, true, false⟩).length : Int) ≤ room := by rw [insE_len]; omega
        have GI := Lib.hid fun w3 (hb : Below w.heap.size w w3) vb t (hvb : w3.heap[vb]? = some (.cells (csEn ⟨n, b, true, false⟩).toArray t (0, 0))) (hvl : w.heap.size ≤ vb) =>
          rInsert_any (hr.kept hb).row ⟨n, b, true, false⟩ (befE L n) hble (by have := hr.len; omega) vb t hvb (fun k hk e => by have := hr.row.lt k hk; omega)
        have GB := Lib.hid fun w3 w4 (hb : Below w.heap.size w w3) (hg : w3.grownBy w4 v.ownBlock) => (hr.kept hb).blk.grown hg fun e => hr.ne p e.symm rfl
        have GE := Lib.hid fun w1 w2 (hb : Below w.heap.size w w1) v' (hO : OwnO w2 4 csEn v' (insE L ⟨n, b, true, false⟩)) (hg : w1.grownBy w2 v.ownBlock) (hv : v'.ownBlock = v.ownBlock ∨ v'.ownBlock = some w1.heap.size) =>
          hr.put hF hb hO hg hv hok hfit
        have hLn : (insE L ⟨n, b, true, false⟩).length = L.length + 1 := insE_len _ _
        rw [hins] at GE hLn ⊢
        generalize befE L n = k at *
        subst hv
        clear hr hF hn hh hc0 hc1 hf1 hble hins hok hfit
        go_enter Try.func26, Try.ntmps26
        go_upto_region 8 with (go_at_call 36; (with_reducible refine GP.out.mono ?_); rintro e w1 ⟨rfl, hb⟩; have HB := Lib.hid hb; clear hb)
        have c0 := HC0.out _ HB.out
        have c1 := HC1.out _ HB.out
        refine wp_region_calm0 (by kernel_rfl) (by kernel_rfl) fun M => ?_
        have m0 := fun n : In M.w => n.cell (M.cell c0)
        have m1 := fun n : In M.w => n.cell (M.cell c1)
        repeat (go_big_quiet_step (fail))
        refine wpQuiet_nil ?_
        intro w2 hb2
        have HB2 := Lib.hid (HB.out.trans (hb2.mono HB.out.size))
        clear hb2 m0 m1 M c0 c1
        have c1 := HC1.out _ HB2.out
        have HB3 := Lib.hid (HB2.out.alloc HB2.out.size (.cells #[.int .i64 n, .int .u64 (b : Int), .bool true, .bool false] 68))
        go_wp2_with ((go_at_call 37; refine (GI.out _ HB3.out _ _ (heap_alloc_new _ _) HB2.out.size).mono ?_; rintro e w4 ⟨v', rfl, o1, o2, o3⟩; obtain ⟨a', c', e⟩ := OwnO.form o1; rw [hLn] at e; subst e; have K1 := Lib.hid o1; have K2 := Lib.hid o2; have K3 := Lib.hid o3; have c5 := (GB.out _ _ HB3.out o2).cell 1 rfl; have f5 := (GB.out _ _ HB3.out o2).free 1 rfl; clear o1 o2 o3))
        go_ret
        exact ⟨rfl, GE.out _ _ HB3.out _ K1.out K2.out K3.out⟩
  · rw [if_pos hn]
    clear hr hF
    by_cases n1 : 1 ≤ n
    · have n2 : ¬ n ≤ 999 := fun h => hn ⟨n1, h⟩
      clear hn
      go_enter Try.func26, Try.ntmps26
      go_wp2_with (go_at_call 36; (with_reducible refine GP.out.mono ?_); rintro e w1 ⟨rfl, hb⟩; have HB := Lib.hid hb; clear hb)
      go_ret
      exact ⟨rfl, HS.out _ HB.out⟩
    · clear hn
      go_enter Try.func26, Try.ntmps26
      go_wp2_with (go_at_call 36; (with_reducible refine GP.out.mono ?_); rintro e w1 ⟨rfl, hb⟩; have HB := Lib.hid hb; clear hb)
      go_ret
      exact ⟨rfl, HS.out _ HB.out⟩

/-- how one stands that is there -/
structure AtK (w : World) (k : Nat) (x : En) (g o : Nat) : Prop where
  c0 : w.cell? ⟨g, o + k * 4, none⟩ = some (.int .i64 x.id)
  c1 : w.cell? ⟨g, o + k * 4 + 1, none⟩ = some (.int .u64 (x.bits : Int))
  c2 : w.cell? ⟨g, o + k * 4 + 2, none⟩ = some (.bool x.on)
  c3 : w.cell? ⟨g, o + k * 4 + 3, none⟩ = some (.bool x.busy)
  f : ∀ q, q < 4 → w.frozen? ⟨g, o + k * 4 + q, none⟩ = false
theorem RsRaw.at (h : RsRaw w p room v L) {n : Int} (hk : befE L n < L.length) {w1 : World} (hb : Below w.heap.size w w1) {g o c : Nat} (hv : v = .slice (some ⟨g, o, none⟩) L.length c) : AtK w1 (befE L n) L[befE L n] g o := by
  obtain ⟨g', o', c', e, -, -, p0, p1, p2, p3⟩ := row_at (h.kept hb).rows _ hk
  rw [hv] at e
  cases e
  refine ⟨p0, p1, p2, p3, fun q hq => ?_⟩
  rcases (h.kept hb).row with ⟨e, _⟩ | ⟨g2, o2, c2, e, _, hc, _, _, h2⟩
  · rw [hv] at e
    cases e
  · rw [hv] at e
    cases e
    have := (h2 (befE L n * 4 + q) (by omega)).2
    rwa [← Nat.add_assoc] at this

set_option maxHeartbeats 4000000 in
set_option maxRecDepth 100000 in
theorem rSet_any (h : RsAt F w p room L) (n : Int) (on : Bool) :
    Calls Try.prog 27 #[ptr25 p, .int .i64 n, .bool on] w fun e w' => e = .returned (.int .i64 (setE L n on).2) ∧ RsTo F w w' p room (setE L n on).1 := by
  have HS := Lib.hid fun w1 (hb : Below w.heap.size w w1) => h.stay hb
  obtain ⟨v, hr, hF⟩ := h
  unfold setE
  cases hh : hasE L n with
  | false =>
    rw [if_neg (by simp)]
    have GP := Lib.hid (rFind_no hr n hh)
    clear hr hF hh
    go_enter Try.func27, Try.ntmps27
    go_wp2_with (go_at_call 35; (with_reducible refine GP.out.mono ?_); rintro e w1 ⟨rfl, hb⟩; have HB := Lib.hid hb; clear hb)
    go_ret
    exact ⟨rfl, HS.out _ HB.out⟩
  | true =>
    rw [if_pos rfl]
    obtain ⟨hk, hd, -⟩ := hr.ok.at hh
    have GP := Lib.hid (rFind_at hr n hh)
    have GA := Lib.hid fun w1 (hb : Below w.heap.size w w1) g o c (hv : v = .slice (some ⟨g, o, none⟩) L.length c) => hr.at hk hb hv
    have GW := Lib.hid fun w1 (hb : Below w.heap.size w w1) g o c (hv : v = .slice (some ⟨g, o, none⟩) L.length c) q (hq : q < 4) u y hy hid hbi => hr.write hF hb hv hk q hq u y hy hid hbi
    rw [hd]
    generalize L[befE L n] = x at *
    generalize befE L n = k at *
    obtain ⟨id, bi, xo, bu⟩ := x
    have HW := Lib.hid fun w1 hb g o c hv => GW.out w1 hb g o c hv 2 (by omega) (.bool on) ⟨id, bi, on, bu⟩ rfl rfl rfl
    clear hr hF hh hk hd GW
    by_cases he : xo = on
    · subst he
      rw [if_pos rfl]
      cases xo
      all_goals
        go_enter Try.func27, Try.ntmps27
        go_wp2_with (go_at_call 35; (with_reducible refine GP.out.mono ?_); rintro e w1 ⟨⟨g, o, c, hv, rfl⟩, hb⟩; have c2 := (GA.out _ hb _ _ _ hv).c2; have HB := Lib.hid hb; clear hb hv)
        go_ret
        exact ⟨rfl, HS.out _ HB.out⟩
    · rw [if_neg he]
      cases xo <;> cases on
      all_goals first
        | exact absurd rfl he
        | (clear he
           go_enter Try.func27, Try.ntmps27
           go_wp2_with (go_at_call 35; (with_reducible refine GP.out.mono ?_); rintro e w1 ⟨⟨g, o, c, hv, rfl⟩, hb⟩; have c2 := (GA.out _ hb _ _ _ hv).c2; have f2 := (GA.out _ hb _ _ _ hv).f 2 (by omega); have HG := Lib.hid (HW.out _ hb _ _ _ hv); clear hb hv)
           go_ret
           exact ⟨rfl, HG.out⟩)

theorem rIsFree_any (x : En) (w : World) : Calls Try.prog 34 #[env x] w fun e w' => e = .returned (.bool x.free) ∧ Below w.heap.size w w' := by
  obtain ⟨id, b, on, bu⟩ := x
  dsimp only [env] at *
  have HB := Lib.hid ((Below.refl w.heap.size w).alloc (Nat.le_refl _) (.cells #[.int .i64 id, .int .u64 (b : Int), .bool on, .bool bu] 68))
  cases on
  all_goals
    go_enter Try.func34, Try.ntmps34
    go_wp2
    go_ret
    exact ⟨ret_b (by simp [En.free]), HB.out⟩

set_option maxHeartbeats 4000000 in
set_option maxRecDepth 100000 in
theorem rTake_any (h : RsAt F w p room L) (n : Int) :
    Calls Try.prog 24 #[ptr25 p, .int .i64 n] w fun e w' => e = .returned (.int .i64 (takeE L n).2) ∧ RsTo F w w' p room (takeE L n).1 := by
  have HS := Lib.hid fun w1 (hb : Below w.heap.size w w1) => h.stay hb
  obtain ⟨v, hr, hF⟩ := h
  unfold takeE
  cases hh : hasE L n with
  | false =>
    rw [if_neg (by simp)]
    have GP := Lib.hid (rFind_no hr n hh)
    clear hr hF hh
    go_enter Try.func24, Try.ntmps24
    go_wp2_with (go_at_call 35; (with_reducible refine GP.out.mono ?_); rintro e w1 ⟨rfl, hb⟩; have HB := Lib.hid hb; clear hb)
    go_ret
    exact ⟨rfl, HS.out _ HB.out⟩
  | true =>
    rw [if_pos rfl]
    obtain ⟨hk, hd, -⟩ := hr.ok.at hh
    have GP := Lib.hid (rFind_at hr n hh)
    have GA := Lib.hid fun w1 (hb : Below w.heap.size w w1) g o c (hv : v = .slice (some ⟨g, o, none⟩) L.length c) => hr.at hk hb hv
    have GW := Lib.hid fun w1 (hb : Below w.heap.size w w1) g o c (hv : v = .slice (some ⟨g, o, none⟩) L.length c) q (hq : q < 4) u y hy hid hbi => hr.write hF hb hv hk q hq u y hy hid hbi
    rw [hd]
    generalize L[befE L n] = x at *
    generalize befE L n = k at *
    have GI := Lib.hid fun w => rIsFree_any x w
    obtain ⟨f, hf⟩ : ∃ f, x.free = f := ⟨_, rfl⟩
    rw [hf] at GI ⊢
    obtain ⟨id, bi, xo, bu⟩ := x
    have HW := Lib.hid fun w1 hb g o c hv => GW.out w1 hb g o c hv 3 (by omega) (.bool true) ⟨id, bi, xo, true⟩ rfl rfl rfl
    dsimp only [env] at GI
    clear hr hF hh hk hd GW hf
    cases f with
    | false =>
      rw [if_neg (by simp)]
      go_enter Try.func24, Try.ntmps24
      go_wp2_with (first
        | (go_at_call 35; (with_reducible refine GP.out.mono ?_); rintro e w1 ⟨⟨g, o, c, hv, rfl⟩, hb⟩; have c0 := (GA.out _ hb _ _ _ hv).c0; have c1 := (GA.out _ hb _ _ _ hv).c1; have c2 := (GA.out _ hb _ _ _ hv).c2; have c3 := (GA.out _ hb _ _ _ hv).c3; have HB := Lib.hid hb; clear hb hv)
        | (go_at_call 34; (with_reducible refine (GI.out _).mono ?_); rintro e w2 ⟨rfl, hb⟩; have HB2 := Lib.hid (HB.out.trans (hb.mono HB.out.size)); clear hb))
      go_ret
      exact ⟨rfl, HS.out _ HB2.out⟩
    | true =>
      rw [if_pos rfl]
      go_enter Try.func24, Try.ntmps24
      go_wp2_with (first
        | (go_at_call 35; (with_reducible refine GP.out.mono ?_); rintro e w1 ⟨⟨g, o, c, hv, rfl⟩, hb⟩; have c0 := (GA.out _ hb _ _ _ hv).c0; have c1 := (GA.out _ hb _ _ _ hv).c1; have c2 := (GA.out _ hb _ _ _ hv).c2; have c3 := (GA.out _ hb _ _ _ hv).c3; have HB := Lib.hid hb; have HV := Lib.hid hv; clear hb hv)
        | (go_at_call 34; (with_reducible refine (GI.out _).mono ?_); rintro e w2 ⟨rfl, hb⟩; have HB2 := Lib.hid (HB.out.trans (hb.mono HB.out.size)); have d3 := (GA.out _ HB2.out _ _ _ HV.out).c3; have f3 := (GA.out _ HB2.out _ _ _ HV.out).f 3 (by omega); have HG := Lib.hid (HW.out _ HB2.out _ _ _ HV.out); clear hb))
      go_ret
      exact ⟨rfl, HG.out⟩

set_option maxHeartbeats 4000000 in
set_option maxRecDepth 100000 in
theorem rBusy_any (h : RsAt F w p room L) (n : Int) :
    Calls Try.prog 19 #[ptr25 p, .int .i64 n] w fun e w' => e = .returned (.bool (busyE L n)) ∧ Below w.heap.size w w' := by
  obtain ⟨v, hr, hF⟩ := h
  unfold busyE
  cases hh : hasE L n with
  | false =>
    rw [Bool.false_and]
    have GP := Lib.hid (rFind_no hr n hh)
    clear hr hF hh
    go_enter Try.func19, Try.ntmps19
    go_wp2_with (go_at_call 35; (with_reducible refine GP.out.mono ?_); rintro e w1 ⟨rfl, hb⟩; have HB := Lib.hid hb; clear hb)
    go_ret
    exact ⟨rfl, HB.out⟩
  | true =>
    rw [Bool.true_and]
    obtain ⟨hk, hd, -⟩ := hr.ok.at hh
    have GP := Lib.hid (rFind_at hr n hh)
    have GA := Lib.hid fun w1 (hb : Below w.heap.size w w1) g o c (hv : v = .slice (some ⟨g, o, none⟩) L.length c) => hr.at hk hb hv
    rw [hd]
    generalize L[befE L n] = x at *
    generalize befE L n = k at *
    obtain ⟨id, bi, xo, bu⟩ := x
    clear hr hF hh hk hd
    go_enter Try.func19, Try.ntmps19
    go_wp2_with (go_at_call 35; (with_reducible refine GP.out.mono ?_); rintro e w1 ⟨⟨g, o, c, hv, rfl⟩, hb⟩; have c3 := (GA.out _ hb _ _ _ hv).c3; have HB := Lib.hid hb; clear hb hv)
    go_ret
    exact ⟨rfl, HB.out⟩

set_option maxHeartbeats 4000000 in
set_option maxRecDepth 100000 in
theorem rGive_any (h : RsAt F w p room L) (n : Int) :
    Calls Try.prog 25 #[ptr25 p, .int .i64 n] w fun e w' => e = .returned (.bool (giveE L n).2) ∧ RsTo F w w' p room (giveE L n).1 := by
  have HS := Lib.hid fun w1 (hb : Below w.heap.size w w1) => h.stay hb
  have GB := Lib.hid (rBusy_any h n)
  obtain ⟨v, hr, hF⟩ := h
  unfold giveE
  cases hb : busyE L n with
  | false =>
    rw [if_neg (by simp)]
    rw [hb] at GB
    clear hr hF hb
    go_enter Try.func25, Try.ntmps25
    go_wp2_with (go_at_call 19; (with_reducible refine GB.out.mono ?_); rintro e w1 ⟨rfl, hb⟩; have HB := Lib.hid hb; clear hb)
    go_ret
    exact ⟨rfl, HS.out _ HB.out⟩
  | true =>
    rw [if_pos rfl]
    rw [hb] at GB
    have hh : hasE L n = true := by
      unfold busyE at hb
      rw [Bool.and_eq_true] at hb
      exact hb.1
    obtain ⟨hk, hd, -⟩ := hr.ok.at hh
    have GP := Lib.hid fun w1 (hb : Below w.heap.size w w1) => rFind_at (hr.kept hb) n hh
    have GA := Lib.hid fun w1 (hb : Below w.heap.size w w1) g o c (hv : v = .slice (some ⟨g, o, none⟩) L.length c) => hr.at hk hb hv
    have GW := Lib.hid fun w1 (hb : Below w.heap.size w w1) g o c (hv : v = .slice (some ⟨g, o, none⟩) L.length c) q (hq : q < 4) u y hy hid hbi => hr.write hF hb hv hk q hq u y hy hid hbi
    rw [hd]
    generalize L[befE L n] = x at *
    generalize befE L n = k at *
    obtain ⟨id, bi, xo, bu⟩ := x
    have HW := Lib.hid fun w1 hb g o c hv => GW.out w1 hb g o c hv 3 (by omega) (.bool false) ⟨id, bi, xo, false⟩ rfl rfl rfl
    clear hr hF hh hk hd GW hb
    go_enter Try.func25, Try.ntmps25
    go_wp2_with (first
      | (go_at_call 19; (with_reducible refine GB.out.mono ?_); rintro e w1 ⟨rfl, hb⟩; have HB := Lib.hid hb; clear hb)
      | (go_at_call 35; (with_reducible refine (GP.out _ HB.out).mono ?_); rintro e w2 ⟨⟨g, o, c, hv, rfl⟩, hb⟩; have HB2 := Lib.hid (HB.out.trans (hb.mono HB.out.size)); have c3 := (GA.out _ HB2.out _ _ _ hv).c3; have f3 := (GA.out _ HB2.out _ _ _ hv).f 3 (by omega); have HG := Lib.hid (HW.out _ HB2.out _ _ _ hv); clear hb hv))
    go_ret
    exact ⟨rfl, HG.out⟩

def findE (L : List En) (n : Int) : Hd × Bool := if hasE L n then ((L.getD (befE L n) default).hd, true) else (⟨0, 0, false⟩, false)
abbrev hdv (x : Hd) : Value := .agg #[.int .i64 x.id, .int .u64 (x.bits : Int), .bool x.on]
set_option maxHeartbeats 4000000 in
set_option maxRecDepth 100000 in
theorem rFindR_any (h : RsAt F w p room L) (n : Int) :
    Calls Try.prog 21 #[ptr25 p, .int .i64 n] w fun e w' => e = .returned (.tuple #[hdv (findE L n).1, .bool (findE L n).2]) ∧ Below w.heap.size w w' := by
  obtain ⟨v, hr, hF⟩ := h
  unfold findE
  have HB0 := Lib.hid ((Below.refl w.heap.size w).alloc (Nat.le_refl _) (.cells #[.int .i64 0, .int .u64 0, .bool false] 52))
  have HX := Lib.hid (Blk.new w [.int .i64 0, .int .u64 0, .bool false] 52)
  cases hh : hasE L n with
  | false =>
    rw [if_neg (by simp)]
    have GP := Lib.hid (rFind_no (hr.kept HB0.out) n hh)
    clear hr hF hh
    go_enter Try.func21, Try.ntmps21
    go_wp2_with (go_at_call 35; (with_reducible refine GP.out.mono ?_); rintro e w1 ⟨rfl, hb⟩; have HXK := Lib.hid (HX.out.kept hb); have c0 := HXK.out.cell 0 rfl; have c1 := HXK.out.cell 1 rfl; have c2 := HXK.out.cell 2 rfl; have f0 := HXK.out.free 0 rfl; have f1 := HXK.out.free 1 rfl; have f2 := HXK.out.free 2 rfl; have HB := Lib.hid (HB0.out.trans (hb.mono HB0.out.size)); clear hb)
    have hB := ((HXK.out.set 0 (.int .i64 0)).set 1 (.int .u64 0)).set 2 (.bool false)
    have q0 := hB.cell 0 rfl
    have q1 := hB.cell 1 rfl
    have q2 := hB.cell 2 rfl
    have hz := ((HB.out.setCell (p := ⟨w.heap.size, 0, none⟩) (Nat.le_refl _) (.int .i64 0)).setCell (p := ⟨w.heap.size, 1, none⟩) (Nat.le_refl _) (.int .u64 0)).setCell (p := ⟨w.heap.size, 2, none⟩) (Nat.le_refl _) (.bool false)
    generalize ((w1.setCell ⟨w.heap.size, 0, none⟩ (.int .i64 0)).setCell ⟨w.heap.size, 1, none⟩ (.int .u64 0)).setCell ⟨w.heap.size, 2, none⟩ (.bool false) = w9 at *
    exact bodyPost_ret (v := .tuple #[.agg #[.int .i64 0, .int .u64 0, .bool false], .bool false]) (by simp [results, Try.results21, go_sem, q0, q1, q2]) rfl ⟨rfl, hz⟩
  | true =>
    rw [if_pos rfl]
    obtain ⟨hk, hd, -⟩ := hr.ok.at hh
    have GP := Lib.hid (rFind_at (hr.kept HB0.out) n hh)
    have GA := Lib.hid fun w1 (hb : Below w.heap.size w w1) g o c (hv : v = .slice (some ⟨g, o, none⟩) L.length c) => hr.at hk hb hv
    rw [hd]
    generalize L[befE L n] = x at *
    generalize befE L n = k at *
    obtain ⟨id, bi, xo, bu⟩ := x
    dsimp only [En.hd, hdv]
    clear hr hF hh hk hd
    go_enter Try.func21, Try.ntmps21
    go_wp2_with (go_at_call 35; (with_reducible refine GP.out.mono ?_); rintro e w1 ⟨⟨g, o, c, hv, rfl⟩, hb⟩; have HXK := Lib.hid (HX.out.kept hb); have c0 := HXK.out.cell 0 rfl; have c1 := HXK.out.cell 1 rfl; have c2 := HXK.out.cell 2 rfl; have f0 := HXK.out.free 0 rfl; have f1 := HXK.out.free 1 rfl; have f2 := HXK.out.free 2 rfl; have HB := Lib.hid (HB0.out.trans (hb.mono HB0.out.size)); have a0 := (GA.out _ HB.out _ _ _ hv).c0; have a1 := (GA.out _ HB.out _ _ _ hv).c1; have a2 := (GA.out _ HB.out _ _ _ hv).c2; clear hb hv)
    have hB := ((HXK.out.set 0 (.int .i64 id)).set 1 (.int .u64 (bi : Int))).set 2 (.bool xo)
    have q0 := hB.cell 0 rfl
    have q1 := hB.cell 1 rfl
    have q2 := hB.cell 2 rfl
    have hz := ((HB.out.setCell (p := ⟨w.heap.size, 0, none⟩) (Nat.le_refl _) (.int .i64 id)).setCell (p := ⟨w.heap.size, 1, none⟩) (Nat.le_refl _) (.int .u64 (bi : Int))).setCell (p := ⟨w.heap.size, 2, none⟩) (Nat.le_refl _) (.bool xo)
    generalize ((w1.setCell ⟨w.heap.size, 0, none⟩ (.int .i64 id)).setCell ⟨w.heap.size, 1, none⟩ (.int .u64 (bi : Int))).setCell ⟨w.heap.size, 2, none⟩ (.bool xo) = w9 at *
    exact bodyPost_ret (v := .tuple #[.agg #[.int .i64 id, .int .u64 (bi : Int), .bool xo], .bool true]) (by simp [results, Try.results21, go_sem, q0, q1, q2]) rfl ⟨rfl, hz⟩
end
end Go.Proofs.Ytlgemfgikdaelaa
