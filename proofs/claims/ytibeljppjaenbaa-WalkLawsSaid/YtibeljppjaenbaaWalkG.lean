/- The walks of package walk: a walk made short. -/
import Derived.Test.YtibeljppjaenbaaWalkF
namespace Go.Proofs.Ytibeljppjaenbaa
open Go.RowKit

/-- the move that does so -/
def mv1 (a b : Int) : Int × Int := if 0 < a then (1, a) else if a < 0 then (2, -a) else if b = 3 then (4, 1) else (3, b)
theorem one1_mv {x : P2} (hx : Gd x) (h0 : x ≠ (0, 0)) : one1 x.1 x.2 = [mv1 x.1 x.2] := by
  obtain ⟨a, b⟩ := x
  obtain ⟨g1, g2, g3⟩ := hx
  simp only at *
  unfold one1 mv1
  by_cases h1 : 0 < a
  · rw [if_pos h1, if_pos h1]
  · rw [if_neg h1, if_neg h1]
    by_cases h2 : a < 0
    · rw [if_pos h2, if_pos h2]
    · rw [if_neg h2, if_neg h2]
      by_cases h3 : b = 3
      · rw [if_pos h3, if_pos h3]
      · rw [if_neg h3, if_neg h3]
        have hb : b ≠ 0 := fun e => h0 (by rw [e, show a = 0 by omega])
        rw [if_pos (by omega)]
theorem mv1_big {x : P2} (hx : Gd x) : big x ↔ 1048576 < (mv1 x.1 x.2).2 := by
  obtain ⟨a, b⟩ := x
  obtain ⟨g1, g2, g3⟩ := hx
  simp only at *
  unfold big mv1
  split
  · simp only; omega
  · split
    · simp only; omega
    · split
      · simp only; omega
      · simp only; omega

set_option maxHeartbeats 1000000 in
theorem wmove_any (a b : Int) (w : World) (ha : a.natAbs ≤ 1000000000000) : Calls Try.prog 45 #[.agg #[.int .i64 a, .int .i64 b]] w fun e w' => e = .returned (.agg #[.int .i64 (mv1 a b).1, .int .i64 (mv1 a b).2]) ∧ Below w.heap.size w w' := by
  have C0 := (Cell2.new w (.int .i64 a) (.int .i64 b) 73).alloc (.cells #[.int .i64 0, .int .i64 0] 48)
  have u0 := C0.c0
  have u1 := C0.c1
  have hB : ∀ o o', Below w.heap.size w ((w.alloc o).alloc o') := fun o o' => ((Below.refl _ _).alloc (Nat.le_refl _) _).alloc (by simp) _
  have hm : mv1 a b = if 0 < a then (1, a) else if a < 0 then (2, -a) else if b = 3 then (4, 1) else (3, b) := rfl
  obtain ⟨⟨p, q⟩, hpq⟩ : ∃ p, mv1 a b = p := ⟨_, rfl⟩
  rw [hpq] at hm ⊢
  clear hpq C0
  by_cases h1 : 0 < a
  · rw [if_pos h1] at hm
    cases hm
    go_enter Try.func45, Try.ntmps45
    go_wp2
    refine bodyPost_ret (v := .agg #[.int .i64 1, .int .i64 a]) ?_ rfl ⟨rfl, hB _ _⟩
    simp [results, Try.results45, go_sem]
  · rw [if_neg h1] at hm
    by_cases h2 : a < 0
    · rw [if_pos h2] at hm
      cases hm
      go_enter Try.func45, Try.ntmps45
      go_wp2
      refine bodyPost_ret (v := .agg #[.int .i64 2, .int .i64 (-a)]) ?_ rfl ⟨rfl, hB _ _⟩
      simp [results, Try.results45, go_sem]
    · rw [if_neg h2] at hm
      by_cases h3 : b = 3
      · rw [if_pos h3] at hm
        cases hm
        subst h3
        go_enter Try.func45, Try.ntmps45
        go_wp2
        refine bodyPost_ret (v := .agg #[.int .i64 4, .int .i64 1]) ?_ rfl ⟨rfl, hB _ _⟩
        simp [results, Try.results45, go_sem]
      · rw [if_neg h3] at hm
        cases hm
        have h3' := beq_no' h3
        go_enter Try.func45, Try.ntmps45
        go_wp2
        refine bodyPost_ret (v := .agg #[.int .i64 3, .int .i64 b]) ?_ rfl ⟨rfl, hB _ _⟩
        simp [results, Try.results45, go_sem]

theorem psh_bd {s : List P2} {x : P2} {M N : Nat} (hs : ∀ y ∈ s, y.1.natAbs ≤ M) (hx : x.1.natAbs ≤ N) : ∀ y ∈ psh s x, y.1.natAbs ≤ M + N := by
  intro y hy
  unfold psh at hy
  split at hy
  · have := hs y hy; omega
  · cases s with
    | nil =>
      simp at hy
      subst hy
      omega
    | cons t s =>
      simp only at hy
      split at hy
      · split at hy
        · have := hs y (List.mem_cons_of_mem _ hy); omega
        · rcases List.mem_cons.1 hy with rfl | hy
          · have := hs t (by simp)
            show (t.1 + x.1).natAbs ≤ M + N
            omega
          · have := hs y (List.mem_cons_of_mem _ hy); omega
      · rcases List.mem_cons.1 hy with rfl | hy
        · omega
        · have := hs y hy; omega
theorem psh_len (s : List P2) (x : P2) : (psh s x).length ≤ s.length + 1 := by
  unfold psh
  split
  · omega
  · cases s with
    | nil => simp
    | cons t s =>
      simp only
      split
      · split
        · simp; omega
        · simp
      · simp
theorem nfs_snoc (l : List P2) (x : P2) : nfs (l ++ [x]) = psh (nfs l) x := by unfold nfs; rw [List.foldl_append]; rfl
theorem nfs_bd (l : List (Int × Int)) (k : Nat) : (∀ y ∈ nfs ((l.take k).map pln), y.1.natAbs ≤ k * 1048576) ∧ (nfs ((l.take k).map pln)).length ≤ k := by
  induction k with
  | zero => simp [nfs]
  | succ k ih =>
    by_cases h : k < l.length
    · rw [List.take_add_one, List.getElem?_eq_getElem h, Option.toList_some, List.map_append, List.map_cons, List.map_nil, nfs_snoc]
      have h2 := psh_len (nfs ((l.take k).map pln)) (pln l[k])
      refine ⟨?_, by omega⟩
      rw [Nat.add_mul, Nat.one_mul]
      exact psh_bd ih.1 (pln_abs l[k])
    · rw [List.take_of_length_le (by omega)]
      rw [List.take_of_length_le (by omega)] at ih
      exact ⟨fun y hy => Nat.le_trans (ih.1 y hy) (Nat.mul_le_mul_right _ (by omega)), by omega⟩
theorem map_pln_gd (l : List (Int × Int)) : ∀ x ∈ l.map pln, Gd x := by
  intro x hx
  obtain ⟨m, _, rfl⟩ := List.mem_map.1 hx
  exact pln_gd m
theorem nrm_take (l : List (Int × Int)) (k : Nat) (h : k < l.length) : nrm (l.take (k + 1)) = (psh (nrm (l.take k)).reverse (pln l[k])).reverse := by
  unfold nrm
  rw [List.take_add_one, List.getElem?_eq_getElem h, Option.toList_some, List.map_append, List.map_cons, List.map_nil, nfs_snoc, List.reverse_reverse]
theorem nrm_alt (l : List (Int × Int)) : Alt (nrm l).reverse := by
  unfold nrm
  rw [List.reverse_reverse]
  exact alt_nfs (map_pln_gd l)

set_option maxHeartbeats 4000000 in
set_option maxRecDepth 100000 in
theorem wShort_any (va : Value) (l : List (Int × Int)) (w : World) (ha : PairsAt w va l) (hl : l.length ≤ 1000) :
    Calls Try.prog 19 #[va] w fun e w' => ∃ v, e = .returned (.tuple #[v, .int .i64 (srt l).2]) ∧ PairsAt w' v (srt l).1 ∧ Below w.heap.size w w' := by
  obtain ⟨j0, ji, jz0, jz1, jz2⟩ := info_parts info_move
  obtain ⟨a, ca, rfl, hca, ha⟩ := ha
  go_enter Try.func19, Try.ntmps19
  go_wp2
  go_loopw [4, 6, 13] (fun v _ i wr => ∃ k : Nat, k ≤ l.length ∧ i = .int .i64 k ∧ OwnP wr w.heap.size 73 v (nrm (l.take k)) ∧ Below w.heap.size w wr) (fun _ _ i _ => l.length - (intOf i).toNat)
  case atStart => exact ⟨0, Nat.zero_le _, rfl, OwnP.nil _ _ _, Below.refl _ _⟩
  case round =>
    obtain ⟨k, hk, rfl, hown, hB⟩ := hrel
    have hnb := nfs_bd l k
    have hal := nrm_alt (l.take k)
    have hnl : (nrm (l.take k)).length = (nfs ((l.take k).map pln)).length := by unfold nrm; rw [List.length_reverse]
    have hbd : ∀ y ∈ nrm (l.take k), y.1.natAbs ≤ 1000000000000 := by
      intro y hy
      unfold nrm at hy
      have := hnb.1 y (List.mem_reverse.1 hy)
      omega
    by_cases hlt : k < l.length
    · obtain ⟨ga, oa, rfl, hga, hxa⟩ := ha (by omega)
      have hsucc := nrm_take l k hlt
      obtain ⟨⟨x1, x2⟩, hx⟩ : ∃ x, l[k]'hlt = x := ⟨_, rfl⟩
      have hx0 := hxa k _ (List.getElem?_eq_getElem hlt)
      rw [hx] at hx0 hsucc
      have p1 : wr.cell? ⟨ga, oa + k * 2, none⟩ = some (.int .i64 x1) := (hB.cell (p := ⟨ga, oa + k * 2, none⟩) hga).trans hx0.1
      have p2 : wr.cell? ⟨ga, oa + k * 2 + 1, none⟩ = some (.int .i64 x2) := (hB.cell (p := ⟨ga, oa + k * 2 + 1, none⟩) hga).trans hx0.2
      have hd := fun w => wdone_any x1 x2 w
      have hput := fun w1 v ho hz => wput_any v w.heap.size (nrm (l.take k)) (pln (x1, x2)) w1 hz (by omega) ho hal (pln_gd _) hbd (Nat.le_trans (pln_abs _) (by decide))
      rw [← hsucc] at hput
      obtain ⟨⟨S, Q⟩, hpe⟩ : ∃ p, pln (x1, x2) = p := ⟨_, rfl⟩
      rw [hpe] at hd hput
      have HD := Lib.hid hd
      have HPUT := Lib.hid hput
      have HOWN := Lib.hid hown
      have hsz := hB.size
      have hB0 := hB.alloc hsz (.cells #[.int .i64 x1, .int .i64 x2] 48)
      have hO := Lib.hid (hown.alloc (.cells #[.int .i64 x1, .int .i64 x2] 48))
      clear hd hput hown hx hx0 hxa ha hpe hsucc hnb hal hnl hbd
      go_wp2_with (first
        | (go_at_call 41; refine (HD.out _).mono ?_; rintro e w1 ⟨rfl, hb⟩; replace hB0 := hB0.trans (hb.mono hB0.size); have hO1 := Lib.hid (hO.out.kept hb); clear hb p1 p2)
        | (go_at_call 44; refine (HPUT.out _ _ hO1.out hB0.size).mono ?_; rintro e w2 ⟨v', rfl, ho2, hb2⟩; replace hB0 := hB0.trans hb2; have hO2 := Lib.hid ho2; clear hb2 ho2))
      go_roundw
      case rel => exact ⟨k + 1, by omega, by go_num, hO2.out, hB0⟩
      case measure => simp [intOf]; omega
    · have e : l.take k = l := List.take_of_length_le (by omega)
      rw [e] at hown hal hbd
      have hlen : (nrm l).length ≤ 1000 := by
        rw [← e, hnl]
        omega
      have hs : srt l = if ∃ x ∈ nrm l, big x then ([], 15) else (outs (nrm l), 0) := rfl
      have hmems : ∀ x ∈ nrm l, Gd x ∧ x ≠ (0, 0) := fun x hx => hal.mem (List.mem_reverse.2 hx)
      have hpa := hown.pairs
      clear hnb hnl hal hown ha e
      generalize nrm l = L at *
      generalize wr = w3 at *
      obtain ⟨a4, c4, rfl, hc4, h4⟩ := hpa
      have HS := Lib.hid hs
      have HM := Lib.hid hmems
      have HBD := Lib.hid hbd
      clear hs hmems hbd
      go_wp2
      go_loopw [7, 9, 10, 24] (fun o _ _ i wq => ∃ k : Nat, k ≤ L.length ∧ i = .int .i64 k ∧ OwnP wq w3.heap.size 48 o (outs (L.take k)) ∧ (outs (L.take k)).length = k ∧ Below w3.heap.size w3 wq ∧ ∀ x ∈ L.take k, ¬ big x) (fun _ _ _ i _ => L.length - (intOf i).toNat)
      case atStart => exact ⟨0, Nat.zero_le _, rfl, OwnP.nil _ _ _, rfl, Below.refl _ _, by simp⟩
      case round =>
        obtain ⟨k, hk, rfl, hown, hol, hS3, hnb⟩ := hrel
        by_cases hlt3 : k < L.length
        · obtain ⟨ga, oa, rfl, hga, hxa⟩ := h4 (by omega)
          obtain ⟨⟨S, Q⟩, hx⟩ : ∃ x, L[k]'hlt3 = x := ⟨_, rfl⟩
          have hx0 := hxa k _ (List.getElem?_eq_getElem hlt3)
          have hmem : (S, Q) ∈ L := by rw [← hx]; exact List.getElem_mem hlt3
          have hob := HBD.out _ hmem
          obtain ⟨hg, hne⟩ := HM.out _ hmem
          have hone := one1_mv hg hne
          have hbg := mv1_big hg
          have osucc := outs_succ L k hlt3
          rw [hx, hone] at osucc
          rw [hx] at hx0
          simp only at hob hone hbg osucc
          have p1 : wr.cell? ⟨ga, oa + k * 2, none⟩ = some (.int .i64 S) := (hS3.cell (p := ⟨ga, oa + k * 2, none⟩) hga).trans hx0.1
          have p2 : wr.cell? ⟨ga, oa + k * 2 + 1, none⟩ = some (.int .i64 Q) := (hS3.cell (p := ⟨ga, oa + k * 2 + 1, none⟩) hga).trans hx0.2
          have hmv := fun w => wmove_any S Q w hob
          obtain ⟨⟨m1, m2⟩, hmm⟩ : ∃ m, mv1 S Q = m := ⟨_, rfl⟩
          rw [hmm] at hmv osucc hbg
          simp only at hbg
          have HMV := Lib.hid hmv
          have HOWN := Lib.hid hown
          have hsz := hS3.size
          have hB0 := hS3.alloc hsz (.cells #[.int .i64 S, .int .i64 Q] 73)
          have hO := Lib.hid (hown.alloc (.cells #[.int .i64 S, .int .i64 Q] 73))
          by_cases hbig : 1048576 < m2
          · have hs2 : srt l = ([], 15) := by rw [HS.out, if_pos ⟨(S, Q), hmem, hbg.2 hbig⟩]
            have HS2 := Lib.hid hs2
            clear hs2 hmem hob hg hne hone hbg osucc hx0 hx hxa h4 hnb hown hol hmm hmv
            go_wp2_with (go_at_call 45; refine (HMV.out _).mono ?_; rintro e w1 ⟨rfl, hb⟩; replace hB0 := hB0.trans (hb.mono hB0.size); clear hb p1 p2)
            refine bodyPost_ret (v := .tuple #[.slice none 0 0, .int .i64 15]) (by simp [results, Try.results19, go_sem]) rfl ⟨.slice none 0 0, by rw [HS2.out], by rw [HS2.out]; exact PairsAt.nil _, ?_⟩
            exact hB.trans (((hB0.alloc hB0.size _)).mono hB.size)
          · have hnb2 : ∀ x ∈ L.take (k + 1), ¬ big x := by
              intro x hx'
              rw [List.take_add_one, List.getElem?_eq_getElem hlt3, hx] at hx'
              rcases List.mem_append.1 hx' with h | h
              · exact hnb x h
              · simp at h
                subst h
                exact fun e => hbig (hbg.1 e)
            have NB := Lib.hid hnb2
            have OS := Lib.hid osucc
            have HOL := Lib.hid hol
            clear hmem hob hg hne hone hbg osucc hx0 hx hxa h4 hnb hnb2 hown hol hmm hmv
            generalize outs (L.take k) = LK at *
            go_wp2_with (first
              | (go_at_call 45; refine (HMV.out _).mono ?_; rintro e w1 ⟨rfl, hb⟩; replace hB0 := hB0.trans (hb.mono hB0.size); have hO1 := Lib.hid (hO.out.kept hb); have hsz1 := hB0.size; clear hb p1 p2)
              | (at_builtin; refine wpList_append_own _ rfl _ _ 22 rfl w3.heap.size 48 j0 (.agg #[.int .i64 0, .int .i64 0]) 2 16 Try.underlying22 ji jz0 jz1 jz2 rfl (by decide) _ _ _ rfl ((hO1.out.alloc _).alloc _) ⟨_, 0, none⟩ 1 1 [.int .i64 m1, .int .i64 m2] rfl rfl ?_ (by intro u hu; simp at hu; rcases hu with rfl | rfl <;> rfl) (by rw [HOL.out]; unfold maxLen; omega) (by rw [HOL.out]; omega) (by simp; omega) ?_))
            · exact cells_new _ _ (by simp) _ _ _
            intro v' w2 hown1 hgrow1 _
            have hF := own_next hO1.out rfl ((hB0.alloc hsz1 _).alloc (by simp; omega) _) ((hB0.alloc hsz1 _).alloc (by simp; omega) _).size hown1 hgrow1
            rw [← OS.out] at hF
            clear hown1 hgrow1
            have hl6 : (outs (L.take (k + 1))).length = k + 1 := by rw [OS.out, List.length_append, HOL.out]; rfl
            have HL6 := Lib.hid hl6
            have HF := Lib.hid hF
            clear hF hl6
            go_wp2
            go_roundw
            case rel => exact ⟨k + 1, by omega, by go_num, HF.out.1, HL6.out, HF.out.2, NB.out⟩
            case measure => simp [intOf]; omega
        · have hkl : k = L.length := by omega
          rw [hkl, List.take_length] at hown hnb
          have hs2 : srt l = (outs L, 0) := by rw [HS.out, if_neg (fun ⟨x, h1, h2⟩ => hnb x h1 h2)]
          have HS2 := Lib.hid hs2
          have HO := Lib.hid hown
          clear hkl hs2 hown hnb hol h4
          go_wp2
          refine bodyPost_ret (v := .tuple #[u7, .int .i64 0]) (by simp [results, Try.results19, go_sem]) rfl ⟨u7, by rw [HS2.out], by rw [HS2.out]; exact HO.out.pairs, hB.trans (hS3.mono hB.size)⟩
end Go.Proofs.Ytibeljppjaenbaa
