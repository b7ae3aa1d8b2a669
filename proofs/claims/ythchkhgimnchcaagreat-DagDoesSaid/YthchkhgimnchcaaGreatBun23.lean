/- Texts of this proof, joined: DgRB; DgC; DgD. -/
import Derived.Test.YthchkhgimnchcaaGreatBun22
import Derived.Deep.CutBlock
/- Stage 24: the document's side of layer 23: Check, Free. (wip/gen/gen24RB.py writes this text.) -/
namespace Go.Proofs.YthchkhgimnchcaaGreat
open Go.RowKit

theorem first_at {L : List Sp} {k : Nat} (hk : k < L.length) (h : ∀ x ∈ L.take k, chk x = 0) (hx : chk L[k] ≠ 0) : firstE L = chk L[k] := by
  have key : ∀ (A : List Sp) (x : Sp) (B : List Sp), (∀ y ∈ A, chk y = 0) → chk x ≠ 0 → firstE (A ++ x :: B) = chk x := by
    intro A
    induction A with
    | nil => intro x B _ h2; show (if chk x = 0 then _ else _) = _; rw [if_neg h2]
    | cons y A ih =>
      intro x B h1 h2
      show (if chk y = 0 then firstE (A ++ x :: B) else _) = _
      rw [if_pos (h1 y List.mem_cons_self)]
      exact ih x B (fun z hz => h1 z (List.mem_cons_of_mem _ hz)) h2
  have e : L = L.take k ++ L[k] :: L.drop (k + 1) := by rw [← List.drop_eq_getElem_cons hk, List.take_append_drop]
  have := key (L.take k) L[k] (L.drop (k + 1)) h hx
  rwa [← e] at this
theorem plc_lt {l : List Int} {n : Int} (h : n ∈ l) : plcL l n = ((l.idxOf n : Nat) : Int) ∧ l.idxOf n < l.length ∧ l[l.idxOf n]? = some n := by
  have h1 := List.idxOf_lt_length_iff.2 h
  exact ⟨if_pos h, h1, by rw [List.getElem?_eq_getElem h1, List.getElem_idxOf]⟩
/-- the first place of a number is its place, or one before -/
theorem plc_le {l : List Int} {k : Nat} (hk : k < l.length) : plcL l l[k] ≤ (k : Int) := by
  have h1 : l[k] ∈ l.take (k + 1) := by rw [List.take_succ_eq_append_getElem hk]; exact List.mem_append.2 (.inr (List.mem_singleton.2 rfl))
  have h2 := idx_take h1
  rw [(plc_lt (List.getElem_mem hk)).1]
  omega
theorem new_no {K : List Tk} {L : List Sp} {k : Nat} (hk : k < L.length) (h : L[k].id ∈ idsK K ∨ plcL (idsO L) L[k].id < (k : Int)) : L.all (newB K L) = false := by
  rw [List.all_eq_false]
  refine ⟨L[k], List.getElem_mem hk, ?_⟩
  unfold newB
  rcases h with h | h
  · rw [stO_mem.2 h]
    simp
  · have hk2 : k < (idsO L).length := by rw [idsO_len]; exact hk
    have e1 : (idsO L)[k] = L[k].id := by simp [idsO]
    have hm : L[k].id ∈ idsO L := idsO_mem.2 ⟨_, List.getElem_mem hk, rfl⟩
    obtain ⟨h1, h2, h3⟩ := plc_lt hm
    rw [h1] at h
    have h4 : L[k].id ∈ (idsO L).take k := by
      rw [List.mem_take_iff_getElem]
      refine ⟨(idsO L).idxOf L[k].id, by omega, ?_⟩
      rw [List.getElem?_eq_getElem h2] at h3
      exact Option.some.inj h3
    have h5 : 2 ≤ (idsO L).count L[k].id := by
      have e2 : idsO L = (idsO L).take k ++ L[k].id :: (idsO L).drop (k + 1) := by rw [← e1, ← List.drop_eq_getElem_cons hk2, List.take_append_drop]
      rw [e2, List.count_append, List.count_cons_self]
      have := List.count_pos_iff.2 h4
      omega
    have h6 : ¬ (idsO L).count L[k].id = 1 := by omega
    simp [h6]
theorem new_all {K : List Tk} {L : List Sp} (h : ∀ i (hi : i < L.length), L[i].id ∉ idsK K ∧ ¬ plcL (idsO L) L[i].id < (i : Int)) : L.all (newB K L) = true := by
  have hnd : (idsO L).Nodup := by
    rw [List.Nodup, List.pairwise_iff_getElem]
    intro i j hi hj hij e
    have hj2 : j < L.length := by rwa [idsO_len] at hj
    have e1 : (idsO L)[j] = L[j].id := by simp [idsO]
    have h1 := (h j hj2).2
    rw [← e1, ← e] at h1
    have := plc_le hi
    omega
  refine List.all_eq_true.2 fun x hx => ?_
  obtain ⟨i, hi, rfl⟩ := List.getElem_of_mem hx
  unfold newB
  have h1 : stO K L[i].id = none := stO_none (h i hi).1
  have h2 := List.count_pos_iff.2 (idsO_mem.2 ⟨L[i], List.getElem_mem hi, rfl⟩ : L[i].id ∈ idsO L)
  have h3 := List.nodup_iff_count.1 hnd L[i].id
  have h4 : (idsO L).count L[i].id = 1 := by omega
  rw [h1, h4]
  rfl
theorem named_at {K : List Tk} {L : List Sp} {n : Int} : namedI K L n = !(decide (plcL (idsK K) n < 0) && decide (plcL (idsO L) n < 0)) := by
  have h1 := plc_ge (l := idsK K) (n := n)
  have h2 := plc_ge (l := idsO L) (n := n)
  rw [Bool.eq_iff_iff, namedI_iff, ← h1, ← h2]
  simp only [Bool.not_eq_true', Bool.and_eq_false_iff, decide_eq_false_iff_not]
  omega
theorem stO_plc {K : List Tk} {n : Int} {q : Nat} (h : plcL (idsK K) n = (q : Int)) : ∃ hq : q < K.length, stO K n = some (K[q]'hq).st := by
  have hm : n ∈ idsK K := plc_ge.1 (by omega)
  obtain ⟨h1, h2, h3⟩ := plc_lt hm
  have e : (idsK K).idxOf n = q := by omega
  rw [e] at h2 h3
  have hl : (idsK K).length = K.length := List.length_map _
  refine ⟨by omega, ?_⟩
  unfold stO
  have h5 : K.find? (fun t => decide (t.sp.id = n)) = some (K[q]'(by omega)) := by
    rw [List.find?_eq_some_iff_getElem]
    have h6 : (K[q]'(by omega)).sp.id = n := by
      rw [List.getElem?_eq_getElem (by omega)] at h3
      have := Option.some.inj h3
      simpa [idsK] using this
    refine ⟨by simp [h6], q, by omega, rfl, fun j hj => ?_⟩
    have h7 : ¬ (K[j]'(by omega)).sp.id = n := fun e2 => by
      have h8 : n ∈ (idsK K).take (j + 1) := by
        rw [List.take_succ_eq_append_getElem (by omega)]
        exact List.mem_append.2 (.inr (List.mem_singleton.2 (by simp [idsK, e2])))
      have h9 := idx_take h8
      omega
    simp [h7]
  rw [h5]
  rfl
theorem first_all {L : List Sp} (h : ∀ x ∈ L, chk x = 0) : firstE L = 0 := firstE_zero.2 h
theorem bq1 {room : Int} {K : List Tk} {L : List Sp} (h0 : L.length ≠ 0) (h1 : firstE L ≠ 0) : bchk room K L = firstE L := by unfold bchk; rw [if_neg h0, if_pos h1]
theorem bq9 {room : Int} {K : List Tk} {L : List Sp} (h0 : L.length ≠ 0) (h1 : firstE L = 0) (h2 : room < (K.length : Int) + L.length) : bchk room K L = 9 := by unfold bchk; rw [if_neg h0, if_neg (by rw [h1]; simp), if_pos h2]
theorem bq6 {room : Int} {K : List Tk} {L : List Sp} (h0 : L.length ≠ 0) (h1 : firstE L = 0) (h2 : ¬ room < (K.length : Int) + L.length) (h3 : L.all (newB K L) = false) : bchk room K L = 6 := by unfold bchk; rw [if_neg h0, if_neg (by rw [h1]; simp), if_neg h2, if_pos h3]
theorem bq7 {room : Int} {K : List Tk} {L : List Sp} (h0 : L.length ≠ 0) (h1 : firstE L = 0) (h2 : ¬ room < (K.length : Int) + L.length) (h3 : L.all (newB K L) = true) (h4 : L.all (namedB K L) = false) : bchk room K L = 7 := by unfold bchk; rw [if_neg h0, if_neg (by rw [h1]; simp), if_neg h2, if_neg (by rw [h3]; simp), if_pos h4]
theorem bq12 {room : Int} {K : List Tk} {L : List Sp} (h0 : L.length ≠ 0) (h1 : firstE L = 0) (h2 : ¬ room < (K.length : Int) + L.length) (h3 : L.all (newB K L) = true) (h4 : L.all (namedB K L) = true) (h5 : L.all (comeB K) = false) : bchk room K L = 12 := by unfold bchk; rw [if_neg h0, if_neg (by rw [h1]; simp), if_neg h2, if_neg (by rw [h3]; simp), if_neg (by rw [h4]; simp), if_pos h5]
theorem bqw {room : Int} {K : List Tk} {L : List Sp} (h0 : L.length ≠ 0) (h1 : firstE L = 0) (h2 : ¬ room < (K.length : Int) + L.length) (h3 : L.all (newB K L) = true) (h4 : L.all (namedB K L) = true) (h5 : L.all (comeB K) = true) : bchk room K L = if wholeB L = false then 8 else 0 := by unfold bchk; rw [if_neg h0, if_neg (by rw [h1]; simp), if_neg h2, if_neg (by rw [h3]; simp), if_neg (by rw [h4]; simp), if_neg (by rw [h5]; simp)]
theorem all_no {α : Type} {p : α → Bool} {l : List α} {k : Nat} (hk : k < l.length) (h : p l[k] = false) : l.all p = false := List.all_eq_false.2 ⟨l[k], List.getElem_mem hk, by rw [h]; simp⟩
theorem all_take {α : Type} {p : α → Bool} {l : List α} {k : Nat} (hk : k < l.length) (h : (l.take k).all p = true) (h2 : p l[k] = true) : (l.take (k + 1)).all p = true := by
  rw [List.take_succ_eq_append_getElem hk, List.all_append, h]
  simp [h2]

set_option maxHeartbeats 32000000 in
set_option maxRecDepth 100000 in
theorem refCheck23_any (room : Int) (vk vl : Value) (K : List Tk) (L : List Sp) (w : World) (hk : RowsAt w 14 csTk vk K) (hl : SpsAt w vl L) (hkl : K.length ≤ 1000) (hll : L.length ≤ 80) (haf : ∀ x ∈ L, x.aft.length ≤ 9223372036854775807) :
    Calls Tryz.prog 30 #[.int .i64 room, vk, vl] w fun e w' => e = .returned (.int .i64 (bchk room K L)) ∧ Below w.heap.size w w' := by
  obtain ⟨r, hr⟩ : ∃ r, bchk room K L = r := ⟨_, rfl⟩
  rw [hr]
  have HR := Lib.hid hr
  obtain ⟨ka, kc, rfl⟩ := RowsAt.form hk
  obtain ⟨la, lc, rfl⟩ := hl.form
  have HK := Lib.hid hk
  have HL := Lib.hid hl
  have HAF := Lib.hid haf
  have GC := Lib.hid fun x w' h1 h2 => refCheck22_any x w' h1 h2
  have GF := Lib.hid fun n w' (hb : Below w.heap.size w w') => refFind23_any (.slice ka K.length kc) K n w' (RowsAt.kept hk hb) (by omega)
  have GP := Lib.hid fun n w' (hb : Below w.heap.size w w') => refSpec23_any (.slice la L.length lc) L n w' (RowsAt.kept hl.1 hb) (by omega)
  have k2 : (K.length : Int) ≤ 1000 := by omega
  have l2 : (L.length : Int) ≤ 80 := by omega
  have kk0 : (0 : Int) ≤ (K.length : Int) := by omega
  have ll0 : (0 : Int) ≤ (L.length : Int) := by omega
  clear hr hk hl hkl haf
  by_cases h0 : L.length = 0
  · have e0 : ((L.length : Int) == 0) = true := by rw [h0]; rfl
    have HF := Lib.hid (show 1 = r by rw [← HR.out]; unfold bchk; rw [if_pos h0])
    clear h0
    go_enter Tryz.func30, Tryz.ntmps30
    go_wp2
    go_ret
    exact ⟨ret_i HF.out, Below.refl _ _⟩
  have e0 : ((L.length : Int) == 0) = false := beq_noI (by omega)
  have H0 := Lib.hid h0
  have HLL := Lib.hid hll
  clear h0 hll
  go_enter Tryz.func30, Tryz.ntmps30
  go_wp2
  go_loopg [7] L.length (fun kx iv ws => ∃ k : Nat, k ≤ L.length ∧ L.length - k ≤ kx ∧ iv = .int .i64 k ∧ Hid (∀ x ∈ L.take k, chk x = 0) ∧ Hid (Below w.heap.size w ws))
  case atStart => exact ⟨0, Nat.zero_le _, Nat.le_refl _, rfl, fun x hx => by simp at hx, Below.refl _ _⟩
  case round =>
    obtain ⟨k, hk, hkx, rfl, HZ, HB⟩ := hrel
    by_cases hlt : k < L.length
    · obtain ⟨g, o, cc, id, prio, sk, ge, fx, fy, tx, ty, a, c, l, he, e, hlc, p0, p1, p2, p3, p4, p5, p6, p7, p8, hi8⟩ := (HL.out.kept HB.out).spot k hlt
      cases e
      have HLT := Lib.hid (And.intro hlt hkx)
      have k0 : (0 : Int) ≤ (k : Int) := by omega
      have k1 : (k : Int) < (L.length : Int) := by omega
      have hxa := HAF.out _ (List.getElem_mem hlt)
      rw [he] at hxa
      have GC1 := GC.out ⟨id, prio, sk, ge, fx, fy, tx, ty, a, c, l⟩ wr hi8 hxa
      dsimp only [spv] at GC1
      have hfa := first_at hlt HZ.out
      have hzn : chk L[k] = 0 → ∀ x ∈ L.take (k + 1), chk x = 0 := fun h x hx => by
        rw [List.take_succ_eq_append_getElem hlt] at hx
        rcases List.mem_append.1 hx with hx | hx
        · exact HZ.out x hx
        · rw [List.mem_singleton.1 hx]; exact h
      rw [he] at hfa hzn
      generalize chk ⟨id, prio, sk, ge, fx, fy, tx, ty, a, c, l⟩ = q at *
      have GC2 := Lib.hid GC1
      have HZN := Lib.hid hzn
      have HFA := Lib.hid hfa
      clear GC1 hzn hfa hxa he hi8 hlc hlt hkx hk
      by_cases hq : q = 0
      · subst hq
        go_wp2_with (go_at_call 46; (with_reducible refine GC2.out.mono ?_); rintro e w1 ⟨rfl, hb⟩; have HB1 := Lib.hid (HB.out.trans (hb.mono HB.out.size)); clear hb)
        go_roundg (L.length - (k + 1))
        case measure => have := HLT.out; omega
        case rel => exact ⟨k + 1, by have := HLT.out; omega, Nat.le_refl _, by go_num, HZN.out trivial, HB1.out⟩
      · have eq0 : (q == 0) = false := beq_noI hq
        have HF := Lib.hid (show q = r by rw [← HR.out, bq1 H0.out (by rw [HFA.out hq]; exact hq), HFA.out hq])
        clear hq
        go_wp2_with (go_at_call 46; (with_reducible refine GC2.out.mono ?_); rintro e w1 ⟨rfl, hb⟩; have HB1 := Lib.hid (HB.out.trans (hb.mono HB.out.size)); clear hb)
        go_ret
        exact ⟨ret_i HF.out, HB1.out⟩
    · have hke : k = L.length := by omega
      subst hke
      have hz := HZ.out
      rw [List.take_length] at hz
      have H1 := Lib.hid (first_all hz)
      have H8 := Lib.hid (fun x hx => chk_len (hz x hx))
      clear hz HZ hlt hk hkx
      by_cases hfull : room < (K.length : Int) + L.length
      · have HF := Lib.hid (show 9 = r by rw [← HR.out, bq9 H0.out H1.out hfull])
        go_wp2
        go_ret
        exact ⟨ret_i HF.out, HB.out⟩
      have H2 := Lib.hid hfull
      go_wp2
      clear hfull
      go_loopg [9] L.length (fun kx iv ws => ∃ k : Nat, k ≤ L.length ∧ L.length - k ≤ kx ∧ iv = .int .i64 k ∧ Hid (∀ i (hi : i < L.length), i < k → L[i].id ∉ idsK K ∧ ¬ plcL (idsO L) L[i].id < (i : Int)) ∧ Hid (Below w.heap.size w ws))
      case atStart => exact ⟨0, Nat.zero_le _, Nat.le_refl _, rfl, fun i hi h => by omega, HB.out⟩
      case round =>
        clear HB
        obtain ⟨k, hk, hkx, rfl, HN, HB⟩ := hrel
        by_cases hlt : k < L.length
        · obtain ⟨g, o, cc, id, prio, sk, ge, fx, fy, tx, ty, a, c, l, he, e, hlc, p0, p1, p2, p3, p4, p5, p6, p7, p8, hi8⟩ := (HL.out.kept HB.out).spot k hlt
          cases e
          have HLT := Lib.hid (And.intro hlt hkx)
          have k0 : (0 : Int) ≤ (k : Int) := by omega
          have k1 : (k : Int) < (L.length : Int) := by omega
          have GF1 := Lib.hid (GF.out id wr HB.out)
          have GP1 := Lib.hid (GP.out id wr HB.out)
          have hno := @new_no K L k hlt
          have hstep : (id ∉ idsK K ∧ ¬ plcL (idsO L) id < (k : Int)) → ∀ i (hi : i < L.length), i < k + 1 → L[i].id ∉ idsK K ∧ ¬ plcL (idsO L) L[i].id < (i : Int) := fun h i hi hik => by
            by_cases e : i = k
            · subst e
              rw [he]
              exact h
            · exact HN.out i hi (by omega)
          rw [he] at hno
          dsimp only at hno
          have hge := plc_ge (l := idsK K) (n := id)
          rw [← hge] at hno hstep
          have hb1 : plcL (idsO L) id ≤ 80 := by
            have := HLL.out
            unfold plcL
            split
            · rename_i hm
              have := List.idxOf_lt_length_iff.2 hm
              rw [idsO_len] at this
              omega
            · omega
          generalize plcL (idsK K) id = u at *
          generalize plcL (idsO L) id = v at *
          have HNO := Lib.hid hno
          have HST := Lib.hid hstep
          clear hno hstep hge he hi8 hlc hlt hkx hk
          by_cases hu : 0 ≤ u
          · have HF := Lib.hid (show 6 = r by rw [← HR.out, bq6 H0.out H1.out (by have := H2.out; omega) (HNO.out (.inl hu))])
            go_wp2_with (first
              | (go_at_call 17; (with_reducible refine GF1.out.mono ?_); rintro e w1 ⟨rfl, rfl⟩))
            go_ret
            exact ⟨ret_i HF.out, HB.out⟩
          · by_cases hv : v < (k : Int)
            · have HF := Lib.hid (show 6 = r by rw [← HR.out, bq6 H0.out H1.out (by have := H2.out; omega) (HNO.out (.inr hv))])
              go_wp2_with (first
                | (go_at_call 17; (with_reducible refine GF1.out.mono ?_); rintro e w1 ⟨rfl, rfl⟩)
                | (go_at_call 47; (with_reducible refine GP1.out.mono ?_); rintro e w1 ⟨rfl, rfl⟩))
              go_ret
              exact ⟨ret_i HF.out, HB.out⟩
            · have HS := Lib.hid (HST.out ⟨hu, hv⟩)
              go_wp2_with (first
                | (go_at_call 17; (with_reducible refine GF1.out.mono ?_); rintro e w1 ⟨rfl, rfl⟩)
                | (go_at_call 47; (with_reducible refine GP1.out.mono ?_); rintro e w1 ⟨rfl, rfl⟩))
              go_roundg (L.length - (k + 1))
              case measure => have := HLT.out; omega
              case rel => exact ⟨k + 1, by have := HLT.out; omega, Nat.le_refl _, by go_num, HS.out, HB.out⟩
        · have hke : k = L.length := by omega
          subst hke
          have H3 := Lib.hid (new_all fun i hi => HN.out i hi hi)
          clear HN hlt hk hkx
          go_wp2
          go_loopg [10] L.length (fun kx iv ws => ∃ k : Nat, k ≤ L.length ∧ L.length - k ≤ kx ∧ iv = .int .i64 k ∧ Hid ((L.take k).all (namedB K L) = true) ∧ Hid (Below w.heap.size w ws))
          case atStart => exact ⟨0, Nat.zero_le _, Nat.le_refl _, rfl, rfl, HB.out⟩
          case round =>
            clear HB
            obtain ⟨k, hk, hkx, rfl, HN, HB⟩ := hrel
            by_cases hlt : k < L.length
            · obtain ⟨g, o, cc, id, prio, sk, ge, fx, fy, tx, ty, a, c, l, he, e, hlc, p0', p1', p2', p3', p4', p5', p6', p7', p8', hi8⟩ := HL.out.spot k hlt
              cases e
              clear p0' p1' p2' p3' p4' p5' p6' p7'
              have HLT := Lib.hid (And.intro hlt hkx)
              have k0 : (0 : Int) ≤ (k : Int) := by omega
              have k1 : (k : Int) < (L.length : Int) := by omega
              have hgl : g < w.heap.size := World.block_lt_of_cell? w ⟨g, o + k * 9 + 8, none⟩ p8'
              have HPC := Lib.hid fun (w' : World) (hb : Below w.heap.size w w') => (hb.cell (p := ⟨g, o + k * 9 + 8, none⟩) hgl).trans p8'
              have HSP := Lib.hid hi8
              have hl8 : l.length ≤ 8 := by have := H8.out _ (List.getElem_mem hlt); rw [he] at this; exact this
              have hps : l.all (namedI K L) = true → (L.take (k + 1)).all (namedB K L) = true := fun h => all_take hlt HN.out (by rw [he]; exact h)
              have hpf : l.all (namedI K L) = false → L.all (namedB K L) = false := fun h => all_no hlt (by rw [he]; exact h)
              have HPS := Lib.hid hps
              have HPFs := Lib.hid hpf
              have l8 : (l.length : Int) ≤ 8 := by omega
              have p8 := HPC.out _ HB.out
              clear hps hpf hi8 he hlc hlt hkx hk hl8 hgl p8'
              go_wp2
              clear p8
              go_loopg [11] l.length (fun jx iv ws => ∃ j : Nat, j ≤ l.length ∧ l.length - j ≤ jx ∧ iv = .int .i64 j ∧ Hid ((l.take j).all (namedI K L) = true) ∧ Hid (Below w.heap.size w ws))
              case atStart => exact ⟨0, Nat.zero_le _, Nat.le_refl _, rfl, rfl, HB.out⟩
              case round =>
                clear HB
                obtain ⟨j, hj, hjx, rfl, HJ, HB⟩ := hrel
                have p8 := HPC.out _ HB.out
                by_cases hjl : j < l.length
                · obtain ⟨g5, o5, c5, e, -, hg5, q0'⟩ := HSP.out.spot j hjl
                  simp only [Value.slice.injEq] at e
                  obtain ⟨rfl, -, rfl⟩ := e
                  have q0 := (HB.out.cell (p := ⟨g5, o5 + j, none⟩) hg5).trans q0'
                  have HJT := Lib.hid (And.intro hjl hjx)
                  have j0 : (0 : Int) ≤ (j : Int) := by omega
                  have j1 : (j : Int) < (l.length : Int) := by omega
                  have hjs : namedI K L (l[j]'hjl) = true → (l.take (j + 1)).all (namedI K L) = true := fun h => all_take hjl HJ.out h
                  have hjf : namedI K L (l[j]'hjl) = false → l.all (namedI K L) = false := fun h => all_no hjl h
                  generalize l[j]'hjl = n at *
                  have GF1 := Lib.hid (GF.out n wr HB.out)
                  have GP1 := Lib.hid (GP.out n wr HB.out)
                  rw [named_at] at hjs hjf
                  generalize plcL (idsK K) n = u at *
                  generalize plcL (idsO L) n = v at *
                  have HJS := Lib.hid hjs
                  have HJF := Lib.hid hjf
                  clear hjs hjf hjl hjx hj q0' hg5
                  by_cases hu : u < 0
                  · by_cases hv : v < 0
                    · have HPF := Lib.hid (HPFs.out (HJF.out (by simp [hu, hv])))
                      have HF := Lib.hid (show 7 = r by rw [← HR.out, bq7 H0.out H1.out (by have := H2.out; omega) H3.out HPF.out])
                      go_wp2_with (first
                        | (go_at_call 17; (with_reducible refine GF1.out.mono ?_); rintro e w1 ⟨rfl, rfl⟩)
                        | (go_at_call 47; (with_reducible refine GP1.out.mono ?_); rintro e w1 ⟨rfl, rfl⟩))
                      go_ret
                      exact ⟨ret_i HF.out, HB.out⟩
                    · have HS := Lib.hid (HJS.out (by simp [hv]))
                      go_wp2_with (first
                        | (go_at_call 17; (with_reducible refine GF1.out.mono ?_); rintro e w1 ⟨rfl, rfl⟩)
                        | (go_at_call 47; (with_reducible refine GP1.out.mono ?_); rintro e w1 ⟨rfl, rfl⟩))
                      go_roundg (l.length - (j + 1))
                      case measure => have := HJT.out; omega
                      case rel => exact ⟨j + 1, by have := HJT.out; omega, Nat.le_refl _, by go_num, HS.out, HB.out⟩
                  · have HS := Lib.hid (HJS.out (by simp [hu]))
                    go_wp2_with (go_at_call 17; (with_reducible refine GF1.out.mono ?_); rintro e w1 ⟨rfl, rfl⟩)
                    go_roundg (l.length - (j + 1))
                    case measure => have := HJT.out; omega
                    case rel => exact ⟨j + 1, by have := HJT.out; omega, Nat.le_refl _, by go_num, HS.out, HB.out⟩
                · have hje : j = l.length := by omega
                  subst hje
                  have hja := HJ.out
                  rw [List.take_length] at hja
                  have HS := Lib.hid (HPS.out hja)
                  clear hja hjl hjx hj HJ
                  go_wp2
                  go_roundg (L.length - (k + 1))
                  case measure => have := HLT.out; omega
                  case rel => exact ⟨k + 1, by have := HLT.out; omega, Nat.le_refl _, by go_num, HS.out, HB.out⟩
            · have hke : k = L.length := by omega
              subst hke
              have hna := HN.out
              rw [List.take_length] at hna
              have H4 := Lib.hid hna
              clear hna HN hlt hk hkx
              go_wp2
              go_loopg [12] L.length (fun kx iv ws => ∃ k : Nat, k ≤ L.length ∧ L.length - k ≤ kx ∧ iv = .int .i64 k ∧ Hid ((L.take k).all (comeB K) = true) ∧ Hid (Below w.heap.size w ws))
              case atStart => exact ⟨0, Nat.zero_le _, Nat.le_refl _, rfl, rfl, HB.out⟩
              case round =>
                clear HB
                obtain ⟨k, hk, hkx, rfl, HN, HB⟩ := hrel
                by_cases hlt : k < L.length
                · obtain ⟨g, o, cc, id, prio, sk, ge, fx, fy, tx, ty, a, c, l, he, e, hlc, p0', p1', p2', p3', p4', p5', p6', p7', p8', hi8⟩ := HL.out.spot k hlt
                  cases e
                  clear p0' p1' p2' p3' p4' p5' p6' p7'
                  have HLT := Lib.hid (And.intro hlt hkx)
                  have k0 : (0 : Int) ≤ (k : Int) := by omega
                  have k1 : (k : Int) < (L.length : Int) := by omega
                  have hgl : g < w.heap.size := World.block_lt_of_cell? w ⟨g, o + k * 9 + 8, none⟩ p8'
                  have HPC := Lib.hid fun (w' : World) (hb : Below w.heap.size w w') => (hb.cell (p := ⟨g, o + k * 9 + 8, none⟩) hgl).trans p8'
                  have HSP := Lib.hid hi8
                  have hl8 : l.length ≤ 8 := by have := H8.out _ (List.getElem_mem hlt); rw [he] at this; exact this
                  have hps : l.all (comeI K) = true → (L.take (k + 1)).all (comeB K) = true := fun h => all_take hlt HN.out (by rw [he]; exact h)
                  have hpf : l.all (comeI K) = false → L.all (comeB K) = false := fun h => all_no hlt (by rw [he]; exact h)
                  have HPS := Lib.hid hps
                  have HPFs := Lib.hid hpf
                  have l8 : (l.length : Int) ≤ 8 := by omega
                  have p8 := HPC.out _ HB.out
                  clear hps hpf hi8 he hlc hlt hkx hk hl8 hgl p8'
                  go_wp2
                  clear p8
                  go_loopg [13] l.length (fun jx iv ws => ∃ j : Nat, j ≤ l.length ∧ l.length - j ≤ jx ∧ iv = .int .i64 j ∧ Hid ((l.take j).all (comeI K) = true) ∧ Hid (Below w.heap.size w ws))
                  case atStart => exact ⟨0, Nat.zero_le _, Nat.le_refl _, rfl, rfl, HB.out⟩
                  case round =>
                    clear HB
                    obtain ⟨j, hj, hjx, rfl, HJ, HB⟩ := hrel
                    have p8 := HPC.out _ HB.out
                    by_cases hjl : j < l.length
                    · obtain ⟨g5, o5, c5, e, -, hg5, q0'⟩ := HSP.out.spot j hjl
                      simp only [Value.slice.injEq] at e
                      obtain ⟨rfl, -, rfl⟩ := e
                      have q0 := (HB.out.cell (p := ⟨g5, o5 + j, none⟩) hg5).trans q0'
                      have HJT := Lib.hid (And.intro hjl hjx)
                      have j0 : (0 : Int) ≤ (j : Int) := by omega
                      have j1 : (j : Int) < (l.length : Int) := by omega
                      have hjs : comeI K (l[j]'hjl) = true → (l.take (j + 1)).all (comeI K) = true := fun h => all_take hjl HJ.out h
                      have hjf : comeI K (l[j]'hjl) = false → l.all (comeI K) = false := fun h => all_no hjl h
                      generalize l[j]'hjl = n at *
                      have GF1 := Lib.hid (GF.out n wr HB.out)
                      have HJS := Lib.hid hjs
                      have HJF := Lib.hid hjf
                      clear hjs hjf hjl hjx hj q0' hg5
                      by_cases hu : 0 ≤ plcL (idsK K) n
                      · obtain ⟨q, hq⟩ : ∃ q : Nat, plcL (idsK K) n = (q : Int) := ⟨(plcL (idsK K) n).toNat, by omega⟩
                        obtain ⟨hqK, hst⟩ := stO_plc hq
                        rw [hq] at GF1
                        obtain ⟨gk, ok, ck, e, -, -, hx⟩ := RowsAt.spot (RowsAt.kept HK.out HB.out) q hqK
                        simp only [Value.slice.injEq] at e
                        obtain ⟨rfl, -, rfl⟩ := e
                        have s9 : wr.cell? ⟨gk, ok + q * 14 + 9, none⟩ = some (.int .i64 (K[q]'hqK).st) := hx 9 _ rfl
                        have q1 : (q : Int) < (K.length : Int) := by omega
                        have q2 : (0 : Int) ≤ (q : Int) := by omega
                        have hci : comeI K n = (!decide ((K[q]'hqK).st = 5) && !decide ((K[q]'hqK).st = 6)) := by unfold comeI; rw [hst]; rfl
                        rw [hci] at HJS HJF
                        generalize (K[q]'hqK).st = s at *
                        clear hx hst hqK hq hu hci
                        by_cases h5 : s = 5
                        · have HPF := Lib.hid (HPFs.out (HJF.out (by simp [h5])))
                          have HF := Lib.hid (show 12 = r by rw [← HR.out, bq12 H0.out H1.out (by have := H2.out; omega) H3.out H4.out HPF.out])
                          subst h5
                          go_wp2_with (go_at_call 17; (with_reducible refine GF1.out.mono ?_); rintro e w1 ⟨rfl, rfl⟩)
                          go_ret
                          exact ⟨ret_i HF.out, HB.out⟩
                        by_cases h6 : s = 6
                        · have HPF := Lib.hid (HPFs.out (HJF.out (by simp [h6])))
                          have HF := Lib.hid (show 12 = r by rw [← HR.out, bq12 H0.out H1.out (by have := H2.out; omega) H3.out H4.out HPF.out])
                          subst h6
                          clear h5
                          go_wp2_with (go_at_call 17; (with_reducible refine GF1.out.mono ?_); rintro e w1 ⟨rfl, rfl⟩)
                          go_ret
                          exact ⟨ret_i HF.out, HB.out⟩
                        have e5 : (s == 5) = false := beq_noI h5
                        have e6 : (s == 6) = false := beq_noI h6
                        have HS := Lib.hid (HJS.out (by simp [h5, h6]))
                        clear h5 h6
                        go_wp2_with (go_at_call 17; (with_reducible refine GF1.out.mono ?_); rintro e w1 ⟨rfl, rfl⟩)
                        go_roundg (l.length - (j + 1))
                        case measure => have := HJT.out; omega
                        case rel => exact ⟨j + 1, by have := HJT.out; omega, Nat.le_refl _, by go_num, HS.out, HB.out⟩
                      · have hno : n ∉ idsK K := fun hm => hu (plc_ge.2 hm)
                        have hci : comeI K n = true := by unfold comeI; rw [stO_none hno]; rfl
                        have HS := Lib.hid (HJS.out hci)
                        generalize plcL (idsK K) n = u at *
                        clear hno hci
                        go_wp2_with (go_at_call 17; (with_reducible refine GF1.out.mono ?_); rintro e w1 ⟨rfl, rfl⟩)
                        go_roundg (l.length - (j + 1))
                        case measure => have := HJT.out; omega
                        case rel => exact ⟨j + 1, by have := HJT.out; omega, Nat.le_refl _, by go_num, HS.out, HB.out⟩
                    · have hje : j = l.length := by omega
                      subst hje
                      have hja := HJ.out
                      rw [List.take_length] at hja
                      have HS := Lib.hid (HPS.out hja)
                      clear hja hjl hjx hj HJ
                      go_wp2
                      go_roundg (L.length - (k + 1))
                      case measure => have := HLT.out; omega
                      case rel => exact ⟨k + 1, by have := HLT.out; omega, Nat.le_refl _, by go_num, HS.out, HB.out⟩
                · have hke : k = L.length := by omega
                  subst hke
                  have hna := HN.out
                  rw [List.take_length] at hna
                  have H5 := Lib.hid hna
                  clear hna HN hlt hk hkx
                  have GO := Lib.hid (refOrder23_any (.slice la L.length lc) L wr (HL.out.kept HB.out) HLL.out H8.out)
                  have HF := Lib.hid (show (if wholeB L = false then 8 else 0) = r by rw [← HR.out, bqw H0.out H1.out (by have := H2.out; omega) H3.out H4.out H5.out])
                  generalize wholeB L = t at *
                  cases t with
                  | false =>
                    go_wp2_with (go_at_call 48; (with_reducible refine GO.out.mono ?_); rintro e w3 ⟨v3, rfl, hb⟩; have HB3 := Lib.hid (HB.out.trans (hb.mono HB.out.size)); clear hb)
                    go_ret
                    exact ⟨ret_i HF.out, HB3.out⟩
                  | true =>
                    go_wp2_with (go_at_call 48; (with_reducible refine GO.out.mono ?_); rintro e w3 ⟨v3, rfl, hb⟩; have HB3 := Lib.hid (HB.out.trans (hb.mono HB.out.size)); clear hb)
                    go_ret
                    exact ⟨ret_i HF.out, HB3.out⟩
end Go.Proofs.YthchkhgimnchcaaGreat
/- Stage 24's program: drop, by goto: what is to do as a list of one's own that loses its first; what is dropped. -/
namespace Go.Proofs.YthchkhgimnchcaaGreat
open Go.RowKit

/-- a list of one's own without its first number, as the model cuts it -/
theorem from24 (a : Option Addr) (n c : Nat) (hk : 1 ≤ n) (hn : n ≤ c) : ∃ a4 c4, (∀ w', (Instr.sliceAt 32 (.slice a n c) (some (.int .i64 1)) none none).run Tryz.prog w' = .ok (.slice a4 (n - 1) c4) w') ∧
    (∀ (w' : World) (l : List Int), l.length = n → OwnO w' 1 csI (.slice a n c) l → OwnO w' 1 csI (.slice a4 (n - 1) c4) (l.drop 1)) ∧ ∀ k, (Value.slice a4 (n - 1) c4).ownBlock = some k → (Value.slice a n c).ownBlock = some k := by
  have h1 : (1 : Int) ≤ (n : Int) := by omega
  by_cases hck : c = 1
  · have hc0 : n = 1 := by omega
    refine ⟨a, 0, fun w' => ?_, fun w' l hl h => ?_, fun k h => by cases a <;> simp [Value.ownBlock] at h ⊢; exact h⟩
    · simp [go_sem, hck, hc0, sliced]
    · have := OwnO.drop h 1 (by omega) csI_len a (fun h => by omega) (fun _ => rfl)
      rwa [hck, Nat.sub_self] at this
  · refine ⟨a.map (fun x => x.add 1), c - 1, fun w' => ?_, fun w' l hl h => ?_, fun k h => ?_⟩
    · simp [go_sem, sliced, h1]
      exact fun h => absurd h hck
    · exact OwnO.drop h 1 (by omega) csI_len _ (fun _ g o e => by subst e; simp [Addr.add]) (fun h => by omega)
    · cases a with
      | none => simp [Value.ownBlock] at h
      | some a => simpa [Value.ownBlock, Addr.add] using h
theorem OwnO.cap {α : Type} {w : World} {K : Nat} {cs : α → List Value} {a : Option Addr} {n c : Nat} {l : List α} (h : OwnO w K cs (.slice a n c) l) : l.length ≤ c := by
  rcases h with ⟨e, rfl⟩ | ⟨g, o, c', e, _, hl, _⟩
  · simp
  · cases e
    exact hl
theorem FpT_sets (p mb : Nat) (T : List Tk) (ids : List Int) (s : Int) (Fm : Int → Nat → Prop) : FpT p mb (setsT T ids s) Fm = FpT p mb T Fm := by
  unfold FpT
  rw [setsT_ids]

theorem setsT_congr (T : List Tk) {ids ids' : List Int} (s : Int) (h : ∀ x, x ∈ ids ↔ x ∈ ids') : setsT T ids s = setsT T ids' s := by
  unfold setsT
  refine List.map_congr_left fun t _ => ?_
  have : inL ids t.sp.id = inL ids' t.sp.id := by rw [Bool.eq_iff_iff, inL_iff, inL_iff]; exact h _
  rw [this]
/-- what a drop has at hand: the store with some dropped, what is to do, what is told -/
structure DrW (w0 w : World) (p mb : Nat) (room : Int) (T1 : List Tk) (nx : Int → List Int) (g : Int → Option Nat) (Fm : Int → Nat → Prop) (S : List Int) (tv dv : Value) (todo D : List Int) : Prop where
  R : DagR w p mb room (setsT T1 S 6) nx g Fm
  td : OwnO w 1 csI tv todo
  dd : OwnI w w0.heap.size dv D
  tb : ∀ k, tv.ownBlock = some k → w0.heap.size ≤ k
  ne : ∀ k, tv.ownBlock = some k → dv.ownBlock ≠ some k
  o : Only (FpT p mb T1 Fm) w0 w
  lt : ∀ k, FpT p mb T1 Fm k → k < w0.heap.size
section
variable {w0 w w' : World} {p mb : Nat} {room : Int} {T1 : List Tk} {nx : Int → List Int} {g : Int → Option Nat} {Fm : Int → Nat → Prop} {S todo D todo' D' : List Int} {tv dv tv' dv' : Value}
theorem DrW.kept (h : DrW w0 w p mb room T1 nx g Fm S tv dv todo D) (hb : Below w.heap.size w w') : DrW w0 w' p mb room T1 nx g Fm S tv dv todo D :=
  ⟨h.R.kept hb, h.td.kept hb, OwnR.kept h.dd hb, h.tb, h.ne, h.o.trans ((Only.of_below hb).mono fun _ h => h), h.lt⟩
theorem DrW.mark (h : DrW w0 w p mb room T1 nx g Fm S tv dv todo D) {x : Int} {b : Nat} (hx : x ∈ idsK T1) (hg : g x = some b) : DrW w0 (w.setCell ⟨b, 9, none⟩ (.int .i64 6)) p mb room T1 nx g Fm (S ++ [x]) tv dv todo D := by
  have hx2 : x ∈ idsK (setsT T1 S 6) := by rw [setsT_ids]; exact hx
  have hb : FpT p mb T1 Fm b := by
    obtain ⟨t, ht, b', a, c, vn, e, h1, h2⟩ := h.R.at hx2
    rw [hg] at h1
    injection h1 with h1
    rw [h1]
    exact .inr (.inr ⟨x, hx, h2.fb⟩)
  have hbl := h.lt b hb
  have h1 := h.R.setSt hx2 hg 6
  rw [setsT_snoc] at h1
  exact ⟨h1, h.td.away _ _ (fun k hk e => by have := h.tb k hk; have e2 : k = b := e; omega), OwnR.away h.dd _ _ (fun e => by have := (World.ownsRow.lt h.dd _ e).1; have : w0.heap.size ≤ b := this; omega), h.tb, h.ne, h.o.set _ _ hb, h.lt⟩
theorem DrW.tell (h : DrW w0 w p mb room T1 nx g Fm S tv dv todo D) (ho : OwnI w' w0.heap.size dv' D') (hq : Only (fun k => dv.ownBlock = some k) w w') (hv : ∀ k, dv'.ownBlock = some k → dv.ownBlock = some k ∨ w.heap.size ≤ k) : DrW w0 w' p mb room T1 nx g Fm S tv dv' todo D' := by
  have hz := h.o.size
  refine ⟨h.R.only hq (fun k hk hf => ?_), h.td.same hq.size (fun k hk => hq.block k (h.td.lt k hk) (h.ne k hk)), ho, h.tb, fun k hk e => ?_, ⟨hq.os.trans h.o.os, hq.tape.trans h.o.tape, hq.output.trans h.o.output, Nat.le_trans hz hq.size, fun k hk hf => ?_⟩, h.lt⟩
  · rw [FpT_sets] at hf
    have := (World.ownsRow.lt h.dd k hk).1
    have := h.lt k hf
    omega
  · rcases hv k e with h1 | h1
    · exact h.ne k hk h1
    · have := h.td.lt k hk
      omega
  · exact (hq.block k (by omega) fun e => by have := (World.ownsRow.lt h.dd k e).1; omega).trans (h.o.block k hk hf)
theorem DrW.more (h : DrW w0 w p mb room T1 nx g Fm S tv dv todo D) (ho : OwnO w' 1 csI tv' todo') (hg : w.grownBy w' tv.ownBlock) (hv : tv'.ownBlock = tv.ownBlock ∨ tv'.ownBlock = some w.heap.size) : DrW w0 w' p mb room T1 nx g Fm S tv' dv todo' D := by
  have hz := h.o.size
  have hq : Only (fun k => tv.ownBlock = some k) w w' := Only.grown hg fun k e => e
  refine ⟨h.R.only hq (fun k hk hf => ?_), ho, OwnR.only23 h.dd hq (fun k hk e => h.ne k e hk), fun k hk => ?_, fun k hk e => ?_, ⟨hq.os.trans h.o.os, hq.tape.trans h.o.tape, hq.output.trans h.o.output, Nat.le_trans hz hq.size, fun k hk hf => ?_⟩, h.lt⟩
  · rw [FpT_sets] at hf
    have := h.tb k hk
    have := h.lt k hf
    omega
  · rcases hv with e | e
    · exact h.tb k (e ▸ hk)
    · rw [hk] at e
      injection e with e
      omega
  · rcases hv with e2 | e2
    · exact h.ne k (e2 ▸ hk) e
    · rw [hk] at e2
      injection e2 with e2
      have := (World.ownsRow.lt h.dd k e).2
      omega
  · exact (hq.block k (by omega) fun e => by have := h.tb k e; omega).trans (h.o.block k hk hf)
theorem DrW.less (h : DrW w0 w p mb room T1 nx g Fm S tv dv todo D) (ho : OwnO w 1 csI tv' todo') (hv : ∀ k, tv'.ownBlock = some k → tv.ownBlock = some k) : DrW w0 w p mb room T1 nx g Fm S tv' dv todo' D :=
  ⟨h.R, ho, h.dd, fun k hk => h.tb k (hv k hk), fun k hk => h.ne k (hv k hk), h.o, h.lt⟩
end

set_option maxHeartbeats 16000000 in
set_option maxRecDepth 100000 in
theorem dDrop_any {p mb : Nat} {room : Int} {T1 : List Tk} {nx : Int → List Int} {g : Int → Option Nat} {Fm : Int → Nat → Prop} (w : World) (hR : DagR w p mb room T1 nx g Fm) (hnx : ∀ n x, x ∈ nx n ↔ Ed T1 n x) (hnd : (idsK T1).Nodup) (h64 : ∀ n ∈ idsK T1, I64 n) (hl : T1.length ≤ 64) (hn64 : ∀ n, (nx n).length ≤ 64)
    (vi : Value) (I : List Int) (hi : IntsAt w vi I) (hil : I.length ≤ 64) (hI : ∀ x ∈ I, x ∈ idsK T1) (H : ∀ x y, x ∈ reachL (idsK T1) (arcsT T1) I → live T1 x = false → Ed T1 x y → y ∈ I ∨ live T1 y = false) :
    Calls Tryz.prog 44 #[ndv p, vi] w fun e w' => ∃ v, e = .returned v ∧ IntsAt w' v (goneT T1 (reachL (idsK T1) (arcsT T1) I)) ∧ (∀ k, v.ownBlock = some k → w.heap.size ≤ k) ∧
      DagR w' p mb room (setsT T1 (goneT T1 (reachL (idsK T1) (arcsT T1) I)) 6) nx g Fm ∧ Only (FpT p mb T1 Fm) w w' := by
  have GC := Lib.hid (cloneI_any vi I w hi (by omega))
  obtain ⟨ai, ci, rfl⟩ := hi.form
  obtain ⟨i0, hi0, hz0, hz1, hz2⟩ := info_parts info_int
  have HR0 := Lib.hid hR
  have HNX := Lib.hid hnx
  have HND := Lib.hid hnd
  have H64 := Lib.hid h64
  have HL := Lib.hid hl
  have HN64 := Lib.hid hn64
  have HH := Lib.hid H
  have HI := Lib.hid hI
  have HIL := Lib.hid hil
  have HLT := Lib.hid hR.lt
  obtain ⟨G, hG⟩ : ∃ G, goneT T1 (reachL (idsK T1) (arcsT T1) I) = G := ⟨_, rfl⟩
  rw [hG]
  have HGE := Lib.hid hG
  clear hR hnx hnd h64 hl hn64 hi hil hI H hG
  go_enter Tryz.func44, Tryz.ntmps44
  go_wp2
  refine wp_scope_goto 0 (fun n a' w' => ∃ (todo D : List Int) (ta da : Option Addr) (tc dc : Nat) (m q : Nat), m = todo.length ∧ q = D.length ∧ n = 70 * (64 - q) + m ∧ DrI T1 nx I todo D ∧ m ≤ 64 * q + 64 ∧ DrW w w' p mb room T1 nx g Fm D (.slice ta m tc) (.slice da q dc) todo D ∧ ∃ u2 u3 u7 u8 u9 u10 u11 u12 u13 u14 u15 u16 u17 u18 u19 u20 u21 u22 u23 u24 u25 u26 u27 u28 u29 u30 u31 u32 u33 u34 u35 u36 u37 u38 u39 u40 u41 u42 u43 u44 u45 u46 u47, a' = { tmps := #[ndv p, .slice ai I.length ci, u2, u3, .slice none 0 0, .slice da q dc, .slice ta m tc, u7, u8, u9, u10, u11, u12, u13, u14, u15, u16, u17, u18, u19, u20, u21, u22, u23, u24, u25, u26, u27, u28, u29, u30, u31, u32, u33, u34, u35, u36, u37, u38, u39, u40, u41, u42, u43, u44, u45, u46, u47], defers := [] }) rfl rfl ?_ ?_
  · rintro n a' w' ⟨todo, D, ta, da, tc, dc, m, q, hm, hq, rfl, hdi, htl, hdw, u2, u3, u7, u8, u9, u10, u11, u12, u13, u14, u15, u16, u17, u18, u19, u20, u21, u22, u23, u24, u25, u26, u27, u28, u29, u30, u31, u32, u33, u34, u35, u36, u37, u38, u39, u40, u41, u42, u43, u44, u45, u46, u47, rfl⟩ K hK
    have HK := Lib.hid hK
    have HD := Lib.hid hdi
    have HW := Lib.hid hdw
    have HTL := Lib.hid (And.intro hm (And.intro hq htl))
    have hqb := hdi.bound
    have hq64 : q ≤ 64 := by have := HL.out; omega
    have m1 : (m : Int) ≤ 10000 := by omega
    have m0 : (0 : Int) ≤ (m : Int) := by omega
    clear hK htl
    cases todo with
    | nil =>
      have e0 : ((m : Int) == 0) = true := by rw [hm]; rfl
      have hfin := hdi.done HNX.out HH.out
      have GS := Lib.hid (sortI_any w' w.heap.size (.slice da q dc) D hdw.dd (by omega))
      have hfin2 := hfin.trans HGE.out
      have hset : setsT T1 G 6 = setsT T1 D 6 := setsT_congr T1 6 fun x => by rw [← hfin2, List.mem_mergeSort]
      have HF := Lib.hid hfin2
      have HSET := Lib.hid hset
      clear hdi hdw hqb hset hm hq hfin hfin2
      go_wp2_with (go_at_call 42; (with_reducible refine GS.out.mono ?_); rintro e w3 ⟨rfl, h3, o3, _⟩; have H3 := Lib.hid h3; have O3 := Lib.hid o3; clear h3 o3)
      simp only [Exit.jump]
      go_ret
      have hdb := fun k (hk : (Value.slice da q dc).ownBlock = some k) => World.ownsRow.lt HW.out.dd k hk
      have hR3 : DagR w3 p mb room (setsT T1 G 6) nx g Fm := by
        rw [HSET.out]
        refine HW.out.R.only O3.out (fun k hk hf => ?_)
        rw [FpT_sets] at hf
        have := (hdb k hk).1
        have := HW.out.lt k hf
        omega
      refine ⟨_, rfl, by rw [← HF.out]; exact H3.out, fun k hk => (hdb k hk).1, hR3, ⟨O3.out.os.trans HW.out.o.os, O3.out.tape.trans HW.out.o.tape, O3.out.output.trans HW.out.o.output, Nat.le_trans HW.out.o.size O3.out.size, fun k hk hf => ?_⟩⟩
      exact (O3.out.block k (Nat.lt_of_lt_of_le hk HW.out.o.size) fun e => by have := (hdb k e).1; omega).trans (HW.out.o.block k hk hf)
    | cons x rest =>
      rw [List.length_cons] at hm
      have hx := reach_sub (hdi.tin x List.mem_cons_self)
      have hx2 : x ∈ idsK (setsT T1 D 6) := by rw [setsT_ids]; exact hx
      obtain ⟨t, ht, b, a, c, vn, hid, hg, hN⟩ := hdw.R.at hx2
      have hst : sgT (setsT T1 D 6) x = t.st := by rw [← hid]; exact sg_at (by rw [setsT_ids]; exact HND.out) ht
      have hen := sets_ended (D := D) hx
      rw [hst] at hen
      obtain ⟨a4, c4, hsl, hrest, hob⟩ := from24 ta m tc (by omega) (by have := OwnO.cap hdw.td; rw [List.length_cons] at this; omega)
      obtain ⟨g0, o0, cc, e, -, -, q0⟩ := (RowsAt.ints (OwnO.rows csI_len hdw.td)).spot 0 (by simp)
      simp only [Value.slice.injEq] at e
      obtain ⟨rfl, -, rfl⟩ := e
      simp only [List.getElem_cons_zero, Nat.add_zero] at q0
      have HR4 := Lib.hid (And.intro hrest hob)
      have c1 := hdw.R.box.cell 1 rfl
      have c9 := hN.blk.cell 9 rfl
      have HLK := Lib.hid fun (w2 : World) (hb : Below w'.heap.size w' w2) => (show (Instr.lookup 56 (.map (some mb)) (.int .i64 x) false).run Tryz.prog w2 = .ok (ndv b) w2 from by
        have := (hdw.R.map.kept hb).look1 (H64.out x hx)
        rwa [hg] at this)
      have HC9 := Lib.hid fun (w2 : World) (hb : Below w'.heap.size w' w2) => dHas_any b t.st w2 ((hN.blk.kept hb).cell 9 rfl)
      have m2 : (1 : Int) ≤ (m : Int) := by omega
      have e0 : ((m : Int) == 0) = false := beq_noI (by omega)
      have HNB := Lib.hid fun (w2 : World) (hb : Below w'.heap.size w' w2) => (show Blk w2 b (csNd t.sp t.st a c vn) from hN.blk.kept hb)
      have HIDX := Lib.hid hid
      have HX := Lib.hid hx
      have HG := Lib.hid hg
      have HEN := Lib.hid hen
      have HMR := Lib.hid hm
      clear hdi hdw hqb hm hq hx hx2 ht hid hg hN hst hen hrest hob
      go_upto_region 6 with fail
      refine wp_region_calm0 (by kernel_rfl) (by kernel_rfl) fun M => ?_
      have f1 := fun n : In M.w => n.cell (M.cell c1)
      have f2 := fun n : In M.w => n.cell (M.cell q0)
      have f3 := fun n : In M.w => HLK.out n.w (M.h.trans (n.h.mono M.h.size))
      repeat (go_big_quiet_step (fail))
      refine wpQuiet_nil ?_
      clear f1 f2 f3 M
      intro w2 hb2
      have GH := Lib.hid (HC9.out _ hb2)
      have hNB := HNB.out _ hb2
      have d0 := hNB.cell 0 rfl
      have d9 := hNB.cell 9 rfl
      have f9 := hNB.free 9 rfl
      have HN2 := Lib.hid hNB
      rw [HIDX.out] at d0
      have HW2 := Lib.hid (HW.out.kept hb2)
      clear hb2 c1 q0 c9 HC9 HLK HW HNB hNB
      generalize t.st = s at *
      generalize endS s = β at *
      cases β with
      | true =>
        go_wp2_with (go_at_call 43; (with_reducible refine GH.out.mono ?_); rintro e w3 ⟨rfl, rfl⟩)
        go_step3
        exact ⟨rfl, HK.out (70 * (64 - q) + (m - 1)) _ _ (by omega) ⟨rest, D, a4, da, c4, dc, m - 1, q, by have := HMR.out; omega, HTL.out.2.1, rfl, HD.out.skip (HEN.out.1 trivial), by have := HTL.out.2.2; omega, HW2.out.less (HR4.out.1 _ _ HTL.out.1.symm HW2.out.td) HR4.out.2, _, _, _, _, _, _, _, _, _, _, _, _, _, _, _, _, _, _, _, _, _, _, _, _, _, _, _, _, _, _, _, _, _, _, _, _, _, _, _, _, _, _, _,  rfl⟩⟩
      | false =>
        have h1 : ¬ (x ∈ D ∨ live T1 x = false) := fun h => by have := HEN.out.2 h; cases this
        have HTK := Lib.hid (HD.out.take HNX.out (fun h => h1 (.inl h)) (by cases e : live T1 x with
          | true => rfl
          | false => exact absurd (.inr e) h1))
        have HWL := Lib.hid (HW2.out.less (todo' := rest) (HR4.out.1 _ _ HTL.out.1.symm HW2.out.td) HR4.out.2)
        clear h1 HW2
        go_upto_region 10 with (go_at_call 43; (with_reducible refine GH.out.mono ?_); rintro e w3 ⟨rfl, rfl⟩)
        have HW3 := Lib.hid (HWL.out.mark HX.out HG.out)
        have e0' := (HN2.out.set 9 (.int .i64 6)).cell 0 rfl
        rw [HIDX.out] at e0'
        clear d0 d9 f9 HWL HN2
        generalize w2.setCell ⟨b, 9, none⟩ (.int .i64 6) = w3 at *
        go_upto_region 11 with (at_builtin; refine appI23 x HW3.out.dd (HW3.out.o.size) (by have := HTL.out.2.1; omega) rfl _ _ rfl rfl rfl ?_; intro v6 w6 o6 b6 q6 n6; obtain ⟨a6, c6, e⟩ := (OwnI.ints o6).form; rw [List.length_append, List.length_singleton, ← HTL.out.2.1] at e; subst e; have HW6 := Lib.hid (HW3.out.tell o6 q6 n6); clear o6 b6 q6 n6 e0')
        obtain ⟨t3, ht3, b3, a3, c3, vn3, hid3, hg3, hN3⟩ := HW6.out.R.at (show x ∈ idsK (setsT T1 (D ++ [x]) 6) by rw [setsT_ids]; exact HX.out)
        rw [HG.out] at hg3
        injection hg3 with hg3
        subst hg3
        have d14 := hN3.blk.cell 14 rfl
        have HNL := Lib.hid (OwnI.ints hN3.nxt)
        have hnl := HN64.out x
        have HNLL := Lib.hid hnl
        clear ht3 hid3 hN3 HW3 hnl
        go_wp2_with (at_builtin; refine wpList_append_o rfl _ _ _ _ rfl csI_len (by decide) csI_one13 3 3 i0 (.int .i64 0) Tryz.underlying32 Tryz.underlying32 hi0 hz0 hz1 rfl rfl HW6.out.td _ (nx x) rfl (IntsAt.rows HNL.out) (by have := HNLL.out; have := HMR.out; unfold maxLen; omega) (by have := HNLL.out; have := HMR.out; rw [hz2]; omega) ?_; intro v7 w7 h1 h2 h3; obtain ⟨a7, c7, e⟩ := h1.form; rw [List.length_append] at e; obtain ⟨m7, hm7⟩ : ∃ m7, m7 = rest.length + (nx x).length := ⟨_, rfl⟩; rw [← hm7] at e; subst e; have HW7 := Lib.hid (HW6.out.more h1 h2 h3); have HM7 := Lib.hid hm7; clear h1 h2 h3 hm7 d14)
        go_step3
        have hbd := HTK.out.bound
        rw [List.length_append, List.length_singleton] at hbd
        exact ⟨rfl, HK.out (70 * (64 - (q + 1)) + m7) _ _ (by have := HTL.out; have := HNLL.out; have := HL.out; have := HMR.out; have := HM7.out; omega) ⟨rest ++ nx x, D ++ [x], a7, a6, c7, c6, m7, q + 1, by rw [List.length_append]; exact HM7.out, by rw [List.length_append, List.length_singleton, HTL.out.2.1], rfl, HTK.out, by have := HTL.out; have := HNLL.out; have := HMR.out; have := HM7.out; omega, HW7.out, _, _, _, _, _, _, _, _, _, _, _, _, _, _, _, _, _, _, _, _, _, _, _, _, _, _, _, _, _, _, _, _, _, _, _, _, _, _, _, _, _, _, _,  rfl⟩⟩
  · intro K hpass
    go_wp2_with (go_at_call 51; (with_reducible refine GC.out.mono ?_); rintro e w1 ⟨v1, rfl, ho, hb⟩; obtain ⟨a1, c1, e⟩ := (OwnI.ints ho).form; subst e; have HO := Lib.hid ho; have HB := Lib.hid hb; clear ho hb)
    go_step3
    rename_i hback
    refine hback _ _ (hpass (70 * (64 - 0) + I.length) _ _ ⟨I, [], a1, none, c1, 0, I.length, 0, rfl, rfl, rfl, DrI.start HI.out, by have := HIL.out; omega, ⟨?_, OwnR.own HO.out, OwnR.nil _ _ _ _ _, fun k hk => (World.ownsRow.lt HO.out k hk).1, fun k _ e => by simp [Value.ownBlock] at e, (Only.of_below HB.out).mono fun _ h => h, HLT.out⟩, _, _, _, _, _, _, _, _, _, _, _, _, _, _, _, _, _, _, _, _, _, _, _, _, _, _, _, _, _, _, _, _, _, _, _, _, _, _, _, _, _, _, _,  rfl⟩)
    rw [setsT_nil]
    exact HR0.out.kept HB.out
end Go.Proofs.YthchkhgimnchcaaGreat
/- Stage 24's program: Fail, Cancel, Done. -/
namespace Go.Proofs.YthchkhgimnchcaaGreat
open Go.RowKit

/-- what an end tells: the tasks, the IDs, the error -/
def endDg (T : List Tk) (id how : Int) : List Tk × List Int × Int :=
  if id ∈ idsK T then
    if (how < 3 ∧ sgT T id ≠ 2) ∨ endS (sgT T id) = true then (T, [], 12)
    else if how = 1 then ((doneDg T id).1, (doneDg T id).2, 0) else if how = 2 then ((failDg T id).1, (failDg T id).2, 0) else ((cancDg T id).1, (cancDg T id).2, 0)
  else (T, [], 7)
theorem endDg_no {T : List Tk} {id how : Int} (h : id ∉ idsK T) : endDg T id how = (T, [], 7) := if_neg h
theorem endDg_st {T : List Tk} {id how : Int} (h : id ∈ idsK T) (h2 : (how < 3 ∧ sgT T id ≠ 2) ∨ endS (sgT T id) = true) : endDg T id how = (T, [], 12) := by unfold endDg; rw [if_pos h, if_pos h2]
theorem endDg_1 {T : List Tk} {id : Int} (h : id ∈ idsK T) (h2 : sgT T id = 2) : endDg T id 1 = ((doneDg T id).1, (doneDg T id).2, 0) := by
  unfold endDg
  rw [if_pos h, if_neg (by rw [h2]; simp [endS]), if_pos rfl]
theorem endDg_2 {T : List Tk} {id : Int} (h : id ∈ idsK T) (h2 : sgT T id = 2) : endDg T id 2 = ((failDg T id).1, (failDg T id).2, 0) := by
  unfold endDg
  rw [if_pos h, if_neg (by rw [h2]; simp [endS]), if_neg (by omega), if_pos rfl]
theorem endDg_3 {T : List Tk} {id : Int} (h : id ∈ idsK T) (h2 : endS (sgT T id) = false) : endDg T id 3 = ((cancDg T id).1, (cancDg T id).2, 0) := by
  unfold endDg
  rw [if_pos h, if_neg (by rw [h2]; simp), if_neg (by omega), if_neg (by omega)]
section
variable {F : Nat → Prop} {p mb : Nat} {room : Int} {T : List Tk} {nx : Int → List Int} {g : Int → Option Nat} {Fm : Int → Nat → Prop}
/-- what an end hands back -/
def EndsDg (F : Nat → Prop) (w : World) (p mb : Nat) (room : Int) (nx : Int → List Int) (g : Int → Option Nat) (Fm : Int → Nat → Prop) (r : List Tk × List Int × Int) (e : Ending) (w' : World) : Prop :=
  ∃ v, e = .returned (.tuple #[v, .int .i64 r.2.2]) ∧ IntsAt w' v r.2.1 ∧ (∀ k, v.ownBlock = some k → w.heap.size ≤ k) ∧ DagP F w' p mb room r.1 nx g Fm ∧ Only F w w'
theorem EndsDg.not {w : World} (h : DagP F w p mb room T nx g Fm) (c : Int) : EndsDg F w p mb room nx g Fm (T, [], c) (.returned (.tuple #[.slice none 0 0, .int .i64 c])) w :=
  ⟨_, rfl, IntsAt.nil w, fun k hk => by simp [Value.ownBlock] at hk, h, Only.refl _ _⟩

set_option maxHeartbeats 4000000 in
set_option maxRecDepth 100000 in
theorem dFail_any (w : World) (h : DagP F w p mb room T nx g Fm) (id : Int) (hi : I64 id) :
    Calls Tryz.prog 23 #[ndv p, .int .i64 id] w (EndsDg F w p mb room nx g Fm (endDg T id 2)) := by
  have GF0 := dFind_any w h id hi
  by_cases hn : id ∈ idsK T
  · obtain ⟨t, ht, b, a, c, vn, hid, hg, hN⟩ := h.R.at hn
    have hst : sgT T id = t.st := by rw [← hid]; exact sg_at h.wf.nodup ht
    have c9 := hN.blk.cell 9 rfl
    have f9 := hN.blk.free 9 rfl
    rw [hg] at GF0
    dsimp only [pv, Option.map] at GF0
    have GF := Lib.hid GF0
    have GM := Lib.hid (dMay_any b t.st w c9)
    by_cases h2 : t.st = 2
    · rw [endDg_2 hn (hst.trans h2)]
      rw [if_pos h2] at GM
      have h2' := hst.trans h2
      have hR1 := h.R.setSt hn hg 5
      have hN1 : NxOk (setsT T [id] 5) nx := h.N.sets _ _
      have hT1 := h.wf.weak.re (setsT_sp T [id] 5)
      have hI := h.N.1 id
      have hnx64 := h.nx64
      have hlen : (setsT T [id] 5).length ≤ 64 := by rw [setsT_len]; have := h.fit; have := h.room64; omega
      have hb : F b := (h.fp b).2 (.inr (.inr ⟨id, hn, hN.fb⟩))
      have hN5 := hN.setSt 5
      have d14 := hN5.blk.cell 14 rfl
      have GD := dDrop_any _ hR1 hN1.1 hT1.nodup hT1.id64 hlen hnx64 vn (nx id) (OwnI.ints hN5.nxt) (hnx64 id) (fun x hx => by rw [setsT_ids]; exact Ed_ids ((hI x).1 hx)) (h.wf.failH h2' hI)
      have hsame := fail_same (T := T) (id := id) hI
      have hw5 := h.wf.fail h2'
      have hsp5 : (failDg T id).1.map Tk.sp = T.map Tk.sp := (setsT_sp (setsT T [id] 5) _ 6).trans (setsT_sp T [id] 5)
      have hp5 : Pl (failDg T id).1 := (h.pl.sets [id] 5).sets _ 6
      rw [hsame] at GD
      have e1 : (setsT (setsT T [id] 5) (goneT (setsT T [id] 5) (behindT T id)) 6) = (failDg T id).1 := rfl
      have e2 : goneT (setsT T [id] 5) (behindT T id) = (failDg T id).2 := rfl
      rw [e1, e2, FpT_sets] at GD
      generalize (failDg T id).1 = T5 at *
      generalize (failDg T id).2 = G5 at *
      have HD := Lib.hid GD
      have HFp := Lib.hid h.fp
      have HO := Lib.hid ((Only.refl F w).set ⟨b, 9, none⟩ (.int .i64 5) hb)
      have HRe := Lib.hid fun w' (hR : DagR w' p mb room T5 nx g Fm) => h.re hR hsp5 hw5 hp5
      have HSZ := Lib.hid (show (w.setCell ⟨b, 9, none⟩ (.int .i64 5)).heap.size = w.heap.size from size_set _ _ _)
      rw [h2] at c9
      clear h GF0 hn ht hid hg hN hst h2 h2' hR1 hN1 hT1 hI hnx64 hlen hb hN5 GD hsame hw5 hsp5 hp5 e1 e2 hi
      go_enter Tryz.func23, Tryz.ntmps23
      go_wp2_with (first
        | (go_at_call 38; (with_reducible refine GF.out.mono ?_); rintro e w1 ⟨rfl, rfl⟩)
        | (go_at_call 41; (with_reducible refine GM.out.mono ?_); rintro e w1 ⟨rfl, rfl⟩)
        | (go_at_call 44; (with_reducible refine HD.out.mono ?_); rintro e w1 ⟨v, rfl, q1, q2, q3, q4⟩; have Q1 := Lib.hid q1; have Q2 := Lib.hid q2; have Q3 := Lib.hid q3; have Q4 := Lib.hid q4; clear q1 q2 q3 q4))
      refine bodyPost_ret (v := .tuple #[v, .int .i64 0]) (by simp [results, Tryz.results23, go_sem]) rfl ⟨_, rfl, Q1.out, fun k hk => ?_, HRe.out _ Q3.out, HO.out.trans (Q4.out.mono fun k hk => (HFp.out k).2 hk)⟩
      have := Q2.out k hk
      rwa [HSZ.out] at this
    · rw [endDg_st hn (.inl ⟨by omega, by rw [hst]; exact h2⟩)]
      rw [if_neg h2] at GM
      have HE := Lib.hid (EndsDg.not h 12)
      clear h GF0 hn ht hid hg hN hst c9 f9 h2 hi
      go_enter Tryz.func23, Tryz.ntmps23
      go_wp2_with (first
        | (go_at_call 38; (with_reducible refine GF.out.mono ?_); rintro e w1 ⟨rfl, rfl⟩)
        | (go_at_call 41; (with_reducible refine GM.out.mono ?_); rintro e w1 ⟨rfl, rfl⟩))
      exact bodyPost_ret (v := .tuple #[.slice none 0 0, .int .i64 12]) (by simp [results, Tryz.results23, go_sem]) rfl HE.out
  · rw [endDg_no hn]
    rw [h.R.no hn] at GF0
    dsimp only [pv, Option.map] at GF0
    have GF := Lib.hid GF0
    have GM := Lib.hid (dMay_nil w)
    have HE := Lib.hid (EndsDg.not h 7)
    clear h GF0 hn hi
    go_enter Tryz.func23, Tryz.ntmps23
    go_wp2_with (first
      | (go_at_call 38; (with_reducible refine GF.out.mono ?_); rintro e w1 ⟨rfl, rfl⟩)
      | (go_at_call 41; (with_reducible refine GM.out.mono ?_); rintro e w1 ⟨rfl, rfl⟩))
    exact bodyPost_ret (v := .tuple #[.slice none 0 0, .int .i64 7]) (by simp [results, Tryz.results23, go_sem]) rfl HE.out
set_option maxHeartbeats 4000000 in
set_option maxRecDepth 100000 in
theorem dCancel_any (w : World) (h : DagP F w p mb room T nx g Fm) (id : Int) (hi : I64 id) :
    Calls Tryz.prog 22 #[ndv p, .int .i64 id] w (EndsDg F w p mb room nx g Fm (endDg T id 3)) := by
  have GF0 := dFind_any w h id hi
  by_cases hn : id ∈ idsK T
  · obtain ⟨t, ht, b, a, c, vn, hid, hg, hN⟩ := h.R.at hn
    have hst : sgT T id = t.st := by rw [← hid]; exact sg_at h.wf.nodup ht
    have c9 := hN.blk.cell 9 rfl
    rw [hg] at GF0
    dsimp only [pv, Option.map] at GF0
    have GF := Lib.hid GF0
    have GM0 := dHas_any b t.st w c9
    by_cases h2 : endS t.st = true
    · rw [endDg_st hn (.inr (by rw [hst]; exact h2))]
      rw [h2] at GM0
      have GM := Lib.hid GM0
      have HE := Lib.hid (EndsDg.not h 12)
      clear h GF0 GM0 hn ht hid hg hN hst c9 h2 hi
      go_enter Tryz.func22, Tryz.ntmps22
      go_wp2_with (first
        | (go_at_call 38; (with_reducible refine GF.out.mono ?_); rintro e w1 ⟨rfl, rfl⟩)
        | (go_at_call 43; (with_reducible refine GM.out.mono ?_); rintro e w1 ⟨rfl, rfl⟩))
      exact bodyPost_ret (v := .tuple #[.slice none 0 0, .int .i64 12]) (by simp [results, Tryz.results22, go_sem]) rfl HE.out
    · have h2 : endS t.st = false := by simpa using h2
      have h2' : endS (sgT T id) = false := by rw [hst]; exact h2
      rw [endDg_3 hn h2']
      rw [h2] at GM0
      have GM := Lib.hid GM0
      have hT1 := h.wf.weak
      have hnx64 := h.nx64
      have hlen : T.length ≤ 64 := by have := h.fit; have := h.room64; omega
      have hal := (Below.refl w.heap.size w).alloc (Nat.le_refl _) (.cells #[.int .i64 id] 3)
      have GD := dDrop_any (w.alloc (.cells #[.int .i64 id] 3)) (h.R.kept hal) h.N.1 hT1.nodup hT1.id64 hlen hnx64 (.slice (some ⟨w.heap.size, 0, none⟩) 1 1) [id] (RowsAt.ints (oneI13 w id)) (by simp) (fun x hx => by rw [List.mem_singleton.1 hx]; exact hn) (h.wf.cancH h2')
      have hw5 := h.wf.cancel (id := id)
      have hsp5 : (cancDg T id).1.map Tk.sp = T.map Tk.sp := setsT_sp T _ 6
      have hp5 : Pl (cancDg T id).1 := h.pl.sets _ 6
      rw [canc_same hn] at GD
      have e1 : setsT T (goneT T (setL (id :: behindT T id))) 6 = (cancDg T id).1 := rfl
      have e2 : goneT T (setL (id :: behindT T id)) = (cancDg T id).2 := rfl
      rw [e1, e2] at GD
      generalize (cancDg T id).1 = T5 at *
      generalize (cancDg T id).2 = G5 at *
      have HD := Lib.hid GD
      have HFp := Lib.hid h.fp
      have HO := Lib.hid ((Only.of_below hal).mono fun _ h => h : Only F w (w.alloc (.cells #[.int .i64 id] 3)))
      have HRe := Lib.hid fun w' (hR : DagR w' p mb room T5 nx g Fm) => h.re hR hsp5 hw5 hp5
      have HSZ := Lib.hid hal.size
      clear h GF0 GM0 hn ht hid hg hN hst h2 h2' hT1 hnx64 hlen GD hw5 hsp5 hp5 e1 e2 hi hal c9
      go_enter Tryz.func22, Tryz.ntmps22
      go_wp2_with (first
        | (go_at_call 38; (with_reducible refine GF.out.mono ?_); rintro e w1 ⟨rfl, rfl⟩)
        | (go_at_call 43; (with_reducible refine GM.out.mono ?_); rintro e w1 ⟨rfl, rfl⟩)
        | (go_at_call 44; (with_reducible refine HD.out.mono ?_); rintro e w1 ⟨v, rfl, q1, q2, q3, q4⟩; have Q1 := Lib.hid q1; have Q2 := Lib.hid q2; have Q3 := Lib.hid q3; have Q4 := Lib.hid q4; clear q1 q2 q3 q4))
      exact bodyPost_ret (v := .tuple #[v, .int .i64 0]) (by simp [results, Tryz.results22, go_sem]) rfl ⟨_, rfl, Q1.out, fun k hk => Nat.le_trans HSZ.out (Q2.out k hk), HRe.out _ Q3.out, HO.out.trans (Q4.out.mono fun k hk => (HFp.out k).2 hk)⟩
  · rw [endDg_no hn]
    rw [h.R.no hn] at GF0
    dsimp only [pv, Option.map] at GF0
    have GF := Lib.hid GF0
    have HE := Lib.hid (EndsDg.not h 7)
    clear h GF0 hn hi
    go_enter Tryz.func22, Tryz.ntmps22
    go_wp2_with (go_at_call 38; (with_reducible refine GF.out.mono ?_); rintro e w1 ⟨rfl, rfl⟩)
    exact bodyPost_ret (v := .tuple #[.slice none 0 0, .int .i64 7]) (by simp [results, Tryz.results22, go_sem]) rfl HE.out
end
end Go.Proofs.YthchkhgimnchcaaGreat
