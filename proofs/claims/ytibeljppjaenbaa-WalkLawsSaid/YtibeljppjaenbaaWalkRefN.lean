/- The walks of the document's answers for layer 5: Short. -/
import Derived.Test.YtibeljppjaenbaaWalkRefM
namespace Go.Proofs.Ytibeljppjaenbaa
open Go.RowKit
attribute [local go_sem ↓] Go.wp_at_zero Go.wp_at_succ

def tot (l : List P2) : Nat := (l.map fun x => x.1.natAbs).sum
theorem tot_cons (x : P2) (l : List P2) : tot (x :: l) = x.1.natAbs + tot l := by simp [tot]
theorem tot_mem {l : List P2} {x : P2} (h : x ∈ l) : x.1.natAbs ≤ tot l := by
  induction l with
  | nil => cases h
  | cons y l ih =>
    rw [tot_cons]
    rcases List.mem_cons.1 h with rfl | h
    · omega
    · have := ih h; omega
theorem mrg_tot {l l' : List P2} (h : mrg1 l = some l') : tot l' ≤ tot l := by
  induction l generalizing l' with
  | nil => simp [mrg1] at h
  | cons x l ih =>
    cases l with
    | nil =>
      unfold mrg1 at h
      split at h
      · cases h; simp [tot]
      · cases h
    | cons y l =>
      unfold mrg1 at h
      split at h
      · cases h; rw [tot_cons x]; omega
      · split at h
        · cases h
          rw [tot_cons, tot_cons, tot_cons]
          have := Int.natAbs_add_le x.1 y.1
          unfold comb
          simp only
          omega
        · cases hm : mrg1 (y :: l) with
          | none => rw [hm] at h; cases h
          | some t =>
            rw [hm] at h
            cases h
            have := ih hm
            rw [tot_cons, tot_cons]
            omega
theorem pln_gd (m : Int × Int) : Gd (pln m) := by
  have := cnt_bd m
  unfold pln
  split
  · exact ⟨.inl rfl, by simp only; omega, by simp only; omega⟩
  · split
    · exact ⟨.inl rfl, by simp only; omega, by simp only; omega⟩
    · split
      · exact ⟨.inr rfl, by simp only; omega, by simp only; omega⟩
      · split
        · exact ⟨.inr rfl, by simp only; omega, by simp only; omega⟩
        · exact ⟨.inl rfl, by simp only; omega, by simp only; omega⟩
theorem own_next {wr wq w w1 : World} {B : Nat} {e : TypeId} {v v' : Value} {l : List (Int × Int)} {x y : Int} {n : Nat} (hown : OwnP wr B e v l) (hn : l.length = n) (hB : Below B w wq) (hz : B ≤ wq.heap.size)
    (h1 : w1.ownsRow B e 2 v' (n + 1) (flat l ++ [.int .i64 x, .int .i64 y])) (h2 : wq.grownBy w1 v.ownBlock) : OwnP w1 B e v' (l ++ [(x, y)]) ∧ Below B w w1 := by
  refine ⟨?_, hown.below hB hz h2⟩
  unfold OwnP
  rw [List.length_append, flat_append, hn]
  exact h1
theorem pln_abs (m : Int × Int) : (pln m).1.natAbs ≤ 1048576 := by
  have := cnt_bd m
  unfold pln
  split
  · simp only; omega
  · split
    · simp only; omega
    · split
      · simp
      · split <;> simp
theorem tot_pln (l : List (Int × Int)) : tot (l.map pln) ≤ l.length * 1048576 := by
  induction l with
  | nil => simp [tot]
  | cons m l ih =>
    rw [List.map_cons, tot_cons, List.length_cons, Nat.add_mul]
    have := pln_abs m
    omega
/-- what stands when nothing is to be done -/
def nrm (l : List (Int × Int)) : List P2 := (nfs (l.map pln)).reverse
/-- the length of a list of values, and whether more is to be done -/
def mleft (v m : Value) : Nat := (match v with | .slice _ n _ => n | _ => 0) + (match m with | .bool true => 1 | _ => 0)
def big (x : P2) : Prop := 1048576 < x.1 ∨ x.1 < -1048576
instance (x : P2) : Decidable (big x) := by unfold big; infer_instance
def outs (l : List P2) : List (Int × Int) := l.flatMap fun x => one1 x.1 x.2
def srt (l : List (Int × Int)) : List (Int × Int) × Int := if ∃ x ∈ nrm l, big x then ([], 15) else (outs (nrm l), 0)
theorem outs_succ (l : List P2) (k : Nat) (h : k < l.length) : outs (l.take (k + 1)) = outs (l.take k) ++ one1 l[k].1 l[k].2 := by
  unfold outs
  rw [List.take_add_one, List.getElem?_eq_getElem h, List.flatMap_append]
  simp
theorem one1_one {x : P2} (hx : Gd x) (h0 : x ≠ (0, 0)) : ∃ m, one1 x.1 x.2 = [m] := by
  obtain ⟨a, b⟩ := x
  obtain ⟨g1, g2, g3⟩ := hx
  simp only at *
  unfold one1
  by_cases h1 : 0 < a
  · rw [if_pos h1]; exact ⟨_, rfl⟩
  · rw [if_neg h1]
    by_cases h2 : a < 0
    · rw [if_pos h2]; exact ⟨_, rfl⟩
    · rw [if_neg h2]
      by_cases h3 : b = 3
      · rw [if_pos h3]; exact ⟨_, rfl⟩
      · rw [if_neg h3]
        have h4 : 0 < b := by
          have : b ≠ 0 := fun e => h0 (by rw [e, show a = 0 by omega])
          omega
        rw [if_pos h4]; exact ⟨_, rfl⟩
theorem Alt.mem {l : List P2} (h : Alt l) {x : P2} (hx : x ∈ l) : Gd x ∧ x ≠ (0, 0) := by
  induction l with
  | nil => cases hx
  | cons y l ih =>
    rcases List.mem_cons.1 hx with rfl | hx
    · exact h.head
    · exact ih h.tail hx

theorem keep_call {w3 q w1 : World} (h : Below w3.heap.size w3 q) (hb : Below q.heap.size q w1) : Below w3.heap.size w3 w1 := h.trans (hb.mono h.size)
theorem own_drew {wr w1 : World} {B : Nat} {e : TypeId} {v : Value} {l : List (Int × Int)} (h : OwnP wr B e v l) (hb : Below wr.drew.heap.size wr.drew w1) : OwnP w1 B e v l := (h.kept (below_drewN (Below.refl _ wr) 1)).kept hb

set_option maxHeartbeats 8000000 in
set_option maxRecDepth 100000 in
set_option maxRecDepth 100000 in
theorem refShort_any (va : Value) (l : List (Int × Int)) (w : World) (ha : PairsAt w va l) (hl : l.length ≤ 1000) :
    Calls Try.prog 20 #[va] w fun e w' => ∃ v, e = .returned (.tuple #[v, .int .i64 (srt l).2]) ∧ PairsAt w' v (srt l).1 ∧ Below w.heap.size w w' := by
  obtain ⟨i0, hi, hz0, hz1, hz2⟩ := info_parts info_pair
  obtain ⟨j0, ji, jz0, jz1, jz2⟩ := info_parts info_move
  obtain ⟨a, ca, rfl, hca, ha⟩ := ha
  obtain ⟨LP, hLP⟩ : ∃ LP, l.map pln = LP := ⟨_, rfl⟩
  have hLl : LP.length = l.length := by rw [← hLP, List.length_map]
  have HLP := Lib.hid hLP
  have HLl := Lib.hid hLl
  clear hLP hLl
  go_enter Try.func20, Try.ntmps20
  go_wp2
  go_loopw [4, 5, 6, 7] (fun v i _ _ wr => ∃ k : Nat, k ≤ l.length ∧ i = .int .i64 k ∧ OwnP wr w.heap.size 86 v (LP.take k) ∧ Below w.heap.size w wr) (fun _ i _ _ _ => l.length - (intOf i).toNat)
  case atStart => exact ⟨0, Nat.zero_le _, rfl, OwnP.nil _ _ _, Below.refl _ _⟩
  case round =>
    obtain ⟨k, hk, rfl, hown, hB⟩ := hrel
    by_cases hlt : k < l.length
    · obtain ⟨ga, oa, rfl, hga, hxa⟩ := ha (by omega)
      obtain ⟨⟨x1, x2⟩, hx⟩ : ∃ x, l[k]'hlt = x := ⟨_, rfl⟩
      have hx0 := hxa k _ (List.getElem?_eq_getElem hlt)
      rw [hx] at hx0
      have p1 : wr.cell? ⟨ga, oa + k * 2, none⟩ = some (.int .i64 x1) := (hB.cell (p := ⟨ga, oa + k * 2, none⟩) hga).trans hx0.1
      have p2 : wr.cell? ⟨ga, oa + k * 2 + 1, none⟩ = some (.int .i64 x2) := (hB.cell (p := ⟨ga, oa + k * 2 + 1, none⟩) hga).trans hx0.2
      have hp := fun w => refPlain_any x1 x2 w
      obtain ⟨⟨S, Q⟩, hpe⟩ : ∃ p, pln (x1, x2) = p := ⟨_, rfl⟩
      rw [hpe] at hp
      have hsucc : LP.take (k + 1) = LP.take k ++ [(S, Q)] := by
        rw [← HLP.out, List.take_add_one, List.getElem?_map, List.getElem?_eq_getElem hlt, hx]
        show _ ++ [pln (x1, x2)] = _
        rw [hpe]
      have hol : (LP.take k).length = k := by rw [List.length_take, HLl.out]; omega
      generalize LP.take k = LK at *
      have HP := Lib.hid hp
      have HS := Lib.hid hsucc
      have HOL := Lib.hid hol
      have HOWN := Lib.hid hown
      clear hp hsucc hx hx0 hxa ha hpe hol hown
      go_wp2_with (first
        | (go_at_call 46; refine (HP.out _).mono ?_; rintro e w1 ⟨rfl, hb⟩; replace hB := hB.trans (hb.mono hB.size); have hO := Lib.hid (HOWN.out.kept hb); clear hb p1 p2; have hsz := hB.size)
        | (at_builtin; refine wpList_append_own _ rfl _ _ 82 rfl w.heap.size 86 i0 (.agg #[.int .i64 0, .int .i64 0]) 2 16 Try.underlying82 hi hz0 hz1 hz2 rfl (by decide) _ _ _ rfl (hO.out.alloc _) ⟨_, 0, none⟩ 1 1 [.int .i64 S, .int .i64 Q] rfl rfl ?_ (by intro u hu; simp at hu; rcases hu with rfl | rfl <;> rfl) (by rw [HOL.out]; unfold maxLen; omega) (by rw [HOL.out]; omega) (by simp; omega) ?_))
      · exact cells_new _ _ rfl _ _ _
      intro v' w2 hown1 hgrow1 _
      have hF := own_next hO.out rfl (hB.alloc hsz _) (hB.alloc hsz _).size hown1 hgrow1
      rw [← HS.out] at hF
      clear hown1 hgrow1
      have HF := Lib.hid hF
      clear hF
      go_wp2
      go_roundw
      case rel => exact ⟨k + 1, by omega, by go_num, HF.out.1, HF.out.2⟩
      case measure => simp [intOf]; omega
    · have hkl : k = l.length := by omega
      rw [hkl, ← HLl.out, List.take_length] at hown
      have hpa := hown.pairs
      have HPA := Lib.hid hpa
      clear hkl hown hpa ha
      have hgd : ∀ x ∈ LP, Gd x := by
        rw [← HLP.out]; intro x hx
        obtain ⟨m, _, rfl⟩ := List.mem_map.1 hx
        exact pln_gd m
      have htot : tot LP ≤ 1048576000 := by
        rw [← HLP.out]
        exact Nat.le_trans (tot_pln l) (Nat.le_trans (Nat.mul_le_mul_right _ hl) (by decide))
      have HGD := Lib.hid hgd
      have HTOT := Lib.hid htot
      clear hgd htot
      go_wp2
      go_loopw [4, 8] (fun v m wq => ∃ (L : List P2) (b : Bool), m = .bool b ∧ PairsAt wq v L ∧ Below w.heap.size w wq ∧ (∀ x ∈ L, Gd x) ∧ tot L ≤ 1048576000 ∧ nfs L = nfs LP ∧ L.length ≤ 1000 ∧ (b = false → mrg1 L = none)) (fun v m _ => mleft v m)
      case atStart => exact ⟨LP, true, rfl, HPA.out, hB, HGD.out, HTOT.out, rfl, by rw [HLl.out]; exact hl, fun h => by cases h⟩
      case round =>
        clear HPA hB
        obtain ⟨L, b, rfl, hpa, hB, hgd, htot, hnf, hlen, hno⟩ := hrel
        have hbd : ∀ x ∈ L, x.1.natAbs ≤ 1000000000000 ∧ Gd x := fun x hx => ⟨Nat.le_trans (tot_mem hx) (by omega), hgd x hx⟩
        cases b
        · have hm := hno rfl
          have halt := mrg_none hgd hm
          have hn : nrm l = L := by unfold nrm; rw [HLP.out, ← hnf, nfs_alt halt, List.reverse_reverse]
          have hs : srt l = if ∃ x ∈ L, big x then ([], 15) else (outs L, 0) := by unfold srt; rw [hn]
          have HS := Lib.hid hs
          have HAL := Lib.hid halt
          have HBD := Lib.hid hbd
          generalize wr = w3 at *
          obtain ⟨a4, c4, rfl, hc4, h4⟩ := hpa
          clear hm halt hn hs hbd hgd htot hnf hno
          go_wp2
          go_loopw [9, 10] (fun o i wq => ∃ k : Nat, k ≤ L.length ∧ i = .int .i64 k ∧ OwnP wq w3.heap.size 48 o (outs (L.take k)) ∧ (outs (L.take k)).length = k ∧ Below w3.heap.size w3 wq ∧ ∀ x ∈ L.take k, ¬ big x) (fun _ i _ => L.length - (intOf i).toNat)
          case atStart => exact ⟨0, Nat.zero_le _, rfl, OwnP.nil _ _ _, rfl, Below.refl _ _, by simp⟩
          case round =>
            obtain ⟨k, hk, rfl, hown, hol, hS3, hnb⟩ := hrel
            by_cases hlt3 : k < L.length
            · obtain ⟨ga, oa, rfl, hga, hxa⟩ := h4 (by omega)
              obtain ⟨⟨S, Q⟩, hx⟩ : ∃ x, L[k]'hlt3 = x := ⟨_, rfl⟩
              have hx0 := hxa k _ (List.getElem?_eq_getElem hlt3)
              have hmem : (S, Q) ∈ L := by rw [← hx]; exact List.getElem_mem hlt3
              have hob := (HBD.out _ hmem).1
              obtain ⟨hg, hne⟩ := HAL.out.mem hmem
              obtain ⟨⟨m1, m2⟩, hone⟩ := one1_one hg hne
              have osucc := outs_succ L k hlt3
              rw [hx, hone] at osucc
              rw [hx] at hx0
              simp only at hob hone
              have p1 : wr.cell? ⟨ga, oa + k * 2, none⟩ = some (.int .i64 S) := (hS3.cell (p := ⟨ga, oa + k * 2, none⟩) hga).trans hx0.1
              have p2 : wr.cell? ⟨ga, oa + k * 2 + 1, none⟩ = some (.int .i64 Q) := (hS3.cell (p := ⟨ga, oa + k * 2 + 1, none⟩) hga).trans hx0.2
              have hbig : (1048576 < S ∨ (¬ 1048576 < S ∧ S < -1048576)) ∨ (¬ 1048576 < S ∧ ¬ S < -1048576) := by omega
              rcases hbig with hbg | ⟨hb1, hb2⟩
              · have hs2 : srt l = ([], 15) := by
                  rw [HS.out, if_pos ⟨(S, Q), hmem, by unfold big; simp only; omega⟩]
                have HS2 := Lib.hid hs2
                clear hs2 hmem hob hg hne hone osucc hx0 hx hxa h4 hnb hown hol
                rcases hbg with hbg | ⟨hbg, hbg2⟩
                all_goals
                  go_wp2
                  refine bodyPost_ret (v := .tuple #[.slice none 0 0, .int .i64 15]) (by simp [results, Try.results20, go_sem]) rfl ⟨.slice none 0 0, by rw [HS2.out], by rw [HS2.out]; exact PairsAt.nil _, hB.trans (hS3.mono hB.size)⟩
              · have h1 := fun w => refOne_any S Q w (by omega)
                rw [hone] at h1
                have hnb2 : ∀ x ∈ L.take (k + 1), ¬ big x := by
                  intro x hx'
                  rw [List.take_add_one, List.getElem?_eq_getElem hlt3, hx] at hx'
                  rcases List.mem_append.1 hx' with h | h
                  · exact hnb x h
                  · simp at h
                    subst h
                    unfold big
                    simp only
                    omega
                have H1 := Lib.hid h1
                have NB := Lib.hid hnb2
                have OS := Lib.hid osucc
                have HOWN := Lib.hid hown
                have K0 : ∀ w', Below w3.heap.size w3 w' → w'.cell? ⟨ga, oa + k * 2, none⟩ = some (.int .i64 S) := fun w' h => (h.cell (p := ⟨ga, oa + k * 2, none⟩) hga).trans hx0.1
                have K1 : ∀ w', Below w3.heap.size w3 w' → w'.cell? ⟨ga, oa + k * 2 + 1, none⟩ = some (.int .i64 Q) := fun w' h => (h.cell (p := ⟨ga, oa + k * 2 + 1, none⟩) hga).trans hx0.2
                have f1 : (0 : Int) ≤ (k : Int) := by omega
                have f2 : (k : Int) < (L.length : Int) := by omega
                clear h1 hnb2 osucc hown hmem hob hg hne hone hx hx0 hxa h4 hnb
                go_upto_region 16 with fail
                clear p1 p2
                have hS4 : Below w3.heap.size w3 wr.drew := below_drewN hS3 1
                go_region_held3 (fun w' => Below w3.heap.size w3 w') (first | assumption | exact keep_call (by assumption) hb3) ((first
                  | (go_at_call 48; refine (H1.out _).mono ?_; rintro e w5 ⟨v1, rfl, hv1, hb3⟩; obtain ⟨a1, c1, rfl, hc1, hh1⟩ := hv1; obtain ⟨g1, o1, rfl, hg1, hx1⟩ := hh1 (by simp); have O5 := own_drew HOWN.out hb3)
                  | (refine step_next (W0 := w3) (by rfl) _ _ _ (by rfl) 48 j0 _ Try.underlying22 ji jz0 jz1 jz2 rfl u9 (outs (L.take k)).length (flat (outs (L.take k))) (by rfl) ⟨_, rfl, O5⟩ (by assumption) ⟨g1, o1, none⟩ 1 c1 (flat [(m1, m2)]) (by rfl) rfl (flat_cells hx1) (flat_one _) (by rw [hol]; omega) ?_; intro v2 w6 h2 q2)))
                have hO6 : OwnP w6 w3.heap.size 48 v2 (outs (L.take (k + 1))) := by
                  rw [OS.out]
                  unfold OwnP
                  rw [List.length_append, flat_append]
                  exact h2
                have hl6 : (outs (L.take (k + 1))).length = k + 1 := by rw [OS.out, List.length_append, hol]; rfl
                have HO6 := Lib.hid hO6
                have HL6 := Lib.hid hl6
                have HQ2 := Lib.hid q2
                clear hO6 hl6 h2 q2 hx1 O5 K0 K1 hb3
                go_wp2
                go_roundw
                case rel => exact ⟨k + 1, by omega, by go_num, HO6.out, HL6.out, HQ2.out, NB.out⟩
                case measure => simp [intOf]; omega
            · have hkl : k = L.length := by omega
              rw [hkl, List.take_length] at hown hnb
              have hs2 : srt l = (outs L, 0) := by rw [HS.out, if_neg (fun ⟨x, h1, h2⟩ => hnb x h1 h2)]
              have HS2 := Lib.hid hs2
              have HO := Lib.hid hown
              clear hkl hs2 hown hnb hol h4
              go_wp2
              refine bodyPost_ret (v := .tuple #[u9, .int .i64 0]) (by simp [results, Try.results20, go_sem]) rfl ⟨u9, by rw [HS2.out], by rw [HS2.out]; exact HO.out.pairs, hB.trans (hS3.mono hB.size)⟩
        · have hm := refMerged_any u4 L wr hpa (by omega) hbd
          have hform : ∃ a c, u4 = .slice a L.length c := by obtain ⟨a, c, e, _⟩ := hpa; exact ⟨a, c, e⟩
          have HM := Lib.hid hm
          have HB := Lib.hid hbd
          have HP := Lib.hid hpa
          have HF := Lib.hid hform
          have HGD' := Lib.hid hgd
          have HNF := Lib.hid hnf
          clear hm hbd hpa hform hgd hnf hno
          go_wp2_with (go_at_call 47; refine HM.out.mono ?_; rintro e w1 ⟨v1, rfl, hp1, hb1⟩)
          go_roundw
          case rel =>
            refine ⟨(mrg1 L).getD L, (mrg1 L).isSome, rfl, hp1, hB.trans (hb1.mono hB.size), ?_⟩
            cases hm : mrg1 L with
            | none => exact ⟨HGD'.out, htot, HNF.out, hlen, fun _ => hm⟩
            | some t =>
              obtain ⟨q1, q2, _⟩ := mrg_nf HGD'.out hm
              exact ⟨q1, Nat.le_trans (mrg_tot hm) htot, (nfs_is HGD'.out hm).symm.trans HNF.out, by simp only [Option.getD_some]; omega, fun h => by cases h⟩
          case measure =>
            obtain ⟨a1, c1, hv1, _⟩ := hp1
            obtain ⟨a0, c0, hu⟩ := HF.out
            show mleft v1 (.bool (mrg1 L).isSome) < mleft u4 (.bool true)
            rw [hv1, hu]
            cases hm : mrg1 L with
            | none => simp [mleft]
            | some t =>
              obtain ⟨_, q2, _⟩ := mrg_nf HGD'.out hm
              simp [mleft]
              omega
end Go.Proofs.Ytibeljppjaenbaa
