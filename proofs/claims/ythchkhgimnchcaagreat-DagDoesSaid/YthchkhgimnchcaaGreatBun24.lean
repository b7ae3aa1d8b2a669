/- Texts of this proof, joined: DgE; DgF; ChainS. -/
import Derived.Test.YthchkhgimnchcaaGreatBun23
/- Stage 24's program: Done. -/
namespace Go.Proofs.YthchkhgimnchcaaGreat
open Go.RowKit

/-- what Done has at hand behind k of those that come right after: the store, the node's list, what is ready -/
structure DnW (w0 w : World) (p mb : Nat) (room : Int) (T1 : List Tk) (nx : Int → List Int) (g : Int → Option Nat) (Fm : Int → Nat → Prop) (id : Int) (b : Nat) (x : Sp) (a : Option Addr) (c : Nat) (vn rv : Value) (nl Z : List Int) : Prop where
  R : DagR w p mb room (setsT T1 Z 2) nx g Fm
  nd : NdP w b x 4 nl (Fm id) a c vn
  rd : OwnI w w0.heap.size rv Z
  o : Only (FpT p mb T1 Fm) w0 w
  lt : ∀ k, FpT p mb T1 Fm k → k < w0.heap.size
  hid : id ∈ idsK T1
section
variable {w0 w w' : World} {p mb : Nat} {room : Int} {T1 : List Tk} {nx : Int → List Int} {g : Int → Option Nat} {Fm : Int → Nat → Prop} {id : Int} {b : Nat} {x : Sp} {a : Option Addr} {c : Nat} {vn rv rv' : Value} {nl Z Z' : List Int}
theorem DnW.kept (h : DnW w0 w p mb room T1 nx g Fm id b x a c vn rv nl Z) (hb : Below w.heap.size w w') : DnW w0 w' p mb room T1 nx g Fm id b x a c vn rv nl Z :=
  ⟨h.R.kept hb, h.nd.same hb.size fun k hk => hb.block k (h.nd.lt k hk), OwnR.kept h.rd hb, h.o.trans ((Only.of_below hb).mono fun _ h => h), h.lt, h.hid⟩
/-- a status more, then its ID told -/
theorem DnW.free (h : DnW w0 w p mb room T1 nx g Fm id b x a c vn rv nl Z) {y : Int} {b2 : Nat} (hy : y ∈ idsK T1) (hne : y ≠ id) (hg : g y = some b2) :
    DagR (w.setCell ⟨b2, 9, none⟩ (.int .i64 2)) p mb room (setsT T1 (Z ++ [y]) 2) nx g Fm ∧ NdP (w.setCell ⟨b2, 9, none⟩ (.int .i64 2)) b x 4 nl (Fm id) a c vn ∧ OwnI (w.setCell ⟨b2, 9, none⟩ (.int .i64 2)) w0.heap.size rv Z ∧ Only (FpT p mb T1 Fm) w0 (w.setCell ⟨b2, 9, none⟩ (.int .i64 2)) := by
  have hy2 : y ∈ idsK (setsT T1 Z 2) := by rw [setsT_ids]; exact hy
  have hb2 : Fm y b2 := by
    obtain ⟨t, ht, b', a, c, vn, e, h1, h2⟩ := h.R.at hy2
    rw [hg] at h1
    injection h1 with h1
    rw [h1]
    exact h2.fb
  have hF : FpT p mb T1 Fm b2 := .inr (.inr ⟨y, hy, hb2⟩)
  have h1 := h.R.setSt hy2 hg 2
  rw [setsT_snoc] at h1
  refine ⟨h1, h.nd.away _ _ fun hf => hne ?_, OwnR.away h.rd _ _ (fun e => by have h6 : w0.heap.size ≤ b2 := (World.ownsRow.lt h.rd b2 e).1; have h5 := h.lt _ hF; omega), h.o.set _ _ hF⟩
  exact h.R.apart y id b2 hy2 (by rw [setsT_ids]; exact h.hid) hb2 hf
theorem DnW.tell (hR : DagR w p mb room (setsT T1 Z' 2) nx g Fm) (hN : NdP w b x 4 nl (Fm id) a c vn) (hr : OwnI w w0.heap.size rv Z) (ho : Only (FpT p mb T1 Fm) w0 w) (hlt : ∀ k, FpT p mb T1 Fm k → k < w0.heap.size) (hid : id ∈ idsK T1)
    (h2 : OwnI w' w0.heap.size rv' Z') (hq : Only (fun k => rv.ownBlock = some k) w w') : DnW w0 w' p mb room T1 nx g Fm id b x a c vn rv' nl Z' := by
  have hz := ho.size
  have hrb := fun k hk => (World.ownsRow.lt hr k hk).1
  refine ⟨hR.only hq (fun k hk hf => ?_), hN.same hq.size (fun k hk => hq.block k (hN.lt k hk) fun e => ?_), h2, ⟨hq.os.trans ho.os, hq.tape.trans ho.tape, hq.output.trans ho.output, Nat.le_trans hz hq.size, fun k hk hf => ?_⟩, hlt, hid⟩
  · rw [FpT_sets] at hf
    have := hrb k hk
    have := hlt k hf
    omega
  · have := hrb k e
    have := hlt k (.inr (.inr ⟨id, hid, hk⟩))
    omega
  · exact (hq.block k (by omega) fun e => by have := hrb k e; omega).trans (ho.block k hk hf)
variable {F : Nat → Prop} {T : List Tk}
set_option maxHeartbeats 16000000 in
set_option maxRecDepth 100000 in
theorem dDone_any (w : World) (h : DagP F w p mb room T nx g Fm) (id : Int) (hi : I64 id) :
    Calls Tryz.prog 21 #[ndv p, .int .i64 id] w (EndsDg F w p mb room nx g Fm (endDg T id 1)) := by
  have GF0 := dFind_any w h id hi
  by_cases hn : id ∈ idsK T
  · obtain ⟨t, ht, b, a, c, vn, hid, hg, hN⟩ := h.R.at hn
    have hst : sgT T id = t.st := by rw [← hid]; exact sg_at h.wf.nodup ht
    have c9 := hN.blk.cell 9 rfl
    have f9 := hN.blk.free 9 rfl
    rw [hg] at GF0
    dsimp only [pv, Option.map] at GF0
    have GF := Lib.hid GF0
    have GM := Lib.hid (dMay_any b t.st w c9)
    by_cases h2 : t.st = 2
    · rw [endDg_1 hn (hst.trans h2)]
      rw [if_pos h2] at GM
      have h2' := hst.trans h2
      have hR1 := h.R.setSt hn hg 4
      have hT1 := h.wf.weak.re (setsT_sp T [id] 4)
      have hI := h.N.1 id
      have hlist := done_list h.wf h2' hI (h.N.2 id)
      have hnx64 := h.nx64 id
      have hlen : (setsT T [id] 4).length ≤ 64 := by rw [setsT_len]; have := h.fit; have := h.room64; omega
      have hN5 := hN.setSt 4
      have hb : F b := (h.fp b).2 (.inr (.inr ⟨id, hn, hN.fb⟩))
      have hw5 := h.wf.done h2'
      have hsp5 : (doneDg T id).1.map Tk.sp = T.map Tk.sp := (setsT_sp (setsT T [id] 4) _ 2).trans (setsT_sp T [id] 4)
      have hp5 : Pl (doneDg T id).1 := (h.pl.sets [id] 4).sets _ 2
      have e1 : (doneDg T id).1 = setsT (setsT T [id] 4) (freedT (setsT T [id] 4)) 2 := rfl
      have e2 : (doneDg T id).2 = freedT (setsT T [id] 4) := rfl
      have hno : ∀ y ∈ nx id, y ∈ idsK (setsT T [id] 4) ∧ y ≠ id := fun y hy => by
        have he := (hI y).1 hy
        refine ⟨by rw [setsT_ids]; exact Ed_ids he, fun e => ?_⟩
        obtain ⟨rk, hr⟩ := h.wf.topo
        have := hr id y he
        rw [e] at this
        omega
      have hlt0 := h.R.lt
      rw [← FpT_sets p mb T [id] 4 Fm] at hlt0
      have ho0 := (Only.refl (FpT p mb (setsT T [id] 4) Fm) w).set ⟨b, 9, none⟩ (.int .i64 4) (by rw [FpT_sets]; exact (h.fp b).1 hb)
      have hid1 : id ∈ idsK (setsT T [id] 4) := by rw [setsT_ids]; exact hn
      have d14 := hN5.blk.cell 14 rfl
      have hvn := OwnI.ints hN5.nxt
      obtain ⟨an, cn, e⟩ := hvn.form
      subst e
      have hW : DnW w (w.setCell ⟨b, 9, none⟩ (.int .i64 4)) p mb room (setsT T [id] 4) nx g Fm id b t.sp a c (.slice an (nx id).length cn) (.slice none 0 0) (nx id) [] :=
        ⟨by rw [setsT_nil]; exact hR1, hN5, OwnR.nil _ _ _ _ _, ho0, hlt0, hid1⟩
      have hnd := h.N.2 id
      rw [e1] at hw5 hsp5 hp5 ⊢
      rw [e2]
      have hfp : ∀ k, F k ↔ FpT p mb (setsT T [id] 4) Fm k := fun k => by rw [FpT_sets]; exact h.fp k
      have HRe := Lib.hid fun w' hR => h.re (w' := w') hR hsp5 hw5 hp5
      generalize setsT T [id] 4 = T1 at *
      generalize nx id = nl at *
      generalize freedT T1 = G at *
      have HFp := Lib.hid hfp
      have HW0 := Lib.hid hW
      have HNO := Lib.hid hno
      have HT := Lib.hid hT1
      have HLS := Lib.hid hlist
      have HND := Lib.hid hnd
      have HLL := Lib.hid (And.intro hlen hnx64)
      have l2 : (nl.length : Int) ≤ 64 := by omega
      clear h GF0 hn ht hg hN hst h2 h2' hR1 hT1 hI hlist hnx64 hlen hN5 hb hw5 hsp5 hp5 e1 e2 hno hlt0 ho0 hid1 hvn hW hnd hfp hi hid
      go_enter Tryz.func21, Tryz.ntmps21
      go_upto_region 6 with (first
        | (go_at_call 38; (with_reducible refine GF.out.mono ?_); rintro e w1 ⟨rfl, rfl⟩)
        | (go_at_call 41; (with_reducible refine GM.out.mono ?_); rintro e w1 ⟨rfl, rfl⟩))
      clear c9 f9
      generalize w.setCell ⟨b, 9, none⟩ (.int .i64 4) = w1 at *
      go_wp2
      go_loopg [8, 29] nl.length (fun kx rv iv ws => ∃ (k : Nat) (Z : List Int), k ≤ nl.length ∧ nl.length - k ≤ kx ∧ iv = .int .i64 k ∧ Hid (Z = (nl.take k).filter (condT T1)) ∧ Hid (DnW w ws p mb room T1 nx g Fm id b t.sp a c (.slice an nl.length cn) rv nl Z))
      case atStart => exact ⟨0, [], Nat.zero_le _, Nat.le_refl _, rfl, rfl, HW0.out⟩
      case round =>
        obtain ⟨k, Z, hk, hkx, rfl, HZ, HD⟩ := hrel
        by_cases hlt : k < nl.length
        · obtain ⟨g0, o0, cc, e, -, -, q0⟩ := (OwnI.ints HD.out.nd.nxt).spot k hlt
          simp only [Value.slice.injEq] at e
          obtain ⟨rfl, -, rfl⟩ := e
          have k0 : (0 : Int) ≤ (k : Int) := by omega
          have k1 : (k : Int) < (nl.length : Int) := by omega
          obtain ⟨hy, hyne⟩ := HNO.out _ (List.getElem_mem hlt)
          have hyZ : nl[k]'hlt ∉ Z := by
            rw [HZ.out]
            intro hm
            have h1 := (List.mem_filter.1 hm).1
            have h3 := HND.out
            rw [← List.take_append_drop k nl, List.drop_eq_getElem_cons hlt] at h3
            exact (List.nodup_append.1 h3).2.2 _ h1 _ List.mem_cons_self rfl
          have hZ1 : ∀ z ∈ Z, sgT T1 z = 1 := fun z hz => by
            rw [HZ.out] at hz
            have := (List.mem_filter.1 hz).2
            unfold condT at this
            simp only [Bool.and_eq_true, decide_eq_true_eq] at this
            exact this.1
          have hcs := cond_sets HT.out.nodup hZ1 hyZ hy
          have hfl : (nl.take (k + 1)).filter (condT T1) = if condT T1 (nl[k]'hlt) then Z ++ [nl[k]'hlt] else Z := by
            rw [List.take_succ_eq_append_getElem hlt, List.filter_append, ← HZ.out]
            cases hc : condT T1 (nl[k]'hlt)
            · rw [List.filter_cons_of_neg (by simp [hc])]
              simp
            · rw [List.filter_cons_of_pos (by simp [hc])]
              rfl
          have hZl : Z.length ≤ 64 := by
            rw [HZ.out]
            have h1 := List.length_filter_le (condT T1) (nl.take k)
            rw [List.length_take] at h1
            have := HLL.out.2
            omega
          generalize nl[k]'hlt = y at *
          have hy2 : y ∈ idsK (setsT T1 Z 2) := by rw [setsT_ids]; exact hy
          obtain ⟨u, hu, b2, a2, c2, vn2, hid2, hg2, hN2⟩ := HD.out.R.at hy2
          have hT2 := HT.out.re (setsT_sp T1 Z 2)
          have hst : sgT (setsT T1 Z 2) y = u.st := by rw [← hid2]; exact sg_at hT2.nodup hu
          have hlk := HD.out.R.map.look1 (HT.out.id64 _ hy)
          rw [hg2] at hlk
          dsimp only [pv, Option.map] at hlk
          have c1 := HD.out.R.box.cell 1 rfl
          have s9 := hN2.blk.cell 9 rfl
          have f9 := hN2.blk.free 9 rfl
          have GW := Lib.hid (dWaitsR_any wr HD.out.R hT2 y (HT.out.id64 _ hy))
          have hcd : condT T1 y = (decide (u.st = 1) && decide (waitsT (setsT T1 Z 2) y = 0)) := by rw [← hcs]; unfold condT; rw [hst]
          have HFR := Lib.hid (HD.out.free hy hyne hg2)
          generalize waitsT (setsT T1 Z 2) y = wv at *
          generalize u.st = s at *
          generalize condT T1 y = cb at *
          have HFL := Lib.hid hfl
          have HLT := Lib.hid (And.intro hlt (And.intro hkx hZl))
          clear hy hyne hyZ hZ1 hcs hfl hZl hy2 hu hid2 hg2 hN2 hT2 hst hlt hk hkx
          by_cases h1 : s = 1
          · subst h1
            by_cases h2 : wv = 0
            · subst h2
              have hcb : cb = true := by rw [hcd]; rfl
              subst hcb
              clear hcd
              go_upto_region 13 with (go_at_call 15; (with_reducible refine GW.out.mono ?_); rintro e w2 ⟨rfl, rfl⟩)
              have HSZ := Lib.hid (show wr.heap.size ≤ (wr.setCell ⟨b2, 9, none⟩ (.int .i64 2)).heap.size by rw [size_set]; exact Nat.le_refl _)
              have HOS := Lib.hid HD.out.o.size
              have HDl := Lib.hid (And.intro HD.out.lt HD.out.hid)
              clear s9 f9 c1 hlk q0 GW HD
              generalize wr.setCell ⟨b2, 9, none⟩ (.int .i64 2) = w3 at *
              go_wp2_with (at_builtin; refine appI23 y HFR.out.2.2.1 (Nat.le_trans HOS.out HSZ.out) (by have := HLT.out.2.2; omega) rfl _ _ rfl rfl rfl ?_; intro v6 w6 o6 b6 q6 n6; have HW6 := Lib.hid (DnW.tell HFR.out.1 HFR.out.2.1 HFR.out.2.2.1 HFR.out.2.2.2 HDl.out.1 HDl.out.2 o6 q6); clear o6 b6 q6 n6)
              go_roundg (nl.length - (k + 1))
              case measure => have := HLT.out; omega
              case rel => exact ⟨k + 1, Z ++ [y], by have := HLT.out; omega, Nat.le_refl _, by go_num, by rw [HFL.out]; rfl, HW6.out⟩
            · have e2 : (wv == 0) = false := beq_noI h2
              have hcb : cb = false := by rw [hcd]; simp [h2]
              subst hcb
              clear hcd h2
              go_wp2_with (go_at_call 15; (with_reducible refine GW.out.mono ?_); rintro e w2 ⟨rfl, rfl⟩)
              go_roundg (nl.length - (k + 1))
              case measure => have := HLT.out; omega
              case rel => exact ⟨k + 1, Z, by have := HLT.out; omega, Nat.le_refl _, by go_num, by rw [HFL.out]; rfl, HD.out⟩
          · have e1 : (s == 1) = false := beq_noI h1
            have hcb : cb = false := by rw [hcd]; simp [h1]
            subst hcb
            clear hcd h1
            go_wp2
            go_roundg (nl.length - (k + 1))
            case measure => have := HLT.out; omega
            case rel => exact ⟨k + 1, Z, by have := HLT.out; omega, Nat.le_refl _, by go_num, by rw [HFL.out]; rfl, HD.out⟩
        · have hke : k = nl.length := by omega
          subst hke
          have hZ := HZ.out
          rw [List.take_length] at hZ
          have hZs : (Z.mergeSort fun x y => decide (x ≤ y)) = G := by rw [hZ]; exact HLS.out
          have hZl : Z.length ≤ 64 := by
            rw [hZ]
            have h1 := List.length_filter_le (condT T1) nl
            have := HLL.out.2
            omega
          obtain ⟨az, cz, e⟩ := (OwnI.ints HD.out.rd).form
          subst e
          have GS := Lib.hid (sortI_any wr w.heap.size _ Z HD.out.rd (by omega))
          have HSET := Lib.hid (setsT_congr T1 (ids := G) (ids' := Z) 2 fun x => by rw [← hZs, List.mem_mergeSort])
          have HZS := Lib.hid hZs
          clear hZ hZs hZl hlt hk hkx HZ
          go_wp2_with (go_at_call 42; (with_reducible refine GS.out.mono ?_); rintro e w3 ⟨rfl, h3, o3, _⟩; have H3 := Lib.hid h3; have O3 := Lib.hid o3; clear h3 o3)
          have hz := HD.out.o.size
          have hrb := fun k hk => (World.ownsRow.lt HD.out.rd k hk).1
          have hR3 : DagR w3 p mb room (setsT T1 G 2) nx g Fm := by
            rw [HSET.out]
            refine HD.out.R.only O3.out (fun k hk hf => ?_)
            rw [FpT_sets] at hf
            have := hrb k hk
            have := HD.out.lt k hf
            omega
          refine bodyPost_ret (v := .tuple #[.slice az Z.length cz, .int .i64 0]) (by simp [results, Tryz.results21, go_sem]) rfl ⟨_, rfl, by show IntsAt _ _ G; rw [← HZS.out]; exact H3.out, hrb, HRe.out _ hR3, ⟨O3.out.os.trans HD.out.o.os, O3.out.tape.trans HD.out.o.tape, O3.out.output.trans HD.out.o.output, Nat.le_trans hz O3.out.size, fun k hk hf => ?_⟩⟩
          exact (O3.out.block k (by omega) fun e => by have := hrb k e; omega).trans (HD.out.o.block k hk fun e => hf ((HFp.out k).2 e))
    · rw [endDg_st hn (.inl ⟨by omega, by rw [hst]; exact h2⟩)]
      rw [if_neg h2] at GM
      have HE := Lib.hid (EndsDg.not h 12)
      clear h GF0 hn ht hid hg hN hst c9 f9 h2 hi
      go_enter Tryz.func21, Tryz.ntmps21
      go_wp2_with (first
        | (go_at_call 38; (with_reducible refine GF.out.mono ?_); rintro e w1 ⟨rfl, rfl⟩)
        | (go_at_call 41; (with_reducible refine GM.out.mono ?_); rintro e w1 ⟨rfl, rfl⟩))
      exact bodyPost_ret (v := .tuple #[.slice none 0 0, .int .i64 12]) (by simp [results, Tryz.results21, go_sem]) rfl HE.out
  · rw [endDg_no hn]
    rw [h.R.no hn] at GF0
    dsimp only [pv, Option.map] at GF0
    have GF := Lib.hid GF0
    have GM := Lib.hid (dMay_nil w)
    have HE := Lib.hid (EndsDg.not h 7)
    clear h GF0 hn hi
    go_enter Tryz.func21, Tryz.ntmps21
    go_wp2_with (first
      | (go_at_call 38; (with_reducible refine GF.out.mono ?_); rintro e w1 ⟨rfl, rfl⟩)
      | (go_at_call 41; (with_reducible refine GM.out.mono ?_); rintro e w1 ⟨rfl, rfl⟩))
    exact bodyPost_ret (v := .tuple #[.slice none 0 0, .int .i64 7]) (by simp [results, Tryz.results21, go_sem]) rfl HE.out
set_option maxHeartbeats 1000000 in
set_option maxRecDepth 100000 in
theorem dDone_nil (w : World) (id : Int) : Calls Tryz.prog 21 #[.pointer none, .int .i64 id] w fun e w' => e = .returned (.tuple #[.slice none 0 0, .int .i64 7]) ∧ w = w' := by
  have GF := Lib.hid (dFind_nil w id)
  have GM := Lib.hid (dMay_nil w)
  go_enter Tryz.func21, Tryz.ntmps21
  go_wp2_with (first
    | (go_at_call 38; (with_reducible refine GF.out.mono ?_); rintro e w1 ⟨rfl, rfl⟩)
    | (go_at_call 41; (with_reducible refine GM.out.mono ?_); rintro e w1 ⟨rfl, rfl⟩))
  exact bodyPost_ret (v := .tuple #[.slice none 0 0, .int .i64 7]) (by simp [results, Tryz.results21, go_sem]) rfl ⟨rfl, rfl⟩
end
end Go.Proofs.YthchkhgimnchcaaGreat
/- Stage 24's program: New; a node more. -/
namespace Go.Proofs.YthchkhgimnchcaaGreat
open Go.RowKit

def clipD (n : Int) : Int := max 0 (min n 64)
set_option maxHeartbeats 4000000 in
set_option maxRecDepth 100000 in
theorem dNew_any (n : Int) (w : World) : Calls Tryz.prog 6 #[.int .i64 n] w fun e w' => ∃ p mb F nx g Fm, e = .returned (ndv p) ∧ DagP F w' p mb (clipD n) [] nx g Fm ∧ (∀ k, F k → w.heap.size ≤ k) ∧ Below w.heap.size w w' := by
  obtain ⟨r, hr⟩ : ∃ r, clipD n = r := ⟨_, rfl⟩
  have hmm : min (max n 0) 64 = r := by rw [← hr]; unfold clipD; omega
  have HR := Lib.hid (show 0 ≤ r ∧ r ≤ 64 by rw [← hr]; unfold clipD; omega)
  rw [hr]
  obtain ⟨q, hq⟩ : ∃ q, max n 0 = q := ⟨_, rfl⟩
  rw [hq] at hmm
  have hmk : (Instr.makeMap 56 none).run Tryz.prog w = .ok (.map (some w.heap.size)) (w.alloc (.map #[] 0)) := by kernel_rfl
  clear hr
  go_enter Tryz.func6, Tryz.ntmps6
  go_wp2
  go_ret
  have hb := (Below.refl w.heap.size w).alloc (Nat.le_refl _) (.map #[] 0)
  have hb2 := hb.alloc hb.size (.cells #[.int .i64 r, .map (some w.heap.size)] 58)
  have hX := Blk.new (w.alloc (.map #[] 0)) [.int .i64 r, .map (some w.heap.size)] 58
  rw [show (w.alloc (.map #[] 0)).heap.size = w.heap.size + 1 by simp] at hX
  refine ⟨w.heap.size + 1, w.heap.size, FpT (w.heap.size + 1) w.heap.size [] fun _ _ => False, fun _ => [], fun _ => none, fun _ _ => False, rfl, ⟨⟨hX, (MapP.new w).kept ((Below.refl _ _).alloc (Nat.le_refl _) _), fun n => by simp [idsK], fun t ht => (by cases ht), fun m n k hm => by simp [idsK] at hm, fun n hn => by simp [idsK] at hn, by omega⟩, ⟨fun n x => ⟨fun h => (by cases h), fun ⟨t, ht, _⟩ => (by cases ht)⟩, fun _ => List.nodup_nil⟩, Wf.nil, fun t ht => (by cases ht), HR.out.1, HR.out.1, HR.out.2, fun k => Iff.rfl⟩, fun k hk => ?_, hb2⟩
  rcases hk with rfl | rfl | ⟨n, hn, _⟩
  · omega
  · exact Nat.le_refl _
  · simp [idsK] at hn

section
variable {w : World} {p mb : Nat} {room : Int} {T : List Tk} {nx : Int → List Int} {g : Int → Option Nat} {Fm : Int → Nat → Prop}
theorem FpT_snoc {k : Nat} {t : Tk} {Fm' : Int → Nat → Prop} {f : Nat → Prop} (hx : t.sp.id ∉ idsK T) (hF : Fm' = updD Fm t.sp.id f) (h : FpT p mb (T ++ [t]) Fm' k) : FpT p mb T Fm k ∨ f k := by
  rcases h with h | h | ⟨n, hn, hk⟩
  · exact .inl (.inl h)
  · exact .inl (.inr (.inl h))
  · rw [idsK_snoc, List.mem_append, List.mem_singleton] at hn
    rw [hF] at hk
    rcases hn with hn | rfl
    · rw [updD_other _ _ fun e => hx (by rw [← e]; exact hn)] at hk
      exact .inl (.inr (.inr ⟨n, hn, hk⟩))
    · rw [updD_same] at hk
      exact .inr hk
theorem DagR.more (h : DagR w p mb room T nx g Fm) {w5 : World} (hb2 : Below w.heap.size w w5) {x : Sp} (hx : x.id ∉ idsK T) (h64 : I64 x.id) (hnx : nx x.id = []) (hl : T.length ≤ 1000) {a' : Option Addr} {c' b : Nat} (hX : Blk w5 b (csNd x 1 a' c' (.slice none 0 0))) (ho : OwnI w5 w.heap.size (.slice a' x.aft.length c') x.aft)
    (hbl : w.heap.size ≤ b) (hne : (Value.slice a' x.aft.length c').ownBlock ≠ some b) :
    ∃ w3, (Instr.mapUpdate 56 (.map (some mb)) (.int .i64 x.id) (.pointer (some ⟨b, 0, none⟩))).run Tryz.prog w5 = .ok () w3 ∧
      ∃ g' Fm', DagR w3 p mb room (T ++ [mkK x 1]) nx g' Fm' ∧ (∀ k, FpT p mb (T ++ [mkK x 1]) Fm' k → FpT p mb T Fm k ∨ w.heap.size ≤ k) ∧ Only (fun k => k = mb) w w3 := by
  have hlt := h.lt
  have h5 := h.kept hb2
  obtain ⟨w3, hrun, hm, hg⟩ := h5.map.put (by omega) h64 b
  rw [h.no hx] at hm
  have hab := World.ownsRow.lt ho
  have hmb := hlt mb (.inr (.inl rfl))
  have hNd : NdP w5 b x 1 [] (fun k => k = b ∨ (Value.slice a' x.aft.length c').ownBlock = some k) a' c' (.slice none 0 0) :=
    ⟨hX, OwnR.base13 ho (Nat.zero_le _), OwnR.nil _ _ _ _ _, .inl rfl, fun k hk => ⟨.inr hk, fun e => hne (by rw [← e]; exact hk)⟩, fun k hk => by simp [Value.ownBlock] at hk, fun k hk => by
      rcases hk with rfl | hk
      · exact Blk.lt (v := .int .i64 x.id) hX
      · exact (hab k hk).2⟩
  have hfl : ∀ k, (k = b ∨ (Value.slice a' x.aft.length c').ownBlock = some k) → w.heap.size ≤ k := fun k hk => by
    rcases hk with rfl | hk
    · exact hbl
    · exact (hab k hk).1
  have hN3 := hNd.same (w' := w3) hg.size fun k hk => hg.block k (hNd.lt k hk) fun e => by
    injection e with e
    have := hfl k hk
    omega
  refine ⟨w3, hrun, _, _, h5.add hx hnx hg hm hN3 (fun k hk => ⟨hNd.lt k hk, fun e => by have := hlt k e; have := hfl k hk; omega⟩), fun k hk => (FpT_snoc (t := mkK x 1) hx rfl hk).imp id (hfl k), ?_⟩
  exact ((Only.of_below hb2).mono fun _ h => h).trans (Only.grown hg fun _ e => (Option.some.inj e).symm)
/-- a spec's copy, in a region that draws -/
def lkClone (B : Nat) (x : Sp) : Lk := ⟨Option Addr × Nat, ⟨(none, 0)⟩, fun y => .agg #[.int .i64 x.id, .int .i64 x.prio, .int .u64 x.sk, .int .u64 x.ge, .int .i64 x.fx, .int .i64 x.fy, .int .i64 x.tx, .int .i64 x.ty, .slice y.1 x.aft.length y.2], fun y w => OwnI w B (.slice y.1 x.aft.length y.2) x.aft⟩
theorem lkClone_at {P : Program} {o : Oper} {a : Act} {W : World} {G : World → Prop} {B : Nat} {x : Sp} {f : FuncId} {args : Array Value} (hB : B ≤ W.heap.size) (he : ∀ k : In W, (execOp a.eval o).run P k.w = .ok (.enter f args) k.w)
    (hc : ∀ k : In W, Calls P f args k.w fun e w' => ∃ a' c', e = .returned (spv { x with a := a', c := c' }) ∧ OwnI w' k.w.heap.size (.slice a' x.aft.length c') x.aft ∧ Below k.w.heap.size k.w w') : (lkClone B x).at P o a W G :=
  ⟨fun _ _ _ h hb => OwnR.kept h hb, fun k _ => by
    rw [he k]
    refine ⟨rfl, (hc k).mono ?_⟩
    rintro e w' ⟨a', c', rfl, h, hb⟩
    exact ⟨(a', c'), rfl, OwnR.base13 h (Nat.le_trans hB k.h.size), hb.mono k.h.size⟩⟩
/-- a node in new memory, in a region that draws -/
def lkNode (B : Nat) (x : Sp) : Lk := ⟨Option Addr × Nat × Nat, ⟨(none, 0, 0)⟩, fun y => .pointer (some ⟨y.2.2, 0, none⟩), fun y w => Blk w y.2.2 (csNd x 1 y.1 y.2.1 (.slice none 0 0)) ∧ OwnI w B (.slice y.1 x.aft.length y.2.1) x.aft ∧ B ≤ y.2.2 ∧ (Value.slice y.1 x.aft.length y.2.1).ownBlock ≠ some y.2.2⟩
theorem lkNode_at {P : Program} {o : Oper} {a : Act} {W : World} {B : Nat} {x : Sp} {a' : Option Addr} {c' : Nat} (hB : W.heap.size = B) (he : ∀ n : In W, (execOp a.eval o).run P n.w = .ok (.value (.pointer (some ⟨n.w.heap.size, 0, none⟩))) (n.w.alloc (.cells (csNd x 1 a' c' (.slice none 0 0)).toArray 77))) :
    (lkNode B x).at P o a W (fun w => OwnI w B (.slice a' x.aft.length c') x.aft) :=
  ⟨fun _ _ _ h hb => ⟨Blk.kept (v := .int .i64 x.id) h.1 hb, OwnR.kept h.2.1 hb, h.2.2.1, h.2.2.2⟩, fun n hG => by
    rw [he n]
    refine ⟨(a', c', n.w.heap.size), rfl, ⟨Blk.new n.w _ _, OwnR.alloc hG _, hB ▸ n.h.size, fun e => ?_⟩, (Below.refl W.heap.size _).alloc n.h.size _⟩
    have := (World.ownsRow.lt hG _ e).2
    simp at this⟩
end
end Go.Proofs.YthchkhgimnchcaaGreat
/- As XChain, over any class of worlds S: a region that draws its order, in which all read, but for a chain that may write what lay there before (an append in place), behind which S holds anew; then a tail in a forced order. (wip/gen/gen_chains.py writes this text.) FOR ALL LATER STAGES. -/
namespace Go.Proofs.YthchkhgimnchcaaGreat
open Go.RowKit

section
variable {P : Program} {ops : Array Oper} {md : Region.Mode} {S : World → Prop}

/-- what reads, in every world of the class -/
def calmS (P : Program) (o : Oper) (a : Act) (S : World → Prop) (v : Value) : Prop := ∀ w, S w → Oper.quietUpon P (fun _ => False) w v ((execOp a.eval o).run P w)
theorem calmS_same {o : Oper} {a a' : Act} {v : Value} (he : execOp a'.eval o = execOp a.eval o) (h : calmS P o a S v) : calmS P o a' S v := by
  unfold calmS at *
  rw [he]
  exact h
def CalmYS (P : Program) (ops : Array Oper) (S : World → Prop) (o : Oper) (v : Value) (a : Act) : Prop :=
  (Region.wanted o (yielded ops a.tmps) = true ∧ calmS P o a S v) ∨ (Region.wanted o (yielded ops a.tmps) = false ∧ v = undef)
theorem CalmYS.put {oi oj : Oper} {v : Value} {a : Act} (h3 : ∀ d, oj.dst = some d → d ∉ oi.looksAt ops) (hsi : ∀ cs b, oi.op ≠ .select cs b) (hy : CalmYS P ops S oi v a) (u : Value) : CalmYS P ops S oi v (a.put oj.dst u) := by
  unfold CalmYS at *
  rw [wanted_put oi a oj.dst u h3]
  exact hy.imp (fun h => ⟨h.1, calmS_same (execOp_put oi hsi a oj.dst u h3) h.2⟩) id

/-- what an operation of the chain hands back, and what holds behind it -/
structure LkS where
  α : Type
  ne : Nonempty α
  val : α → Value
  R : α → World → Prop
def LkS.upon (k : LkS) (S : World → Prop) : Result Next → Prop
  | .ok (.value v) w' => ∃ x, v = k.val x ∧ k.R x w' ∧ S w'
  | _ => False
structure LkS.at (k : LkS) (P : Program) (o : Oper) (a : Act) (S : World → Prop) (G : World → Prop) : Prop where
  run : ∀ w, S w → G w → k.upon S ((execOp a.eval o).run P w)
theorem LkS.at.same {k : LkS} {o : Oper} {a a' : Act} {G : World → Prop} (he : execOp a'.eval o = execOp a.eval o) (h : k.at P o a S G) : k.at P o a' S G := ⟨fun w hw hn => by rw [he]; exact h.run w hw hn⟩

structure HeldS (S : World → Prop) (G : World → Prop) (w : World) : Prop where
  below : S w
  fact : G w

def qOpS (P : Program) (ops : Array Oper) (S : World → Prop) (N : Nat → Option LkS) (j : Nat) (K : Act → (World → Prop) → Prop) (a : Act) (G : World → Prop) : Prop :=
  match ops[j]? with
  | none => K a G
  | some o =>
    match N j with
    | none => if Region.wanted o (yielded ops a.tmps) then ∃ v, calmS P o a S v ∧ K (a.put o.dst v) G else K (a.put o.dst undef) G
    | some k => Region.wanted o (yielded ops a.tmps) = true ∧ k.at P o a S G ∧ ∀ x, K (a.put o.dst (k.val x)) (k.R x)

variable {N : Nat → Option LkS}

theorem qOp_monoS {j : Nat} {K K' : Act → (World → Prop) → Prop} {a : Act} {G : World → Prop} (h : ∀ a G, K a G → K' a G) (hh : qOpS P ops S N j K a G) : qOpS P ops S N j K' a G := by
  unfold qOpS at *
  cases ho : ops[j]? with
  | none => simp only [ho] at hh; exact h _ _ hh
  | some o =>
    simp only [ho] at hh ⊢
    cases hn : N j with
    | none =>
      simp only [hn] at hh ⊢
      split
      · rename_i hw; simp only [hw, if_true] at hh; exact hh.imp fun v hv => ⟨hv.1, h _ _ hv.2⟩
      · rename_i hw; simp only [hw] at hh; exact h _ _ hh
    | some k =>
      simp only [hn] at hh ⊢
      exact ⟨hh.1, hh.2.1, fun x => h _ _ (hh.2.2 x)⟩

/-- What it is for a run. -/
theorem wpOp_of_qOpS {i : Nat} {a : Act} {G : World → Prop} {w : World} {K : Act → (World → Prop) → Prop} {K' : Act → World → Prop} {Q : Exit → Act → World → Prop} (hz : HeldS S G w)
    (h : ∀ a G w, HeldS S G w → K a G → K' a w) (hh : qOpS P ops S N i K a G) : wpOp P ops Q i K' a w := by
  obtain ⟨hw, hf⟩ := hz
  unfold qOpS at hh
  unfold wpOp
  cases ho : ops[i]? with
  | none => simp only [ho] at hh; exact h _ _ _ ⟨hw, hf⟩ hh
  | some o =>
    simp only [ho] at hh ⊢
    cases hn : N i with
    | none =>
      simp only [hn] at hh
      split
      · rename_i hwant
        simp only [hwant, if_true] at hh
        obtain ⟨v, hv, hK⟩ := hh
        refine .inl ?_
        have h3 := hv w hw
        unfold Oper.wp
        generalize (execOp a.eval o).run P w = r at *
        cases r with
        | ok n w' =>
          cases n <;> simp only [Oper.quietUpon] at h3 <;> simp only [Oper.upon]
          case value u =>
            obtain ⟨e1, e2⟩ := h3
            rw [e1, e2]
            exact h _ _ _ ⟨hw, hf⟩ hK
          case skip =>
            obtain ⟨e1, e2⟩ := h3
            rw [e1, ← e2]
            exact h _ _ _ ⟨hw, hf⟩ hK
          case enter f args =>
            obtain ⟨e1, hc⟩ := h3
            rw [e1]
            exact hc.mono fun e w'' ⟨_, hn⟩ => hn.elim
        | halt x w' => simp only [Oper.quietUpon] at h3
      · rename_i hwant
        simp only [hwant] at hh
        exact h _ _ _ ⟨hw, hf⟩ hh
    | some k =>
      simp only [hn] at hh
      obtain ⟨hwant, hat, hK⟩ := hh
      rw [if_pos hwant]
      refine .inl ?_
      have h3 := hat.run w hw hf
      unfold Oper.wp
      generalize (execOp a.eval o).run P w = r at *
      cases r with
      | ok n w' =>
        cases n <;> simp only [LkS.upon] at h3
        case value u =>
          obtain ⟨x, rfl, hr, hb⟩ := h3
          simp only [Oper.upon]
          exact h _ _ _ ⟨hb, hr⟩ (hK x)
      | halt x w' => simp only [LkS.upon] at h3

/-- The head, in whatever order, till L. -/
def anyQS (P : Program) (md : Region.Mode) (ops : Array Oper) (S : World → Prop) (N : Nat → Option LkS) (n : Nat) (L : Array Bool → Act → (World → Prop) → Prop) : Nat → Array Bool → Act → (World → Prop) → Prop
  | 0, listed, a, G => L listed a G
  | f + 1, listed, a, G =>
    Region.ready md ops listed ≠ [] ∧ ∀ i ∈ Region.ready md ops listed, i < n ∧ qOpS P ops S N i (anyQS P md ops S N n L f (listed.setIfInBounds i true)) a G

theorem wpAny_of_anyQS {n g : Nat} {L : Array Bool → Act → (World → Prop) → Prop} {Q : Exit → Act → World → Prop} (hL : ∀ listed a G w, HeldS S G w → L listed a G → wpAny P md ops Q g listed a w) :
    ∀ (f : Nat) (listed : Array Bool) (a : Act) (G : World → Prop) (w : World), HeldS S G w → anyQS P md ops S N n L f listed a G → wpAny P md ops Q (f + g) listed a w
  | 0, listed, a, G, w, hw, h => by rw [Nat.zero_add]; exact hL _ _ _ _ hw h
  | f + 1, listed, a, G, w, hw, h => by
    rw [show f + 1 + g = (f + g) + 1 by omega]
    exact ⟨fun h0 => absurd h0 h.1, fun i hi => wpOp_of_qOpS hw (fun a' G' w' hw' h' => wpAny_of_anyQS hL f _ a' G' w' hw' h') (h.2 i hi).2⟩

theorem qOp_put_calmS {j : Nat} {oi oj : Oper} {v : Value} (hj : ops[j]? = some oj) (hap : oi.apart ops oj = true)
    (hsi : ∀ cs b, oi.op ≠ .select cs b) (hsj : ∀ cs b, oj.op ≠ .select cs b) {K : Act → (World → Prop) → Prop} {a : Act} {G : World → Prop}
    (hy : CalmYS P ops S oi v a) (h : qOpS P ops S N j K (a.put oi.dst v) G) :
    qOpS P ops S N j (fun a' G' => CalmYS P ops S oi v a' ∧ K (a'.put oi.dst v) G') a G := by
  obtain ⟨h1, h2, h3⟩ := Oper.apart_spec hap
  unfold qOpS at *
  simp only [hj] at *
  cases hn : N j with
  | none =>
    simp only [hn] at h ⊢
    rw [wanted_put oj a oi.dst v h1] at h
    split
    · rename_i hw
      simp only [hw, if_true] at h
      obtain ⟨u, hu, hK⟩ := h
      exact ⟨u, calmS_same (execOp_put oj hsj a oi.dst v h1).symm hu, hy.put h3 hsi u, by rw [← Act.put_comm a v u h2]; exact hK⟩
    · rename_i hw
      simp only [hw] at h
      exact ⟨hy.put h3 hsi _, by rw [← Act.put_comm a v undef h2]; exact h⟩
  | some k =>
    simp only [hn] at h ⊢
    obtain ⟨hw, hs, hK⟩ := h
    exact ⟨by rw [← wanted_put oj a oi.dst v h1]; exact hw, hs.same (execOp_put oj hsj a oi.dst v h1).symm,
      fun x => ⟨hy.put h3 hsi _, by rw [← Act.put_comm a v _ h2]; exact hK x⟩⟩

theorem CalmYS.qOp {i : Nat} {o : Oper} {v : Value} {a : Act} {G : World → Prop} (hi : ops[i]? = some o) (hn : N i = none) (hy : CalmYS P ops S o v a) {K : Act → (World → Prop) → Prop} (h : K (a.put o.dst v) G) : qOpS P ops S N i K a G := by
  unfold Go.Proofs.YthchkhgimnchcaaGreat.qOpS
  simp only [hi, hn]
  rcases hy with ⟨hw, hv⟩ | ⟨hw, rfl⟩
  · simp only [hw, if_true]; exact ⟨v, hv, h⟩
  · simp only [hw, Bool.false_eq_true, if_false]; exact h

theorem anyQ_firstS {n i : Nat} {oi : Oper} {v : Value} {L : Array Bool → Act → (World → Prop) → Prop} (hi : ops[i]? = some oi) (hN : N i = none) (hsel : ∀ (j : Nat) (o : Oper) cs b, ops[j]? = some o → o.op ≠ .select cs b)
    (hh : HeadFirst md ops n) (hin : i < n) (hdone : ∀ listed a G, L listed a G → ∀ j ∈ Region.ready md ops listed, n ≤ j) :
    ∀ (f : Nat) (listed : Array Bool) (a : Act) (G : World → Prop), HeadInv md ops n listed →
      (∀ j oj, ops[j]? = some oj → j ≠ i → listed.getD j true = false → (∀ e ∈ oj.after, Region.binds md e = true → e.on ≠ i) → oi.apart ops oj = true) →
      i ∈ Region.ready md ops listed → CalmYS P ops S oi v a →
      anyQS P md ops S N n L f (listed.setIfInBounds i true) (a.put oi.dst v) G → anyQS P md ops S N n L (f + 1) listed a G := by
  intro f
  induction f with
  | zero =>
    intro listed a G inv _ hr hy H
    have hun := (mem_ready.1 hr).1
    refine ⟨fun h => (by rw [h] at hr; cases hr), fun j hj => ?_⟩
    refine ⟨hh.lt inv hin hun hj, ?_⟩
    by_cases hji : j = i
    · subst hji; exact hy.qOp hi hN H
    · have := hdone _ _ _ H j (ready_mono hj hji)
      have := hh.lt inv hin hun hj
      omega
  | succ f ih =>
    intro listed a G inv hfree hr hy H
    have hun := (mem_ready.1 hr).1
    refine ⟨fun h => (by rw [h] at hr; cases hr), fun j hj => ?_⟩
    have hjn := hh.lt inv hin hun hj
    refine ⟨hjn, ?_⟩
    by_cases hji : j = i
    · subst hji; exact hy.qOp hi hN H
    · have h1 := (H.2 j (ready_mono hj hji)).2
      obtain ⟨hjun, oj, hoj, hall⟩ := mem_ready.1 hj
      have h2 := qOp_put_calmS hoj (hfree j oj hoj hji hjun (not_after (j := j) hun hall rfl rfl)) (fun cs b => hsel i oi cs b hi) (fun cs b => hsel j oj cs b hoj) hy h1
      have hfree' : ∀ k ok, ops[k]? = some ok → k ≠ i → (listed.setIfInBounds j true).getD k true = false →
          (∀ e ∈ ok.after, Region.binds md e = true → e.on ≠ i) → oi.apart ops ok = true := fun k ok hk hki hun' hno => by
        refine hfree k ok hk hki ?_ hno
        by_cases hjk : j = k
        · subst hjk; exact hjun
        · rw [getD_set_ne true hjk] at hun'; exact hun'
      refine qOp_monoS (fun a' G' h3 => ih (listed.setIfInBounds j true) a' G' (inv.set hj hjn) hfree' (ready_mono hr (Ne.symm hji)) h3.1 ?_) h2
      rw [Array.setIfInBounds_comm _ _ hji]
      exact h3.2

theorem qOp_put_ownS {W0 : World} (hS0 : S W0) {j : Nat} {k : LkS} {oi oj : Oper} (hj : ops[j]? = some oj) (hNj : N j = none) (hap : oi.apart ops oj = true)
    (hsi : ∀ cs b, oi.op ≠ .select cs b) (hsj : ∀ cs b, oj.op ≠ .select cs b) {K : Act → (World → Prop) → Prop} {a : Act} {G : World → Prop}
    (hwi : Region.wanted oi (yielded ops a.tmps) = true) (hy : k.at P oi a S G) (h : ∀ x, qOpS P ops S N j K (a.put oi.dst (k.val x)) (k.R x)) :
    qOpS P ops S N j (fun a' G' => Region.wanted oi (yielded ops a'.tmps) = true ∧ k.at P oi a' S G' ∧ ∀ x, K (a'.put oi.dst (k.val x)) (k.R x)) a G := by
  obtain ⟨h1, h2, h3⟩ := Oper.apart_spec hap
  obtain ⟨x0⟩ := k.ne
  unfold qOpS at *
  simp only [hj, hNj] at *
  split
  · rename_i hw
    have h' : ∀ x, ∃ u, calmS P oj a S u ∧ K ((a.put oi.dst (k.val x)).put oj.dst u) (k.R x) := fun x => by
      have h5 := h x
      rw [wanted_put oj a oi.dst _ h1] at h5
      simp only [hw, if_true] at h5
      obtain ⟨u, hu, hK⟩ := h5
      exact ⟨u, calmS_same (execOp_put oj hsj a oi.dst _ h1).symm hu, hK⟩
    obtain ⟨u, hu, _⟩ := h' x0
    refine ⟨u, hu, by rw [wanted_put oi a oj.dst _ h3]; exact hwi, hy.same (execOp_put oi hsi a oj.dst _ h3), fun x => ?_⟩
    obtain ⟨u', hu', hK⟩ := h' x
    have e : u' = u := upon_unique (hu' W0 hS0) (hu W0 hS0)
    subst e
    rw [← Act.put_comm a _ _ h2]
    exact hK
  · rename_i hw
    refine ⟨by rw [wanted_put oi a oj.dst _ h3]; exact hwi, hy.same (execOp_put oi hsi a oj.dst _ h3), fun x => ?_⟩
    have h5 := h x
    rw [wanted_put oj a oi.dst _ h1] at h5
    simp only [hw] at h5
    rw [← Act.put_comm a _ _ h2]
    exact h5

theorem anyQ_ownS {W0 : World} (hS0 : S W0) {n i : Nat} {k : LkS} {oi : Oper} {L : Array Bool → Act → (World → Prop) → Prop} (hi : ops[i]? = some oi) (hN : N i = some k) (hsel : ∀ (j : Nat) (o : Oper) cs b, ops[j]? = some o → o.op ≠ .select cs b)
    (hch : ∀ listed, HeadInv md ops n listed → i ∈ Region.ready md ops listed → ∀ j ∈ Region.ready md ops listed, j ≠ i → N j = none)
    (hh : HeadFirst md ops n) (hin : i < n) (hdone : ∀ listed a G, L listed a G → ∀ j ∈ Region.ready md ops listed, n ≤ j) :
    ∀ (f : Nat) (listed : Array Bool) (a : Act) (G : World → Prop), HeadInv md ops n listed →
      (∀ j oj, ops[j]? = some oj → j ≠ i → listed.getD j true = false → (∀ e ∈ oj.after, Region.binds md e = true → e.on ≠ i) → oi.apart ops oj = true) →
      i ∈ Region.ready md ops listed → Region.wanted oi (yielded ops a.tmps) = true → k.at P oi a S G →
      (∀ x, anyQS P md ops S N n L f (listed.setIfInBounds i true) (a.put oi.dst (k.val x)) (k.R x)) → anyQS P md ops S N n L (f + 1) listed a G := by
  have direct : ∀ {K : Act → (World → Prop) → Prop} {a : Act} {G : World → Prop}, Region.wanted oi (yielded ops a.tmps) = true → k.at P oi a S G → (∀ x, K (a.put oi.dst (k.val x)) (k.R x)) → qOpS P ops S N i K a G := by
    intro K a G h1 h2 h3
    unfold qOpS
    simp only [hi, hN]
    exact ⟨h1, h2, h3⟩
  obtain ⟨x0⟩ := k.ne
  intro f
  induction f with
  | zero =>
    intro listed a G inv _ hr hwi hy H
    have hun := (mem_ready.1 hr).1
    refine ⟨fun h => (by rw [h] at hr; cases hr), fun j hj => ?_⟩
    refine ⟨hh.lt inv hin hun hj, ?_⟩
    by_cases hji : j = i
    · subst hji; exact direct hwi hy H
    · have := hdone _ _ _ (H x0) j (ready_mono hj hji)
      have := hh.lt inv hin hun hj
      omega
  | succ f ih =>
    intro listed a G inv hfree hr hwi hy H
    have hun := (mem_ready.1 hr).1
    refine ⟨fun h => (by rw [h] at hr; cases hr), fun j hj => ?_⟩
    have hjn := hh.lt inv hin hun hj
    refine ⟨hjn, ?_⟩
    by_cases hji : j = i
    · subst hji; exact direct hwi hy H
    · obtain ⟨hjun, oj, hoj, hall⟩ := mem_ready.1 hj
      have h2 := qOp_put_ownS hS0 (N := N) (k := k) hoj (hch listed inv hr j hj hji) (hfree j oj hoj hji hjun (not_after (j := j) hun hall rfl rfl)) (fun cs b => hsel i oi cs b hi) (fun cs b => hsel j oj cs b hoj) hwi hy
        (fun x => ((H x).2 j (ready_mono hj hji)).2)
      have hset : ∀ k, (listed.setIfInBounds j true).getD k true = false → listed.getD k true = false := fun k hk => by
        by_cases hjk : j = k
        · subst hjk; exact hjun
        · rw [getD_set_ne true hjk] at hk; exact hk
      refine qOp_monoS (fun a' G' h3 => ih (listed.setIfInBounds j true) a' G' (inv.set hj hjn) (fun k ok hk hki hun' hno => hfree k ok hk hki (hset k hun') hno)
        (ready_mono hr (Ne.symm hji)) h3.1 h3.2.1 (fun x => ?_)) h2
      rw [Array.setIfInBounds_comm _ _ hji]
      exact h3.2.2 x

/-! ### The text's order -/
def wpKqS (P : Program) (ops : Array Oper) (S : World → Prop) (Q : Act → (World → Prop) → Prop) : List (Option LkS) → List Oper → Act → (World → Prop) → Prop
  | [], [], a, G => Q a G
  | none :: ks, o :: l, a, G => if Region.wanted o (yielded ops a.tmps) then ∃ v, calmS P o a S v ∧ wpKqS P ops S Q ks l (a.put o.dst v) G else wpKqS P ops S Q ks l (a.put o.dst undef) G
  | some k :: ks, o :: l, a, G => Region.wanted o (yielded ops a.tmps) = true ∧ k.at P o a S G ∧ ∀ x, wpKqS P ops S Q ks l (a.put o.dst (k.val x)) (k.R x)
  | _, _, _, _ => False

theorem anyQ_of_KS {W0 : World} (hS0 : S W0) {n g : Nat} {Lq : Act → (World → Prop) → Prop} (hsel : Region.noSelect ops = true) (hh : HeadFirst md ops n) (hle : n ≤ ops.size) (inds : List Nat) (hinds : ∀ j k, N j = some k → j ∈ inds) (hch : chainOf md ops inds = true) :
    ∀ (ks : List (Option LkS)) (l : List Oper) (k : Nat) (listed : Array Bool) (a : Act) (G : World → Prop), (∀ j, j < l.length → l[j]? = ops[k + j]?) → (∀ j kd, ks[j]? = some kd → N (k + j) = kd) → k + l.length = n →
    (∀ j, j < k → listed.getD j true = true) → HeadInv md ops n listed →
    Region.lexHead md ops g l.length k listed = true → wpKqS P ops S Lq ks l a G →
    anyQS P md ops S N n (fun listed' a' G' => Region.seqB md ops g n listed' = true ∧ Lq a' G') l.length listed a G
  | [], [], k, listed, a, G, hl, hs, hk, hdone, inv, hB, h => by
    have : k = n := by simpa using hk
    subst this
    exact ⟨by simpa [Region.lexHead] using hB, h⟩
  | [], _ :: _, _, _, _, _, _, _, _, _, _, _, h => by unfold wpKqS at h; exact h.elim
  | none :: _, [], _, _, _, _, _, _, _, _, _, _, h => by unfold wpKqS at h; exact h.elim
  | some _ :: _, [], _, _, _, _, _, _, _, _, _, _, h => by unfold wpKqS at h; exact h.elim
  | kd :: ks, o :: l, k, listed, a, G, hl, hs, hk, hdone, inv, hB, h => by
    have h0 : ops[k]? = some o := by simpa using (hl 0 (by simp)).symm
    have hkn : k < n := by simp only [List.length_cons] at hk; omega
    have hNk : N k = kd := by simpa using hs 0 kd rfl
    simp only [List.length_cons, Region.lexHead, Bool.and_eq_true] at hB
    obtain ⟨⟨hr, hf⟩, hB'⟩ := hB
    have hr' : k ∈ Region.ready md ops listed := by simpa using hr
    have hl' : ∀ j, j < l.length → l[j]? = ops[k + 1 + j]? := fun j hj => by have := hl (j + 1) (by simp; omega); simpa [Nat.add_assoc, Nat.add_comm 1 j] using this
    have hs' : ∀ j kd', ks[j]? = some kd' → N (k + 1 + j) = kd' := fun j kd' hj => by have := hs (j + 1) kd' (by simpa using hj); simpa [Nat.add_assoc, Nat.add_comm 1 j] using this
    have hk' : k + 1 + l.length = n := by simp only [List.length_cons] at hk; omega
    have hdone' : ∀ j, j < k + 1 → (listed.setIfInBounds k true).getD j true = true := by
      intro j hj
      by_cases hjk : k = j
      · subst hjk
        have : k < listed.size := by rw [inv.size]; omega
        simp [this]
      · rw [getD_set_ne true hjk]; exact hdone j (by omega)
    cases kd with
    | none =>
      unfold wpKqS at h
      obtain ⟨v, hy, hK⟩ : ∃ v, CalmYS P ops S o v a ∧ wpKqS P ops S Lq ks l (a.put o.dst v) G := by
        by_cases hw : Region.wanted o (yielded ops a.tmps) = true
        · simp only [hw, if_true] at h
          obtain ⟨v, hv, hK⟩ := h
          exact ⟨v, .inl ⟨hw, hv⟩, hK⟩
        · simp only [hw] at h
          exact ⟨undef, .inr ⟨by simpa using hw, rfl⟩, h⟩
      refine anyQ_firstS h0 hNk (Region.noSelect_spec hsel) hh hkn (fun listed' a' G' hL => seqB_ready hL.1) l.length listed a G inv (Region.free_spec h0 hf) hr' hy ?_
      exact anyQ_of_KS hS0 hsel hh hle inds hinds hch ks l (k + 1) _ _ _ hl' hs' hk' hdone' (inv.set hr' hkn) hB' hK
    | some kk =>
      unfold wpKqS at h
      obtain ⟨hw, hp, hrest⟩ := h
      refine anyQ_ownS hS0 h0 hNk (Region.noSelect_spec hsel) (fun listed' inv' h1 j hj hne => ?_) hh hkn (fun listed' a' G' hL => seqB_ready hL.1) l.length listed a G inv (Region.free_spec h0 hf) hr' hw hp (fun x => ?_)
      · cases hNj : N j with
        | none => rfl
        | some kj => exact (chainOf_not hch inv' (hinds k kk hNk) (hinds j kj hNj) hne h1 hj).elim
      · exact anyQ_of_KS hS0 hsel hh hle inds hinds hch ks l (k + 1) _ _ _ hl' hs' hk' hdone' (inv.set hr' hkn) hB' (hrest x)


/-- THE LAW: ks tells the head: none: what reads in every world of S; some k: one of the chain, behind which S holds anew. -/
theorem wp_region_chainS {id : Nat} {Q : Exit → Act → World → Prop} {a : Act} {l : List Oper} {W : World} (S : World → Prop) (n : Nat) (ks : List (Option LkS)) (inds : List Nat) (hks : ((List.range ks.length).all fun j => !((ks.map Option.isSome).getD j false) || inds.contains j) = true) (hm : P.follows .mixedOrders = true)
    (hle : n ≤ l.length) (hB : calmB .any l.toArray n = true) (hC : chainOf .any l.toArray inds = true) (hS : S W.drew) (G0 : World → Prop) (hG : G0 W.drew)
    (h : wpKqS P l.toArray S (fun a'' G => ∀ w', S w' → G w' → wpList P l.toArray Q (l.drop n) a'' w') ks (l.take n) a G0) :
    (Code.region id l.toArray true).wp P Q a W := by
  unfold calmB at hB
  simp only [Bool.and_eq_true, Bool.or_eq_true, beq_iff_eq, decide_eq_true_eq] at hB
  obtain ⟨⟨hsel, hh0⟩, hlex⟩ := hB
  have hh : HeadFirst .any l.toArray n := hh0.imp (fun x => x) fun x => ⟨x.1.2, x.2, x.1.1⟩
  have htl : (l.take n).length = n := by simp; omega
  have inv0 : HeadInv .any l.toArray n (Array.replicate l.toArray.size false) :=
    ⟨by simp, fun j oj _ hl => (by rw [getD_replicate_false] at hl; cases hl), fun t _ ht => getD_in (by simpa using ht) (getD_replicate_false _ _)⟩
  have H := anyQ_of_KS (P := P) (S := S) hS (md := .any) (N := fun j => (ks[j]?).getD none) (g := l.toArray.size - n) hsel hh (by simpa using hle) inds
    (fun j k hj => by
      cases hk : ks[j]? with
      | none => simp [hk] at hj
      | some kd =>
        simp [hk] at hj
        subst hj
        have hlt := (List.getElem?_eq_some_iff.1 hk).1
        have h5 := List.all_eq_true.1 hks j (List.mem_range.2 hlt)
        have h6 : (ks.map Option.isSome).getD j false = true := by rw [List.getD_eq_getElem?_getD, List.getElem?_map, hk]; rfl
        rw [h6] at h5
        simpa using h5) hC ks (l.take n) 0 _ a G0
    (fun j hj => by
      rw [htl] at hj
      simp [hj]) (fun j kd hj => by simp [hj]) (by omega) (fun j hj => by omega) inv0 (by rw [htl]; exact hlex) h
  refine wp_region_any hm ?_
  have h6 := wpAny_of_anyQS (Q := Q) (g := l.toArray.size - n) (fun listed a' G w' hw' hL => by
    have hdl : (l.drop n).length = l.toArray.size - n := by simp
    have := wpAny_of_seq (P := P) (md := .any) (Q' := Q) (l.drop n) n listed a' w' (fun j => by simp [List.getElem?_drop]) (by rw [hdl]; exact hL.1) (hL.2 w' hw'.below hw'.fact)
    rwa [hdl] at this) _ _ _ _ W.drew ⟨hS, hG⟩ H
  rw [htl, show n + (l.toArray.size - n) = l.toArray.size by omega] at h6
  exact h6
/-- one step that reads -/
theorem wpKqS_calm {Q : Act → (World → Prop) → Prop} {ks : List (Option LkS)} {o : Oper} {l : List Oper} {a : Act} {G : World → Prop} (v : Value) (hg : Region.wanted o (yielded ops a.tmps) = true) (hv : ∀ w, S w → (execOp a.eval o).run P w = .ok (.value v) w) (h : ∀ a', a' = a.put o.dst v → wpKqS P ops S Q ks l a' G) : wpKqS P ops S Q (none :: ks) (o :: l) a G := by
  unfold wpKqS
  rw [if_pos hg]
  exact ⟨v, fun w hw => by rw [hv w hw]; exact ⟨rfl, rfl⟩, h _ rfl⟩
theorem wpKqS_skip {Q : Act → (World → Prop) → Prop} {ks : List (Option LkS)} {o : Oper} {l : List Oper} {a : Act} {G : World → Prop} (hg : Region.wanted o (yielded ops a.tmps) = true) (hv : ∀ w, S w → (execOp a.eval o).run P w = .ok .skip w) (h : ∀ a', a' = a.put o.dst undef → wpKqS P ops S Q ks l a' G) : wpKqS P ops S Q (none :: ks) (o :: l) a G := by
  unfold wpKqS
  rw [if_pos hg]
  exact ⟨undef, fun w hw => by rw [hv w hw]; exact ⟨rfl, rfl⟩, h _ rfl⟩
theorem wpKqS_own {Q : Act → (World → Prop) → Prop} {ks : List (Option LkS)} {k : LkS} {o : Oper} {l : List Oper} {a : Act} {G : World → Prop} (hg : Region.wanted o (yielded ops a.tmps) = true) (hk : k.at P o a S G) (h : ∀ x a', a' = a.put o.dst (k.val x) → wpKqS P ops S Q ks l a' (k.R x)) : wpKqS P ops S Q (some k :: ks) (o :: l) a G := by
  unfold wpKqS
  exact ⟨hg, hk, fun x => h x _ rfl⟩
end
end Go.Proofs.YthchkhgimnchcaaGreat
