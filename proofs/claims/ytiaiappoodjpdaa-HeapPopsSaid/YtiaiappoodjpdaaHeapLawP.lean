/- The law HeapPops. -/
import Derived.Test.YtiaiappoodjpdaaHeapLaw
namespace Go.Proofs.Ytiaiappoodjpdaa
open Go.RowKit

/-- the last one behind k -/
def lst13 (S : List Th) : Nat → Th
  | 0 => ⟨0, 0, 0⟩
  | k + 1 => S.getD k ⟨0, 0, 0⟩
theorem lst13_next (S : List Th) (k : Nat) (hk : k < S.length) : lst13 S (k + 1) = S[k] := by
  show S.getD k ⟨0, 0, 0⟩ = S[k]
  rw [List.getD_eq_getElem?_getD, List.getElem?_eq_getElem hk]
  rfl
theorem lst13_ahead {S : List Th} (h : srtT S) (k : Nat) (h0 : 0 < k) (hk : k < S.length) : ahead (lst13 S k) S[k] = true := by
  obtain ⟨j, rfl⟩ : ∃ j, k = j + 1 := ⟨k - 1, by omega⟩
  rw [lst13_next S j (by omega)]
  exact srtT_next h j hk
theorem IntsAt.only {F : Nat → Prop} {w w' : World} {v : Value} {l : List Int} (h : IntsAt w v l) (ho : Only F w w') (hf : OffV F v l.length) : IntsAt w' v l := RowsAt.ints (RowsAt.only h.rows ho hf)
theorem IntsAt.away {w : World} {v : Value} {l : List Int} (h : IntsAt w v l) (a : Addr) (u : Value) (hf : OffV (fun k => k = a.block) v l.length) : IntsAt (w.setCell a u) v l := RowsAt.ints (RowsAt.awayV h.rows a u hf)

/-- the heap while it is popped, its ids beside it, and the last one -/
structure Pops13 (W : World) (p bl : Nat) (v : Value) (S : List Th) (wr : World) (k : Nat) : Prop where
  heap : ∃ F, HeapAt F wr p (S.drop k) ∧ (∀ k, F k → W.heap.size ≤ k) ∧ OffV F v S.length ∧ ¬ F bl
  ids : IntsAt wr v (idsT S)
  last : Blk wr bl [.int .i64 (lst13 S k).id, .int .i64 (lst13 S k).key, .int .i64 (lst13 S k).seq]
  below : Below W.heap.size W wr

set_option maxHeartbeats 8000000 in
set_option maxRecDepth 100000 in
theorem heapPops_any (va : Value) (l : List Th) (w : World) (ha : ThAt w va l) (hg : ∀ a ∈ l, I64 a.id) :
    Calls Try.prog 4 #[va] w fun e w' => e = .returned (.bool true) ∧ Below w.heap.size w w' := by
  have HAL := Lib.hid fun w => hAlive_any w
  have HA := Lib.hid ha
  have HGI := Lib.hid hg
  obtain ⟨a, c, rfl⟩ := RowsAt.form ha
  clear ha hg
  by_cases h60 : 60 < l.length
  · have h1 : (60 : Int) < (l.length : Int) := by omega
    go_enter Try.func4, Try.ntmps4
    go_wp2_with (go_at_call 5; (with_reducible refine (HAL.out _).mono ?_); rintro e w1 ⟨rfl, hb⟩)
    go_ret
    exact ⟨rfl, hb⟩
  · have h1 : ¬ (60 : Int) < (l.length : Int) := by omega
    go_enter Try.func4, Try.ntmps4
    go_wp2_with (go_at_call 6; (with_reducible refine (hNew_any _).mono ?_); rintro e w1 ⟨p, F0, rfl, hp, ht, hb⟩; have HS0 := Lib.hid (show (∃ F, HeapAt F w1 p [] ∧ ∀ k, F k → w.heap.size ≤ k) ∧ Below w.heap.size w w1 from ⟨⟨_, ht, hp⟩, hb⟩); clear hp ht hb)
    go_loopw [30] (fun iv wr => ∃ (k : Nat) (S : List Th), k ≤ l.length ∧ iv = .int .i64 k ∧ ((∃ F, HeapAt F wr p S ∧ ∀ k, F k → w.heap.size ≤ k) ∧ Below w.heap.size w wr) ∧ S.length ≤ k) (fun iv _ => l.length - (intOf iv).toNat)
    case atStart => exact ⟨0, [], Nat.zero_le _, rfl, HS0.out, Nat.le_refl _⟩
    case round =>
      obtain ⟨k, S, hk, rfl, ⟨⟨F, hh, hF⟩, hB⟩, hn⟩ := hrel
      by_cases hlt : k < l.length
      · obtain ⟨g, o, cc, e, _, _, p0, p1, p2⟩ := ThAt.at (RowsAt.kept HA.out hB) k hlt
        cases e
        have k0 : (0 : Int) ≤ (k : Int) := by omega
        have k1 : (k : Int) < (l.length : Int) := by omega
        have hi64 := HGI.out l[k] (List.getElem_mem hlt)
        generalize l[k] = x at *
        have HP := Lib.hid (hPut_any x _ (hh.al (.cells #[.int .i64 x.id, .int .i64 x.key, .int .i64 x.seq] 28)) (by omega) hi64)
        have HBA := Lib.hid (hB.alloc hB.size (.cells #[.int .i64 x.id, .int .i64 x.key, .int .i64 x.seq] 28))
        have HF := Lib.hid hF
        have hpl := putT_len S x
        clear hh hF hB
        go_wp2_with (go_at_call 7; (with_reducible refine HP.out.mono ?_); rintro e w2 ⟨rfl, F2, ht, hm⟩; have HS2 := Lib.hid (show (∃ F, HeapAt F w2 p (putT S x) ∧ ∀ k, F k → w.heap.size ≤ k) ∧ Below w.heap.size w w2 from ⟨⟨F2, ht, hm.from_ HF.out HBA.out.size⟩, HBA.out.trans (hm.only.below HF.out HBA.out.size)⟩); clear ht hm)
        go_roundw
        case rel => exact ⟨k + 1, _, by omega, by go_num, HS2.out, by omega⟩
        case measure => simp [intOf] <;> omega
      · have hke : k = l.length := by omega
        subst hke
        have HALL := Lib.hid (hAll_any wr hh (by omega))
        have CLEN := Lib.hid fun (n : World) (hb : Below wr.heap.size wr n) => hLen_any n (hh.kept hb) (by omega)
        have hil := idsT_len S
        have HH := Lib.hid (show _ from ⟨hh, hF, hB⟩ : _ ∧ _ ∧ _)
        have hS60 : S.length ≤ 60 := by omega
        clear hh hF hB
        go_upto_region 13 with (first
          | (go_at_call 17; (with_reducible refine HALL.out.mono ?_); rintro e w2 ⟨v, rfl, ho, hb⟩; obtain ⟨a2, c2, e2⟩ := IntsAt.form (OwnI.ints ho); rw [hil] at e2; subst e2; have HO := Lib.hid ho; have HB2 := Lib.hid hb; clear ho hb)
          | (go_at_call 15; (with_reducible refine (CLEN.out _ HB2.out).mono ?_); rintro e w3 ⟨rfl, hb⟩; have HB3 := Lib.hid hb; clear hb))
        have hP0 : Pops13 w p w3.heap.size (.slice a2 S.length c2) S (w3.alloc (.cells #[.int .i64 0, .int .i64 0, .int .i64 0] 28)) 0 := by
          obtain ⟨hh, hF, hB⟩ := HH.out
          have h3 := HB2.out.trans (HB3.out.mono HB2.out.size)
          refine ⟨⟨F, (hh.kept h3).al _, hF, OwnR.off HO.out hh.lt, fun h => ?_⟩, IntsAt.below (IntsAt.below (OwnI.ints HO.out) HB3.out) ((Below.refl _ _).alloc (Nat.le_refl _) _), Blk.new w3 _ _, (hB.trans (h3.mono hB.size)).alloc (hB.trans (h3.mono hB.size)).size _⟩
          have := hh.lt _ h
          have := h3.size
          omega
        have HP0 := Lib.hid hP0
        have HSS := Lib.hid HH.out.1.srt
        have HGB := Lib.hid (show 0 < S.length → ∀ gg, (Value.slice a2 S.length c2).ownBlock = some gg → gg ≠ w3.heap.size from fun h0 gg hg => by
          have h1 := (World.ownsRow.lt HO.out gg hg).2
          have h2 := HB3.out.size
          omega)
        have HBL := Lib.hid (show w.heap.size ≤ w3.heap.size from by
          have h1 := HH.out.2.2.size
          have h2 := HB2.out.size
          have h3 := HB3.out.size
          omega)
        generalize w3.heap.size = bl at *
        clear hP0 HALL CLEN HH
        go_wp2
        go_loopw [52] (fun iv wx => ∃ k : Nat, k ≤ S.length ∧ iv = .int .i64 k ∧ Pops13 w p bl (.slice a2 S.length c2) S wx k) (fun iv _ => S.length - (intOf iv).toNat)
        case atStart => exact ⟨0, Nat.zero_le _, rfl, HP0.out⟩
        case round =>
          obtain ⟨k, hk, rfl, hPk⟩ := hrel
          by_cases hlt : k < S.length
          · obtain ⟨⟨F, hh, hF, ho, hnb⟩, hids, hlast, hB⟩ := hPk
            have hsrt := hh.srt
            have hdr : S.drop k = S[k] :: S.drop (k + 1) := List.drop_eq_getElem_cons hlt
            obtain ⟨g, o, cc, e, _, hg, p0⟩ := IntsAt.spot hids k (by rw [idsT_len]; exact hlt)
            have hgid : (idsT S)[k]'(by rw [idsT_len]; exact hlt) = S[k].id := by simp [idsT]
            rw [hgid] at p0
            rw [idsT_len] at e
            cases e
            have hnx := lst13_next S k hlt
            have hah : 0 < k → srtT S → ahead (lst13 S k) S[k] = true := fun h0 hs => lst13_ahead hs k h0 hlt
            have G1 := Lib.hid fun (n : World) (hb : Below wr.heap.size wr n) => hHas_any S[k].id n (hh.kept hb) (by rw [List.length_drop]; omega) (hh.i64 S[k] (by rw [hdr]; exact List.mem_cons_self))
            have e1 : fndT (S.drop k) S[k].id = (S[k], true) := by rw [hdr, fndT_head]
            rw [e1] at G1
            have G2 := Lib.hid fun (n : World) (hb : Below wr.heap.size wr n) => hPop_any n (hh.kept hb) (by rw [List.length_drop]; omega)
            have e2 : frsT (S.drop k) = (S[k].id, true) := by rw [hdr]; rfl
            have e3 : (S.drop k).drop 1 = S.drop (k + 1) := by rw [List.drop_drop]
            rw [e2, e3] at G2
            have hlen : (S.drop k).length ≤ 60 := by rw [List.length_drop]; omega
            have HSRT := Lib.hid (show srtT S from HSS.out)
            have HAH := Lib.hid (fun h0 => hah h0 HSRT.out)
            obtain ⟨y, hy⟩ : ∃ y, lst13 S k = y := ⟨_, rfl⟩
            obtain ⟨x, hxx⟩ : ∃ x, S[k] = x := ⟨_, rfl⟩
            rw [hxx] at G1 G2 hnx p0 hgid HAH
            rw [hy] at hlast HAH
            simp only at G1 G2
            have HNX := Lib.hid hnx
            have k0 : (0 : Int) ≤ (k : Int) := by omega
            have k1 : (k : Int) < (S.length : Int) := by omega
            have hFl := hh.lt
            have HK := Lib.hid (show _ from ⟨hF, ho, hnb, hids, hlast, hB, hFl⟩ : _ ∧ _ ∧ _ ∧ _ ∧ _ ∧ _ ∧ _)
            have HGA := Lib.hid fun n => refAhead_any y x n
            clear hF ho hnb hids hlast hB hFl hh hsrt hdr hgid hnx hah e1 e2 e3 hy hxx hg
            go_upto_region 19 with (first
              | (go_at_call 13; (with_reducible refine (G1.out _ (Below.refl _ _)).mono ?_); rintro e w4 ⟨rfl, hb⟩; have HB4 := Lib.hid hb; clear hb p0)
              | (go_at_call 11; (with_reducible refine (G2.out _ (HB4.out.alloc HB4.out.size _)).mono ?_); rintro e w6 ⟨rfl, F2, ht, hm⟩; have HT := Lib.hid ht; have HM := Lib.hid hm; clear ht hm))
            obtain ⟨hF, ho, hnb, hids, hlast, hB, hFl⟩ := HK.out
            have hBa := HB4.out.alloc HB4.out.size (.cells #[.int .i64 x.id, .int .i64 x.key, .int .i64 x.seq] 28)
            have hbs : w4.heap.size < (w4.alloc (.cells #[.int .i64 x.id, .int .i64 x.key, .int .i64 x.seq] 28)).heap.size := by simp
            have hblt := hlast.lt
            have hsz4 := HB4.out.size
            have b7 := (hlast.kept hBa).same (HM.out.only.block bl (by omega) hnb)
            have hnx4 : ¬ F w4.heap.size := fun h => by have := hFl _ h; omega
            have b13 := (Blk.new w4 [.int .i64 x.id, .int .i64 x.key, .int .i64 x.seq] 28).same (HM.out.only.block w4.heap.size hbs hnx4)
            have i6 := IntsAt.only (IntsAt.below hids hBa) HM.out.only (by rw [idsT_len]; exact ho)
            have o6 := OffV.mv (l := idsT S) (by rw [idsT_len]; exact ho) (IntsAt.rows (IntsAt.below hids hBa)) HM.out
            have nb6 := HM.out.off (k := bl) (by omega) hnb
            have hB5 := hB.trans (hBa.mono hB.size)
            have B6 := hB5.trans (HM.out.only.below hF hB5.size)
            have F6 := HM.out.from_ hF hB5.size
            rw [idsT_len] at o6
            have HW := Lib.hid (show ∀ n, Below w6.heap.size w6 n → Pops13 w p bl (.slice (some ⟨g, o, none⟩) S.length c2) S (((n.setCell ⟨bl, 0, none⟩ (.int .i64 x.id)).setCell ⟨bl, 1, none⟩ (.int .i64 x.key)).setCell ⟨bl, 2, none⟩ (.int .i64 x.seq)) (k + 1) from fun n hb => by
              have hgne : OffV (fun k => k = bl) (.slice (some ⟨g, o, none⟩) S.length c2) (idsT S).length := by
                rw [idsT_len]
                intro h0 gg hg e
                subst e
                exact HGB.out h0 _ hg rfl
              refine ⟨⟨F2, ((((HT.out.kept hb).away ⟨bl, 0, none⟩ _ nb6).away ⟨bl, 1, none⟩ _ nb6).away ⟨bl, 2, none⟩ _ nb6), F6, o6, nb6⟩, ?_, ?_, ?_⟩
              · exact (((IntsAt.below i6 hb).away ⟨bl, 0, none⟩ _ hgne).away ⟨bl, 1, none⟩ _ hgne).away ⟨bl, 2, none⟩ _ hgne
              · have := (((b7.kept hb).set 0 (.int .i64 x.id)).set 1 (.int .i64 x.key)).set 2 (.int .i64 x.seq)
                rw [HNX.out]
                simpa using this
              · have hbw : w.heap.size ≤ bl := HBL.out
                exact (((B6.trans (hb.mono B6.size)).setCell (p := ⟨bl, 0, none⟩) hbw _).setCell (p := ⟨bl, 1, none⟩) hbw _).setCell (p := ⟨bl, 2, none⟩) hbw _)
            have HB7 := Lib.hid (fun n (hb : Below w6.heap.size w6 n) => b7.kept hb)
            have HB13 := Lib.hid (fun n (hb : Below w6.heap.size w6 n) => b13.kept hb)
            clear hF ho hnb hids hlast hB hFl hBa hbs hblt hsz4 b7 hnx4 b13 i6 o6 nb6 hB5 B6 F6 HK HT HM HB4 G1 G2
            by_cases hk0 : 0 < k
            · have hk0' : (0 : Int) < (k : Int) := by omega
              have HAT := Lib.hid (HAH.out hk0)
              rw [HAT.out] at HGA
              have s7 := HB7.out _ (Below.refl _ _)
              have s13 := HB13.out _ (Below.refl _ _)
              have a0 := s7.cell 0 rfl
              have a1 := s7.cell 1 rfl
              have a2' := s7.cell 2 rfl
              have d0 := s13.cell 0 rfl
              have d1 := s13.cell 1 rfl
              have d2 := s13.cell 2 rfl
              clear s7 s13
              go_upto_region 21 with (go_at_call 19; (with_reducible refine (HGA.out _).mono ?_); rintro e w7 ⟨rfl, hb⟩; have HBE := Lib.hid hb; clear hb)
              have s7 := HB7.out _ HBE.out
              have s13 := HB13.out _ HBE.out
              have e0 := s13.cell 0 rfl
              have e1 := s13.cell 1 rfl
              have e2 := s13.cell 2 rfl
              have y0 := s7.free 0 rfl
              have y1 := s7.free 1 rfl
              have y2 := s7.free 2 rfl
              have z0 := s7.cell 0 rfl
              have z1 := s7.cell 1 rfl
              have z2 := s7.cell 2 rfl
              have HR := Lib.hid (HW.out _ HBE.out)
              clear s7 s13 a0 a1 a2' d0 d1 d2
              go_wp2
              go_roundw
              case rel => exact ⟨k + 1, by omega, by go_num, HR.out⟩
              case measure => simp [intOf] <;> omega
            · have hk0' : ¬ (0 : Int) < (k : Int) := by omega
              have s7 := HB7.out _ (Below.refl _ _)
              have s13 := HB13.out _ (Below.refl _ _)
              have e0 := s13.cell 0 rfl
              have e1 := s13.cell 1 rfl
              have e2 := s13.cell 2 rfl
              have y0 := s7.free 0 rfl
              have y1 := s7.free 1 rfl
              have y2 := s7.free 2 rfl
              have z0 := s7.cell 0 rfl
              have z1 := s7.cell 1 rfl
              have z2 := s7.cell 2 rfl
              have HR := Lib.hid (HW.out _ (Below.refl _ _))
              clear s7 s13
              go_wp2
              go_roundw
              case rel => exact ⟨k + 1, by omega, by go_num, HR.out⟩
              case measure => simp [intOf] <;> omega
          · have hke : k = S.length := by omega
            subst hke
            obtain ⟨⟨F, hh, hF, _, _⟩, _, _, hB⟩ := hPk
            rw [List.drop_length] at hh
            have G2 := Lib.hid (hPop_any wr hh (by simp))
            have hfr : frsT [] = (0, false) := rfl
            rw [hfr] at G2
            simp only [List.drop_nil] at G2
            have HBW := Lib.hid hB
            have HF := Lib.hid hF
            clear hh hF hB hfr
            go_wp2_with (first
              | (go_at_call 11; (with_reducible refine G2.out.mono ?_); rintro e w4 ⟨rfl, F2, ht, hm⟩; have HT := Lib.hid ht; have HB4 := Lib.hid (HBW.out.trans (hm.only.below HF.out HBW.out.size)); clear ht hm)
              | (go_at_call 12; (with_reducible refine (hFirst_nil _).mono ?_); rintro e w5 ⟨rfl, hb⟩; replace HT := Lib.hid (HT.out.kept hb); replace HB4 := Lib.hid (HB4.out.trans (hb.mono HB4.out.size)); clear hb)
              | (go_at_call 11; (with_reducible refine (hPop_nil _).mono ?_); rintro e w6 ⟨rfl, hb⟩; replace HT := Lib.hid (HT.out.kept hb); replace HB4 := Lib.hid (HB4.out.trans (hb.mono HB4.out.size)); clear hb)
              | (go_at_call 15; (with_reducible refine (hLen_any _ HT.out (by simp)).mono ?_); rintro e w7 ⟨rfl, hb⟩; replace HB4 := Lib.hid (HB4.out.trans (hb.mono HB4.out.size)); clear hb HT)
              | (go_at_call 7; (with_reducible refine (hPut_nil ⟨1, 2, 3⟩ _).mono ?_); rintro e w8 ⟨rfl, hb⟩; replace HB4 := Lib.hid (HB4.out.trans (hb.mono HB4.out.size)); clear hb)
              | (go_at_call 9; (with_reducible refine (hDrop_nil 1 _).mono ?_); rintro e w9 ⟨rfl, hb⟩; replace HB4 := Lib.hid (HB4.out.trans (hb.mono HB4.out.size)); clear hb)
              | (go_at_call 15; (with_reducible refine (hLen_nil _).mono ?_); rintro e w10 ⟨rfl, hb⟩; replace HB4 := Lib.hid (HB4.out.trans (hb.mono HB4.out.size)); clear hb)
              | (go_at_call 5; (with_reducible refine (HAL.out _).mono ?_); rintro e w11 ⟨rfl, hb⟩; replace HB4 := Lib.hid (HB4.out.trans (hb.mono HB4.out.size)); clear hb))
            go_ret
            exact ⟨rfl, HB4.out⟩
end Go.Proofs.Ytiaiappoodjpdaa
