/- The walks of the document's answers for layer 10: All, Rows, Few. -/
import Derived.Test.YtmmaodcihpgdfaaFrameRefB
import Derived.Test.YtmmaodcihpgdfaaBss
namespace Go.Proofs.Ytmmaodcihpgdfaa
open Go.RowKit

theorem readF_ok (l : List UInt8) (h : (readF l).2.2 = 0) : (readF l).1.length ≤ 65536 ∧ (readF l).1.length + 8 + (readF l).2.1.length = l.length := by
  unfold readF at h ⊢
  split at h
  · cases h
  · rename_i h8
    rw [if_neg h8]
    split at h
    · cases h
    · rename_i h15
      rw [if_neg h15]
      split at h
      · cases h
      · rename_i hs
        rw [if_neg hs]
        split at h
        · rename_i hk
          rw [if_pos hk]
          simp only [payF, List.length_take, List.length_drop]
          omega
        · cases h
theorem OwnB.blk {w : World} {B n c : Nat} {a : Addr} {l : List UInt8} (h : OwnB w B (.slice (some a) n c) l) : B ≤ a.block := by
  rcases h.2 with ⟨e, _⟩ | ⟨g, cap, cur, e, hg, _⟩
  · cases e
  · cases e
    exact hg
/-- all records -/
def allF (l : List UInt8) : List (List UInt8) × Nat :=
  if h : (readF l).2.2 = 0 then ((readF l).1 :: (allF (readF l).2.1).1, 8 + (readF l).1.length + (allF (readF l).2.1).2) else ([], 0)
termination_by l.length
decreasing_by
  all_goals
    have := readF_ok l h
    omega
theorem allF_end (l : List UInt8) (h : (readF l).2.2 ≠ 0) : allF l = ([], 0) := by
  rw [allF, dif_neg h]
theorem allF_next (l : List UInt8) (h : (readF l).2.2 = 0) : allF l = ((readF l).1 :: (allF (readF l).2.1).1, 8 + (readF l).1.length + (allF (readF l).2.1).2) := by
  rw [allF, dif_pos h]
theorem readF_no (l : List UInt8) : (readF l).2.2 = 0 ∨ (((readF l).2.2 : Int) == 0) = false := by
  by_cases h : (readF l).2.2 = 0
  · exact .inl h
  · exact .inr (beq_no9 (by omega))

set_option maxHeartbeats 4000000 in
set_option maxRecDepth 100000 in
theorem refAll10_any (va : Value) (l : List UInt8) (w : World) (ha : BytesAt w va l) (hl : l.length ≤ 900000) :
    Calls Try.prog 16 #[va] w fun e w' => ∃ v, e = .returned (.tuple #[v, .int .i64 ((allF l).2 : Int)]) ∧ BssAt w' v (allF l).1 ∧ Below w.heap.size w w' := by
  obtain ⟨i0, hi, hz0, hz1, hz2⟩ := info_parts info_bytes
  have HA := Lib.hid ha
  obtain ⟨a, c, rfl⟩ := RowsAt.form ha
  have hread := Lib.hid (fun w va l ha hl => refRead10_any va l w ha hl)
  have hsize := Lib.hid (fun n w hn => refSize10_any n w hn)
  obtain ⟨⟨LS, NN⟩, hA⟩ : ∃ t, allF l = t := ⟨_, rfl⟩
  rw [hA]
  have HAA := Lib.hid hA
  clear ha hA
  go_enter Try.func16, Try.ntmps16
  go_wp2
  go_loopw [4, 5, 6, 7, 8, 9] (fun ov rv nv _ _ _ wr => ∃ (out : List (List UInt8)) (rest : List UInt8) (n : Nat), nv = .int .i64 n ∧ n + rest.length = l.length ∧ (LS, NN) = (out ++ (allF rest).1, n + (allF rest).2) ∧ out.length ≤ n ∧ OwnBs wr w.heap.size ov out ∧ BytesAt wr rv rest ∧ Below w.heap.size w wr) (fun _ _ nv _ _ _ _ => l.length - (intOf nv).toNat)
  case atStart => exact ⟨[], l, 0, rfl, by omega, by rw [HAA.out]; simp, by simp, OwnBs.nil _ _, HA.out, Below.refl _ _⟩
  case round =>
    obtain ⟨out, rest, n, rfl, hn, hall, hon, hown, hrb, hB⟩ := hrel
    have g1 := hread.out wr u5 rest hrb (by omega)
    have hok := readF_ok rest
    have hend := allF_end rest
    have hnext := allF_next rest
    have hno := readF_no rest
    generalize hR : readF rest = R at *
    obtain ⟨x, more, e⟩ := R
    simp only at g1 hok hend hnext hno
    have G1 := Lib.hid g1
    have HALL := Lib.hid hall
    have HO := Lib.hid hown
    have HB := Lib.hid hB
    clear g1 hall hown hB hrb hR
    rcases hno with rfl | hno
    · have hok := hok rfl
      have hnext := hnext rfl
      have HOK := Lib.hid hok
      have HNX := Lib.hid hnext
      clear hok hnext hend
      go_wp2_with (go_at_call 14; (with_reducible refine G1.out.mono ?_); rintro e w1 ⟨v1, u1, rfl, hx1, hm1, hb1⟩; refine (fun (_ : True) => ?_) trivial; revert hx1)
      intro hx1
      obtain ⟨a1, c1, rfl⟩ := RowsAt.form (OwnB.bytes hx1)
      have ho := HO.out.kept hb1
      have hB1 := HB.out.trans (hb1.mono HB.out.size)
      have hB2 := hB1.alloc hB1.size (.cells #[.slice a1 x.length c1] 22)
      have ho2 := ho.alloc (.cells #[.slice a1 x.length c1] 22)
      have hal := (Below.refl w1.heap.size w1).alloc (Nat.le_refl _) (.cells #[.slice a1 x.length c1] 22)
      have hxb : BytesAt (w1.alloc (.cells #[.slice a1 x.length c1] 22)) (sl (a1, x.length, c1)) x := (OwnB.bytes hx1).kept hal
      have hmb := (OwnB.bytes hm1).kept hal
      have hfr : 0 < x.length → ∀ b, a1 = some b → some b.block ≠ u4.ownBlock := fun _ b e => HO.out.fresh (.inr (by subst e; exact OwnB.blk hx1))
      obtain ⟨a2, c2, rfl⟩ := RowsAt.form (OwnB.bytes hm1)
      have hfm : 0 < more.length → ∀ b, a2 = some b → some b.block ≠ u4.ownBlock := fun _ b e => HO.out.fresh (.inr (by subst e; exact OwnB.blk hm1))
      have hs1 : ∀ w, Calls Try.prog 12 #[.int .i64 (x.length : Int)] w fun e w' => e = .returned (.int .i64 (8 + (x.length : Int))) ∧ w = w' := fun w => by
        have := hsize.out x.length w (by have := HOK.out; omega)
        rw [show szF (x.length : Int) = 8 + (x.length : Int) by unfold szF; rw [if_neg (by have := HOK.out; omega)]] at this
        exact this
      have ht : (w1.alloc (.cells #[.slice a1 x.length c1] 22)).cell? ⟨w1.heap.size, 0, none⟩ = some (.slice a1 x.length c1) := by go_simp
      have hol : out.length ≤ 1000000 := by omega
      have HX := Lib.hid hxb
      have HM := Lib.hid hmb
      have HS := Lib.hid hs1
      have HF := Lib.hid hfr
      have HFM := Lib.hid hfm
      have HT := Lib.hid ht
      have b1 : (n : Int) ≤ 900000 := by omega
      have b2 : (x.length : Int) ≤ 65536 := by have := HOK.out; omega
      clear hx1 hm1 hb1 ho hal hxb hmb hfr hfm hs1 ht hsize hread
      go_wp2_with (at_builtin; refine wpList_append_bs rfl _ _ 32 rfl Try.underlying32 w.heap.size _ _ rfl ho2 ⟨w1.heap.size, 0, none⟩ 1 (a1, x.length, c1) x rfl HT.out HX.out HF.out hol hB2.size ?_)
      intro v2 w2 o2 g2
      have hB3 := OwnBs.below ho2 hB2 hB2.size g2
      have HMB := Lib.hid (BytesAt.grown (t := (a2, more.length, c2)) HM.out g2 HFM.out)
      have HO2 := Lib.hid o2
      clear ho2 hB2 o2 g2 hB1
      go_wp2_with (go_at_call 12; (with_reducible refine (HS.out _).mono ?_); rintro e w3 ⟨rfl, rfl⟩)
      go_roundw
      case rel =>
        refine ⟨out ++ [x], more, n + (8 + x.length), by go_num, by have := HOK.out; omega, ?_, by simp; omega, HO2.out, HMB.out, hB3⟩
        rw [HALL.out, HNX.out]
        simp only [List.append_assoc, List.singleton_append, Nat.add_assoc]
      case measure => have := HOK.out; simp [intOf] <;> omega
    · have hend := hend (fun h => by rw [h] at hno; cases hno)
      have hall := HALL.out
      rw [hend] at hall
      simp only [List.append_nil, Nat.add_zero] at hall
      obtain ⟨e1, e2⟩ := Prod.mk.inj hall
      subst e1
      subst e2
      clear hok hnext hend hall
      go_wp2_with (go_at_call 14; (with_reducible refine G1.out.mono ?_); rintro e w1 ⟨v1, u1, rfl, hx1, hm1, hb1⟩)
      exact bodyPost_ret (v := .tuple #[u4, .int .i64 NN]) (by simp [results, Try.results16, go_sem]) rfl ⟨_, rfl, HO.out.bss.kept hb1, HB.out.trans (hb1.mono HB.out.size)⟩
end Go.Proofs.Ytmmaodcihpgdfaa
