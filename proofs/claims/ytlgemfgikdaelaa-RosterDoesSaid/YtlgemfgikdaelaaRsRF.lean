/- Stage 25's document: First. -/
import Derived.Test.YtlgemfgikdaelaaRsRE
import Derived.Test.YtlgemfgikdaelaaSkillRefA
namespace Go.Proofs.Ytlgemfgikdaelaa
open Go.RowKit

set_option maxHeartbeats 8000000 in
set_option maxRecDepth 100000 in
theorem refFirst25_any (va : Value) (H : List Hd) (need : Nat) (vn : Value) (nt : List Int) (w : World) (ha : RowsAt w 3 csHd va H) (hl : H.length ≤ 16) (hn : need < 2 ^ 64) (hnt : IntsAt w vn nt) (hnl : nt.length ≤ 1000) (hon : ∀ y ∈ H, y.on = true) (hbits : ∀ y ∈ H, y.bits < 2 ^ 64) :
    Calls Try.prog 14 #[va, .int .u64 (need : Int), vn] w fun e w' => e = .returned (.tuple #[.int .i64 (pickH H need nt).1, .bool (pickH H need nt).2]) ∧ w = w' := by
  obtain ⟨r, hr⟩ : ∃ r, pickH H need nt = r := ⟨_, rfl⟩
  rw [hr]
  have HRR := Lib.hid hr
  have HA := Lib.hid ha
  have HON := Lib.hid hon
  have HBT := Lib.hid hbits
  have GI0 := Lib.hid fun n => refIn_any vn nt n w hnt (by omega)
  have HN64 := Lib.hid hn
  obtain ⟨a, c, rfl⟩ := RowsAt.form ha
  obtain ⟨na, nc, rfl⟩ := hnt.form
  have l16 : (H.length : Int) ≤ 16 := by omega
  clear ha hon hbits hr hn hnt hnl hl
  go_enter Try.func14, Try.ntmps14
  go_wp2
  go_loopg [8] H.length (fun kx iv wr => ∃ k : Nat, k ≤ H.length ∧ H.length - k ≤ kx ∧ iv = .int .i64 k ∧ Hid (pickH (H.drop k) need nt = r) ∧ w = wr)
  case atStart => exact ⟨0, Nat.zero_le _, Nat.le_refl _, rfl, HRR.out, rfl⟩
  case round =>
    obtain ⟨k, hk, hkx, rfl, HP, rfl⟩ := hrel
    by_cases hlt : k < H.length
    · obtain ⟨g, o, cc, e, -, -, p0, p1, p2⟩ := hd_at HA.out k hlt
      simp only [Value.slice.injEq] at e
      obtain ⟨rfl, -, rfl⟩ := e
      have hpk := pickH_at H need nt k hlt
      rw [HP.out] at hpk
      have hb := HBT.out _ (List.getElem_mem hlt)
      have ho := HON.out _ (List.getElem_mem hlt)
      generalize H[k] = x at *
      obtain ⟨id, bi, on⟩ := x
      have hm : mayH need nt ⟨id, bi, on⟩ = (hasK bi need 64 && !inL nt id) := rfl
      rw [hm] at hpk
      dsimp only at hpk hb ho p0 p1 p2
      subst ho
      have gh := refHas_any bi need w hb HN64.out
      have gi := GI0.out id
      obtain ⟨t, ht⟩ : ∃ t, hasK bi need 64 = t := ⟨_, rfl⟩
      obtain ⟨u, hu⟩ : ∃ u, inL nt id = u := ⟨_, rfl⟩
      rw [ht, hu] at hpk
      rw [ht] at gh
      rw [hu] at gi
      have GH := Lib.hid gh
      have GI := Lib.hid gi
      have k0 : (0 : Int) ≤ (k : Int) := by omega
      have k1 : (k : Int) < (H.length : Int) := by omega
      have HK := Lib.hid (And.intro hlt hkx)
      have HPK := Lib.hid hpk
      clear hpk hb hlt hkx hk gh gi ht hu hm
      cases t with
      | false =>
        have HP2 := Lib.hid (show pickH (H.drop (k + 1)) need nt = r by have := HPK.out; rw [Bool.false_and, if_neg (by simp)] at this; exact this.symm)
        clear HPK
        go_wp2_with (go_at_call 32; (with_reducible refine GH.out.mono ?_); rintro e w2 ⟨rfl, rfl⟩)
        go_roundg (H.length - (k + 1))
        case measure => have := HK.out; omega
        case rel => exact ⟨k + 1, by have := HK.out; omega, Nat.le_refl _, by go_num, HP2.out, rfl⟩
      | true =>
        cases u with
        | true =>
          have HP2 := Lib.hid (show pickH (H.drop (k + 1)) need nt = r by have := HPK.out; rw [Bool.true_and, if_neg (by simp)] at this; exact this.symm)
          clear HPK
          go_wp2_with (first
            | (go_at_call 32; (with_reducible refine GH.out.mono ?_); rintro e w2 ⟨rfl, rfl⟩)
            | (go_at_call 20; (with_reducible refine GI.out.mono ?_); rintro e w2 ⟨rfl, rfl⟩))
          go_roundg (H.length - (k + 1))
          case measure => have := HK.out; omega
          case rel => exact ⟨k + 1, by have := HK.out; omega, Nat.le_refl _, by go_num, HP2.out, rfl⟩
        | false =>
          have HP2 := Lib.hid (show r = (id, true) by have := HPK.out; simpa using this)
          clear HPK
          go_wp2_with (first
            | (go_at_call 32; (with_reducible refine GH.out.mono ?_); rintro e w2 ⟨rfl, rfl⟩)
            | (go_at_call 20; (with_reducible refine GI.out.mono ?_); rintro e w2 ⟨rfl, rfl⟩))
          exact bodyPost_ret (v := .tuple #[.int .i64 id, .bool true]) (by simp [results, Try.results14, go_sem]) rfl ⟨by rw [HP2.out], rfl⟩
    · have e : k = H.length := by omega
      subst e
      have hfin : r = (0, false) := by
        have := HP.out
        rw [List.drop_length] at this
        exact this.symm
      have HFI := Lib.hid hfin
      clear hlt hk hkx hfin
      go_wp2
      exact bodyPost_ret (v := .tuple #[.int .i64 0, .bool false]) (by simp [results, Try.results14, go_sem]) rfl ⟨by rw [HFI.out], rfl⟩
end Go.Proofs.Ytlgemfgikdaelaa
