/- Stage 25's law RosterPicks: the walk. -/
import Derived.Test.YtlgemfgikdaelaaRsI
import Derived.Test.YtlgemfgikdaelaaRsRS
namespace Go.Proofs.Ytlgemfgikdaelaa
open Go.RowKit

theorem ra_at {w : World} {v : Value} {L : List Ra} (h : RowsAt w 4 csRa v L) (k : Nat) (hk : k < L.length) :
    ∃ g o c, v = .slice (some ⟨g, o, none⟩) L.length c ∧ L.length ≤ c ∧ g < w.heap.size ∧ w.cell? ⟨g, o + k * 4, none⟩ = some (.int .i64 L[k].kind) ∧ w.cell? ⟨g, o + k * 4 + 1, none⟩ = some (.int .i64 L[k].id) ∧
      w.cell? ⟨g, o + k * 4 + 2, none⟩ = some (.int .u64 (L[k].bits : Int)) ∧ w.cell? ⟨g, o + k * 4 + 3, none⟩ = some (.bool L[k].on) := by
  obtain ⟨g, o, c, e, h1, h2, h3⟩ := h.spot k hk
  exact ⟨g, o, c, e, h1, h2, h3 0 _ rfl, h3 1 _ rfl, h3 2 _ rfl, h3 3 _ rfl⟩
/-- .. with a list of hands beside it -/
def RsB (w0 w : World) (p : Nat) (room : Int) (L : List En) (v : Value) (H : List Hd) : Prop := ∃ F, RsAt F w p room L ∧ (∀ k, F k → w0.heap.size ≤ k) ∧ Below w0.heap.size w0 w ∧ RowsAt w 3 csHd v H ∧ OffV F v H.length
section
variable {w0 w w' : World} {p : Nat} {room : Int} {L L' : List En} {v : Value} {H : List Hd}
theorem RsB.s (h : RsB w0 w p room L v H) : RsS w0 w p room L := by
  obtain ⟨F, h1, h2, h3, h4, h5⟩ := h
  exact ⟨F, h1, h2, h3⟩
theorem RsB.rows (h : RsB w0 w p room L v H) : RowsAt w 3 csHd v H := by
  obtain ⟨F, h1, h2, h3, h4, h5⟩ := h
  exact h4
theorem RsB.kept (h : RsB w0 w p room L v H) (hb : Below w.heap.size w w') : RsB w0 w' p room L v H := by
  obtain ⟨F, h1, h2, h3, h4, h5⟩ := h
  exact ⟨F, h1.kept hb, h2, h3.trans (hb.mono h3.size), h4.kept hb, h5⟩
theorem RsB.step {P : Program} {f : Nat} {args : Array Value} {r : Value} (h : RsB w0 w p room L v H) (hc : ∀ F, RsAt F w p room L → Calls P f args w fun e w' => e = .returned r ∧ RsTo F w w' p room L') :
    Calls P f args w fun e w' => e = .returned r ∧ RsB w0 w' p room L' v H := by
  obtain ⟨F, h1, h2, h3, h4, h5⟩ := h
  refine (hc F h1).mono ?_
  rintro e w' ⟨rfl, F', h6, h7⟩
  exact ⟨rfl, F', h6, h7.from_ h2 h3.size, h3.trans (h7.only.below h2 h3.size), h4.only h7.only h5, h5.mv h4 h7⟩
/-- Free, and what it tells beside the roster -/
theorem RsS.free (h : RsS w0 w p room L) : Calls Try.prog 18 #[ptr25 p] w fun e w' => ∃ v, e = .returned v ∧ RsB w0 w' p room L v (freeE L) := by
  obtain ⟨F, h1, h2, h3⟩ := h
  refine (rFree_any h1).mono ?_
  rintro e w' ⟨v, rfl, ho, hb⟩
  exact ⟨v, rfl, F, h1.kept hb, h2, h3.trans (hb.mono h3.size), OwnR.rows csHd_len ho, OwnR.off ho fun k hk => h1.lt k hk⟩
theorem RsB.free (h : RsB w0 w p room L v H) : Calls Try.prog 18 #[ptr25 p] w fun e w' => ∃ v', e = .returned v' ∧ RowsAt w' 3 csHd v' (freeE L) ∧ Below w.heap.size w w' := by
  obtain ⟨F, h1, h2, h3, h4, h5⟩ := h
  refine (rFree_any h1).mono ?_
  rintro e w' ⟨v, rfl, ho, hb⟩
  exact ⟨v, rfl, OwnR.rows csHd_len ho, hb⟩
end
set_option maxHeartbeats 64000000 in
set_option maxRecDepth 100000 in
theorem rosterPicks_any (vl : Value) (l : List Ra) (nd : Int) (vn : Value) (nt : List Int) (w : World) (hl : RowsAt w 4 csRa vl l) (hbits : ∀ a ∈ l, a.bits < 2 ^ 64) (hnd : 0 ≤ nd ∧ nd < 18446744073709551616) (hnt : IntsAt w vn nt) :
    Calls Try.prog 4 #[vl, .int .u64 nd, vn] w fun e w' => e = .returned (.bool true) ∧ Below w.heap.size w w' := by
  have GAL := Lib.hid fun w' => rAlive_any w'
  obtain ⟨need, rfl⟩ := Int.eq_ofNat_of_zero_le hnd.1
  have hn64 : need < 2 ^ 64 := by omega
  obtain ⟨la, lc, rfl⟩ := RowsAt.form hl
  obtain ⟨na, nc, rfl⟩ := hnt.form
  by_cases hbig : l.length ≤ 60 ∧ nt.length ≤ 20
  · have b1 : (l.length : Int) ≤ 60 := by omega
    have b2 : (nt.length : Int) ≤ 20 := by omega
    have GN := Lib.hid (rNew_any 16 w)
    have HL := Lib.hid hl
    have HBT := Lib.hid hbits
    have HNT := Lib.hid hnt
    have HN64 := Lib.hid hn64
    have HNL := Lib.hid (show nt.length ≤ 1000 by omega)
    have GF := Lib.hid fun p w1 L (h : RsS w w1 p 16 L) => h.free
    have GP := Lib.hid fun p w1 L v (h : RsB w w1 p 16 L v (freeE L)) => (show Calls Try.prog 13 #[ptr25 p, .int .u64 (need : Int), .slice na nt.length nc] w1 fun e w' => e = .returned (.tuple #[.int .i64 (pickE L need nt).1, .bool (pickE L need nt).2]) ∧ Below w1.heap.size w1 w' from by
      obtain ⟨F, h1, h2, h3, h4, h5⟩ := h
      exact rPick_any h1 need hn64 _ nt (hnt.below h3) (by omega))
    clear hl hbits hnd hnt hn64 hbig
    go_enter Try.func4, Try.ntmps4
    go_wp2_with (go_at_call 6; (with_reducible refine GN.out.mono ?_); rintro e w1 ⟨p, F, rfl, q1, q2, q3⟩; have HS0 := Lib.hid (show RsS w w1 p 16 [] from ⟨F, q1, q2, q3⟩); clear q1 q2 q3)
    go_loopg [33] l.length (fun kx iv ws => ∃ (k : Nat) (L : List En), k ≤ l.length ∧ l.length - k ≤ kx ∧ iv = .int .i64 k ∧ Hid (RsS w ws p 16 L))
    case atStart => exact ⟨0, [], Nat.zero_le _, Nat.le_refl _, rfl, HS0.out⟩
    case round =>
      clear HS0
      obtain ⟨k, L, hk, hkx, rfl, HS⟩ := hrel
      by_cases hlt : k < l.length
      · obtain ⟨g, o, cc, e, -, -, p0, p1, p2, p3⟩ := ra_at (RowsAt.below HL.out (Nat.le_refl _) HS.out.below) k hlt
        cases e
        have hx := HBT.out _ (List.getElem_mem hlt)
        generalize l[k] = x at *
        obtain ⟨kind, id, bi, on⟩ := x
        dsimp only at p0 p1 p2 p3 hx
        have HA := Lib.hid ((Below.refl wr.heap.size wr).alloc (Nat.le_refl _) (.cells #[.int .i64 kind, .int .i64 id, .int .u64 (bi : Int), .bool on] 33))
        have HX := Lib.hid (Blk.new wr [.int .i64 kind, .int .i64 id, .int .u64 (bi : Int), .bool on] 33)
        have s0 := HX.out.cell 0 rfl
        have s1 := HX.out.cell 1 rfl
        have s2 := HX.out.cell 2 rfl
        have s3 := HX.out.cell 3 rfl
        have GD := Lib.hid (RsS.step (HS.out.kept HA.out) fun F h => rDo_any h ⟨kind, id, bi, on⟩ hx)
        dsimp only [rav] at GD
        generalize actE 16 L ⟨kind, id, bi, on⟩ = r at *
        obtain ⟨L', e', t'⟩ := r
        dsimp only at GD
        have HK := Lib.hid (And.intro hlt hkx)
        have k0 : (0 : Int) ≤ (k : Int) := by omega
        have k1 : (k : Int) < (l.length : Int) := by omega
        clear hx hlt hkx hk
        go_wp2_with (go_at_call 8; (with_reducible refine GD.out.mono ?_); rintro e w3 ⟨rfl, q1⟩; have HS3 := Lib.hid q1; clear q1)
        go_roundg (l.length - (k + 1))
        case measure => have := HK.out; omega
        case rel => exact ⟨k + 1, L', by have := HK.out; omega, Nat.le_refl _, by go_num, HS3.out⟩
      · have e : k = l.length := by omega
        subst e
        clear hlt hkx hk
        have hok := HS.out.ok
        have hf16 : (freeE L).length ≤ 16 := by have := freeE_len L; have := HS.out.fit; omega
        obtain ⟨r, hr⟩ : ∃ r, pickE L need nt = r := ⟨_, rfl⟩
        have hea := fun y (hy : y ∈ freeE L) => And.intro (pick_each hok hr hy) (And.intro (freeE_on hy) (busyE_free hok hy))
        have hbi := freeE_bits hok
        have gf := HS.out.free
        have gp := fun w1 v (h : RsB w w1 p 16 L v (freeE L)) => GP.out p w1 L v h
        simp only [hr] at gp
        have gfr := fun w1 v (h : RsB w w1 p 16 L v (freeE L)) => h.free
        have htk := fun x (h : pickE L need nt = (x, true)) => pick_takes hok h
        rw [hr] at htk
        generalize freeE L = H at *
        obtain ⟨x, t⟩ := r
        dsimp only at hea gp
        have f16 : (H.length : Int) ≤ 16 := by omega
        have HF16 := Lib.hid hf16
        have HEA := Lib.hid hea
        have HBI := Lib.hid hbi
        have GFF := Lib.hid gf
        have GPP := Lib.hid gp
        have GFR := Lib.hid gfr
        have HTK := Lib.hid htk
        clear hok hf16 hr hea hbi gf gp gfr htk GP GF
        go_wp2_with (first
          | (go_at_call 18; (with_reducible refine GFF.out.mono ?_); rintro e w4 ⟨v4, rfl, q⟩; obtain ⟨fa, fc, e⟩ := RowsAt.form q.rows; subst e; have HS4 := Lib.hid q; clear q)
          | (go_at_call 13; (with_reducible refine (GPP.out _ _ HS4.out).mono ?_); rintro e w5 ⟨rfl, hb⟩; have HS5' := Lib.hid (HS4.out.kept hb); clear hb))
        clear GFF GPP HS HS4
        go_loopg [52] H.length (fun kx iv ws => ∃ k : Nat, k ≤ H.length ∧ H.length - k ≤ kx ∧ iv = .int .i64 k ∧ Hid (RsB w ws p 16 L (.slice fa H.length fc) H))
        case atStart => exact ⟨0, Nat.zero_le _, Nat.le_refl _, rfl, HS5'.out⟩
        case round =>
          clear HS5'
          obtain ⟨k, hk, hkx, rfl, HS⟩ := hrel
          by_cases hlt : k < H.length
          · obtain ⟨g, o, cc, e, -, -, p0, p1, p2⟩ := hd_at HS.out.rows k hlt
            simp only [Value.slice.injEq] at e
            obtain ⟨rfl, -, rfl⟩ := e
            obtain ⟨⟨hm1, hm2⟩, hon, hbz⟩ := HEA.out _ (List.getElem_mem hlt)
            have hb64 := HBI.out _ (List.getElem_mem hlt)
            generalize H[k] = y at *
            obtain ⟨id, bi, on⟩ := y
            dsimp only at p0 p1 p2 hm1 hm2 hon hbz hb64
            subst hon
            have HS5 := Lib.hid (HS.out.kept ((Below.refl wr.heap.size wr).alloc (Nat.le_refl _) (.cells #[.int .i64 id, .int .u64 (bi : Int), .bool true] 52)))
            have gb := (show ∀ w1, RsB w w1 p 16 L (.slice (some ⟨g, o, none⟩) H.length fc) H → Calls Try.prog 19 #[ptr25 p, .int .i64 id] w1 fun e w' => e = .returned (.bool false) ∧ Below w1.heap.size w1 w' from fun w1 h => by
              obtain ⟨F, h1, h2, h3, h4, h5⟩ := h
              have := rBusy_any h1 id
              rwa [hbz] at this)
            have GB := Lib.hid (gb _ HS5.out)
            have gh := fun W => kHas_any bi need W hb64 HN64.out
            have gi := refIn_any _ nt id _ (HNT.out.below HS5.out.s.below) (by have := HNL.out; omega)
            have hm : mayH need nt ⟨id, bi, true⟩ = (hasK bi need 64 && !inL nt id) := rfl
            rw [hm] at hm1 hm2
            have HX := Lib.hid (Blk.new wr [.int .i64 id, .int .u64 (bi : Int), .bool true] 52)
            have s0 := HX.out.cell 0 rfl
            have s1 := HX.out.cell 1 rfl
            have s2 := HX.out.cell 2 rfl
            have HK := Lib.hid (And.intro hlt hkx)
            have k0 : (0 : Int) ≤ (k : Int) := by omega
            have k1 : (k : Int) < (H.length : Int) := by omega
            obtain ⟨hs, ehs⟩ : ∃ hs, hasK bi need 64 = hs := ⟨_, rfl⟩
            obtain ⟨iv, eiv⟩ : ∃ iv, inL nt id = iv := ⟨_, rfl⟩
            rw [ehs, eiv] at hm1 hm2
            simp only [ehs] at gh
            rw [eiv] at gi
            have GH := Lib.hid gh
            have GI := Lib.hid gi
            clear gb gh gi hm hbz hb64 hlt hkx hk ehs eiv
            cases hs with
            | false =>
              have h2 := fun h => hm2 h rfl
              clear hm1 hm2
              cases t with
              | false =>
                go_wp2_with (first
                  | (go_at_call 23; (with_reducible refine (GH.out _).mono ?_); rintro e u1 ⟨rfl, rfl⟩)
                  | (go_at_call 20; (with_reducible refine GI.out.mono ?_); rintro e u2 ⟨rfl, rfl⟩)
                  | (go_at_call 19; (with_reducible refine GB.out.mono ?_); rintro e u3 ⟨rfl, hb⟩; have HS6 := Lib.hid (HS5.out.kept hb); clear hb))
                go_roundg (H.length - (k + 1))
                case measure => have := HK.out; omega
                case rel => exact ⟨k + 1, by have := HK.out; omega, Nat.le_refl _, by go_num, HS6.out⟩
              | true =>
                have hne : (id == x) = false := beq_noI (h2 rfl)
                clear h2
                go_wp2_with (first
                  | (go_at_call 23; (with_reducible refine (GH.out _).mono ?_); rintro e u1 ⟨rfl, rfl⟩)
                  | (go_at_call 20; (with_reducible refine GI.out.mono ?_); rintro e u2 ⟨rfl, rfl⟩)
                  | (go_at_call 19; (with_reducible refine GB.out.mono ?_); rintro e u3 ⟨rfl, hb⟩; have HS6 := Lib.hid (HS5.out.kept hb); clear hb))
                go_roundg (H.length - (k + 1))
                case measure => have := HK.out; omega
                case rel => exact ⟨k + 1, by have := HK.out; omega, Nat.le_refl _, by go_num, HS6.out⟩
            | true =>
              cases iv with
              | true =>
                have h2 := fun h => hm2 h rfl
                clear hm1 hm2
                cases t with
                | false =>
                  go_wp2_with (first
                    | (go_at_call 23; (with_reducible refine (GH.out _).mono ?_); rintro e u1 ⟨rfl, rfl⟩)
                    | (go_at_call 20; (with_reducible refine GI.out.mono ?_); rintro e u2 ⟨rfl, rfl⟩)
                    | (go_at_call 19; (with_reducible refine GB.out.mono ?_); rintro e u3 ⟨rfl, hb⟩; have HS6 := Lib.hid (HS5.out.kept hb); clear hb))
                  go_roundg (H.length - (k + 1))
                  case measure => have := HK.out; omega
                  case rel => exact ⟨k + 1, by have := HK.out; omega, Nat.le_refl _, by go_num, HS6.out⟩
                | true =>
                  have hne : (id == x) = false := beq_noI (h2 rfl)
                  clear h2
                  go_wp2_with (first
                    | (go_at_call 23; (with_reducible refine (GH.out _).mono ?_); rintro e u1 ⟨rfl, rfl⟩)
                    | (go_at_call 20; (with_reducible refine GI.out.mono ?_); rintro e u2 ⟨rfl, rfl⟩)
                    | (go_at_call 19; (with_reducible refine GB.out.mono ?_); rintro e u3 ⟨rfl, hb⟩; have HS6 := Lib.hid (HS5.out.kept hb); clear hb))
                  go_roundg (H.length - (k + 1))
                  case measure => have := HK.out; omega
                  case rel => exact ⟨k + 1, by have := HK.out; omega, Nat.le_refl _, by go_num, HS6.out⟩
              | false =>
                obtain ⟨ht, hle⟩ := hm1 rfl
                subst ht
                clear hm2
                by_cases hex : id = x
                · subst hex
                  clear hle
                  go_wp2_with (first
                    | (go_at_call 23; (with_reducible refine (GH.out _).mono ?_); rintro e u1 ⟨rfl, rfl⟩)
                    | (go_at_call 20; (with_reducible refine GI.out.mono ?_); rintro e u2 ⟨rfl, rfl⟩)
                    | (go_at_call 19; (with_reducible refine GB.out.mono ?_); rintro e u3 ⟨rfl, hb⟩; have HS6 := Lib.hid (HS5.out.kept hb); clear hb))
                  go_roundg (H.length - (k + 1))
                  case measure => have := HK.out; omega
                  case rel => exact ⟨k + 1, by have := HK.out; omega, Nat.le_refl _, by go_num, HS6.out⟩
                · have hne : (id == x) = false := beq_noI hex
                  clear hex
                  go_wp2_with (first
                    | (go_at_call 23; (with_reducible refine (GH.out _).mono ?_); rintro e u1 ⟨rfl, rfl⟩)
                    | (go_at_call 20; (with_reducible refine GI.out.mono ?_); rintro e u2 ⟨rfl, rfl⟩)
                    | (go_at_call 19; (with_reducible refine GB.out.mono ?_); rintro e u3 ⟨rfl, hb⟩; have HS6 := Lib.hid (HS5.out.kept hb); clear hb))
                  go_roundg (H.length - (k + 1))
                  case measure => have := HK.out; omega
                  case rel => exact ⟨k + 1, by have := HK.out; omega, Nat.le_refl _, by go_num, HS6.out⟩
          · have e : k = H.length := by omega
            subst e
            clear hlt hkx hk HEA HBI
            have N1 := Lib.hid fun w => rPick_nil w 0 (.slice none 0 0)
            have N2 := Lib.hid fun w => rFindR_nil w 1
            have N3 := Lib.hid fun w => rAdd_nil w 1 1
            have N4 := Lib.hid fun w => rSet_nil w 1 true
            have N5 := Lib.hid fun w => rTake_nil w 1
            have N6 := Lib.hid fun w => rGive_nil w 1
            have N7 := Lib.hid fun w => rBusy_nil w 1
            have N8 := Lib.hid fun w => rFree_nil w
            have N9 := Lib.hid fun w => rView_nil w
            have GSM := Lib.hid fun va w1 (ha : RowsAt w1 3 csHd va H) (hb : RowsAt w1 3 csHd (.slice fa H.length fc) H) => refSame25_any va (.slice fa H.length fc) H w1 ha hb (by have := HF16.out; omega)
            dsimp only [hdv] at N2
            cases t with
            | false =>
              have HW := HS
              clear HTK HS
              go_wp2_with (first
                | (go_at_call 13; (with_reducible refine (N1.out _).mono ?_); rintro e n1 ⟨rfl, rfl⟩)
                | (go_at_call 21; (with_reducible refine (N2.out _).mono ?_); rintro e n2 ⟨rfl, hb⟩; have HW2 := Lib.hid fun o => (HW.out.kept hb).kept ((Below.refl n2.heap.size n2).alloc (Nat.le_refl _) o); clear hb)
                | (go_at_call 18; refine (GFR.out _ _ (HW2.out _)).mono ?_; rintro e n3 ⟨v3, rfl, r1, r2⟩; obtain ⟨a3, c3, e⟩ := RowsAt.form r1; subst e; have HW3 := Lib.hid ((HW2.out _).kept r2); have HR3 := Lib.hid r1; clear r1 r2)
                | (go_at_call 16; (with_reducible refine (GSM.out _ _ HR3.out HW3.out.rows).mono ?_); rintro e n4 ⟨rfl, hb⟩; have HW4 := Lib.hid (HW3.out.kept hb); clear hb)
                | (go_at_call 26; (with_reducible refine (N3.out _).mono ?_); rintro e n5 ⟨rfl, rfl⟩)
                | (go_at_call 27; (with_reducible refine (N4.out _).mono ?_); rintro e n6 ⟨rfl, rfl⟩)
                | (go_at_call 24; (with_reducible refine (N5.out _).mono ?_); rintro e n7 ⟨rfl, rfl⟩)
                | (go_at_call 25; (with_reducible refine (N6.out _).mono ?_); rintro e n8 ⟨rfl, rfl⟩)
                | (go_at_call 19; (with_reducible refine (N7.out _).mono ?_); rintro e n9 ⟨rfl, rfl⟩)
                | (go_at_call 18; (with_reducible refine (N8.out _).mono ?_); rintro e n10 ⟨rfl, rfl⟩)
                | (go_at_call 17; (with_reducible refine (N9.out _).mono ?_); rintro e n11 ⟨rfl, rfl⟩)
                | (go_at_call 5; (with_reducible refine (GAL.out _).mono ?_); rintro e n12 ⟨rfl, hb⟩; have HZ := Lib.hid (HW4.out.s.below.trans (hb.mono HW4.out.s.below.size)); clear hb))
              go_ret
              exact ⟨rfl, HZ.out⟩
            | true =>
              obtain ⟨L1, e1, e2, e3, e4⟩ := HTK.out x rfl
              have GT := Lib.hid fun w1 (h : RsB w w1 p 16 L (.slice fa H.length fc) H) => RsB.step h fun F h => e1 ▸ rTake_any h x
              have GU := Lib.hid (show ∀ w1, RsB w w1 p 16 L1 (.slice fa H.length fc) H → Calls Try.prog 19 #[ptr25 p, .int .i64 x] w1 fun e w' => e = .returned (.bool true) ∧ Below w1.heap.size w1 w' from fun w1 h => by
                obtain ⟨F, h1, h2, h3, h4, h5⟩ := h
                have := rBusy_any h1 x
                rwa [e2] at this)
              have GV := Lib.hid fun w1 (h : RsB w w1 p 16 L1 (.slice fa H.length fc) H) => h.free
              have GG := Lib.hid fun w1 (h : RsB w w1 p 16 L1 (.slice fa H.length fc) H) => RsB.step h fun F h => e4 ▸ rGive_any h x
              obtain ⟨m, hM⟩ : ∃ m, (freeE L1).length = m := ⟨_, rfl⟩
              rw [hM] at e3
              have m1 : ((m : Int) != (H.length : Int) - 1) = false := by simp; omega
              clear HTK e1 e2 e3 e4
              go_wp2_with (first
                | (go_at_call 24; refine (GT.out _ HS.out).mono ?_; rintro e t1 ⟨rfl, q⟩; have HT1 := Lib.hid q; clear q HS)
                | (go_at_call 19; refine (GU.out _ HT1.out).mono ?_; rintro e t2 ⟨rfl, hb⟩; have HT2 := Lib.hid (HT1.out.kept hb); clear hb HT1)
                | (go_at_call 18; refine (GV.out _ HT2.out).mono ?_; rintro e t3 ⟨v3, rfl, r1, hb⟩; obtain ⟨a3, c3, e⟩ := RowsAt.form r1; rw [hM] at e; subst e; have HT3 := Lib.hid (HT2.out.kept hb); clear r1 hb HT2)
                | (go_at_call 25; refine (GG.out _ HT3.out).mono ?_; rintro e t4 ⟨rfl, q⟩; have HW := Lib.hid q; clear q HT3)
                | (go_at_call 13; (with_reducible refine (N1.out _).mono ?_); rintro e n1 ⟨rfl, rfl⟩)
                | (go_at_call 21; (with_reducible refine (N2.out _).mono ?_); rintro e n2 ⟨rfl, hb⟩; have HW2 := Lib.hid fun o => (HW.out.kept hb).kept ((Below.refl n2.heap.size n2).alloc (Nat.le_refl _) o); clear hb)
                | (go_at_call 18; refine (GFR.out _ _ (HW2.out _)).mono ?_; rintro e n3 ⟨v3, rfl, r1, r2⟩; obtain ⟨a3, c3, e⟩ := RowsAt.form r1; subst e; have HW3 := Lib.hid ((HW2.out _).kept r2); have HR3 := Lib.hid r1; clear r1 r2)
                | (go_at_call 16; (with_reducible refine (GSM.out _ _ HR3.out HW3.out.rows).mono ?_); rintro e n4 ⟨rfl, hb⟩; have HW4 := Lib.hid (HW3.out.kept hb); clear hb)
                | (go_at_call 26; (with_reducible refine (N3.out _).mono ?_); rintro e n5 ⟨rfl, rfl⟩)
                | (go_at_call 27; (with_reducible refine (N4.out _).mono ?_); rintro e n6 ⟨rfl, rfl⟩)
                | (go_at_call 24; (with_reducible refine (N5.out _).mono ?_); rintro e n7 ⟨rfl, rfl⟩)
                | (go_at_call 25; (with_reducible refine (N6.out _).mono ?_); rintro e n8 ⟨rfl, rfl⟩)
                | (go_at_call 19; (with_reducible refine (N7.out _).mono ?_); rintro e n9 ⟨rfl, rfl⟩)
                | (go_at_call 18; (with_reducible refine (N8.out _).mono ?_); rintro e n10 ⟨rfl, rfl⟩)
                | (go_at_call 17; (with_reducible refine (N9.out _).mono ?_); rintro e n11 ⟨rfl, rfl⟩)
                | (go_at_call 5; (with_reducible refine (GAL.out _).mono ?_); rintro e n12 ⟨rfl, hb⟩; have HZ := Lib.hid (HW4.out.s.below.trans (hb.mono HW4.out.s.below.size)); clear hb))
              go_ret
              exact ⟨rfl, HZ.out⟩
  · clear hl hnt hnd hbits hn64
    by_cases b1 : (l.length : Int) ≤ 60
    · have b2 : ¬ (nt.length : Int) ≤ 20 := by omega
      clear hbig
      go_enter Try.func4, Try.ntmps4
      go_wp2_with (go_at_call 5; (with_reducible refine (GAL.out _).mono ?_); rintro e w1 ⟨rfl, hb⟩; have HB := Lib.hid hb; clear hb)
      go_ret
      exact ⟨rfl, HB.out⟩
    · clear hbig
      go_enter Try.func4, Try.ntmps4
      go_wp2_with (go_at_call 5; (with_reducible refine (GAL.out _).mono ?_); rintro e w1 ⟨rfl, hb⟩; have HB := Lib.hid hb; clear hb)
      go_ret
      exact ⟨rfl, HB.out⟩
end Go.Proofs.Ytlgemfgikdaelaa
