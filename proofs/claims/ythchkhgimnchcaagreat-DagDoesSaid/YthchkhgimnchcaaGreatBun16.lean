/- Texts of this proof, joined: BtB; BtC; AppK; AppArc. -/
import Derived.Test.YthchkhgimnchcaaGreatBun15
import Derived.Deep.AppendLies
/- Stage 23's program: namesOf: who has which ID. -/
namespace Go.Proofs.YthchkhgimnchcaaGreat
open Go.RowKit Go.Maps

/-- who has which ID: the maps' blocks -/
abbrev nmv (bk bs : Nat) : Value := .agg #[.map (some bk), .map (some bs)]
structure NmAt (w : World) (bk bs : Nat) (K : List Tk) (L : List Sp) : Prop where
  kn : ∃ m, MapI w bk m (stO K)
  sp : ∃ m, MapI w bs m (cntG (idsO L))
theorem NmAt.kept {w w' : World} {bk bs : Nat} {K : List Tk} {L : List Sp} (h : NmAt w bk bs K L) (hb : Below w.heap.size w w') : NmAt w' bk bs K L := by
  obtain ⟨⟨m, h1⟩, ⟨m2, h2⟩⟩ := h
  exact ⟨⟨m, h1.kept hb⟩, ⟨m2, h2.kept hb⟩⟩
theorem tks_spot {w : World} {v : Value} {K : List Tk} (h : RowsAt w 14 csTk v K) (k : Nat) (hk : k < K.length) : ∃ g o cc id prio sk ge fx fy tx ty a c l st seq si lo ba bc bu, K[k] = ⟨⟨id, prio, sk, ge, fx, fy, tx, ty, a, c, l⟩, st, seq, si, lo, ba, bc, bu⟩ ∧ v = .slice (some ⟨g, o, none⟩) K.length cc ∧ K.length ≤ cc ∧
    w.cell? ⟨g, o + k * 14, none⟩ = some (.int .i64 id) ∧ w.cell? ⟨g, o + k * 14 + 1, none⟩ = some (.int .i64 prio) ∧ w.cell? ⟨g, o + k * 14 + 2, none⟩ = some (.int .u64 sk) ∧ w.cell? ⟨g, o + k * 14 + 3, none⟩ = some (.int .u64 ge) ∧ w.cell? ⟨g, o + k * 14 + 4, none⟩ = some (.int .i64 fx) ∧ w.cell? ⟨g, o + k * 14 + 5, none⟩ = some (.int .i64 fy) ∧ w.cell? ⟨g, o + k * 14 + 6, none⟩ = some (.int .i64 tx) ∧ w.cell? ⟨g, o + k * 14 + 7, none⟩ = some (.int .i64 ty) ∧ w.cell? ⟨g, o + k * 14 + 8, none⟩ = some (.slice a l.length c) ∧ w.cell? ⟨g, o + k * 14 + 9, none⟩ = some (.int .i64 st) ∧ w.cell? ⟨g, o + k * 14 + 10, none⟩ = some (.int .i64 seq) ∧ w.cell? ⟨g, o + k * 14 + 11, none⟩ = some (.int .i64 si) ∧ w.cell? ⟨g, o + k * 14 + 12, none⟩ = some (.int .i64 lo) ∧ w.cell? ⟨g, o + k * 14 + 13, none⟩ = some (.slice ba bu.length bc) := by
  obtain ⟨g, o, cc, e, hc, _, hx⟩ := RowsAt.spot h k hk
  generalize K[k] = x at *
  obtain ⟨⟨id, prio, sk, ge, fx, fy, tx, ty, a, c, l⟩, st, seq, si, lo, ba, bc, bu⟩ := x
  exact ⟨g, o, cc, id, prio, sk, ge, fx, fy, tx, ty, a, c, l, st, seq, si, lo, ba, bc, bu, rfl, e, hc, hx 0 _ rfl, hx 1 _ rfl, hx 2 _ rfl, hx 3 _ rfl, hx 4 _ rfl, hx 5 _ rfl, hx 6 _ rfl, hx 7 _ rfl, hx 8 _ rfl, hx 9 _ rfl, hx 10 _ rfl, hx 11 _ rfl, hx 12 _ rfl, hx 13 _ rfl⟩
theorem nm_start (w : World) : Blk ((((w.alloc (.cells #[.map none, .map none] 93)).alloc (.map #[] 0)).alloc (.map #[] 0)).alloc (.cells #[.map (some (w.heap.size + 1)), .map (some (w.heap.size + 1 + 1))] 93)) (w.heap.size + 1 + 1 + 1) [.map (some (w.heap.size + 1)), .map (some (w.heap.size + 1 + 1))] ∧
    MapI ((((w.alloc (.cells #[.map none, .map none] 93)).alloc (.map #[] 0)).alloc (.map #[] 0)).alloc (.cells #[.map (some (w.heap.size + 1)), .map (some (w.heap.size + 1 + 1))] 93)) (w.heap.size + 1) 0 (fun _ => none) ∧
    MapI ((((w.alloc (.cells #[.map none, .map none] 93)).alloc (.map #[] 0)).alloc (.map #[] 0)).alloc (.cells #[.map (some (w.heap.size + 1)), .map (some (w.heap.size + 1 + 1))] 93)) (w.heap.size + 1 + 1) 0 (fun _ => none) ∧
    Blk ((((w.alloc (.cells #[.map none, .map none] 93)).alloc (.map #[] 0)).alloc (.map #[] 0)).alloc (.cells #[.map (some (w.heap.size + 1)), .map (some (w.heap.size + 1 + 1))] 93)) w.heap.size [.map none, .map none] ∧
    Below w.heap.size w ((((w.alloc (.cells #[.map none, .map none] 93)).alloc (.map #[] 0)).alloc (.map #[] 0)).alloc (.cells #[.map (some (w.heap.size + 1)), .map (some (w.heap.size + 1 + 1))] 93)) := by
  have b1 := (Below.refl w.heap.size w).alloc (Nat.le_refl _) (.cells #[.map none, .map none] 93)
  have f1 := Blk.new w [.map none, .map none] 93
  have s1 : (w.alloc (.cells #[.map none, .map none] 93)).heap.size = w.heap.size + 1 := by simp
  generalize w.alloc (.cells #[.map none, .map none] 93) = W1 at *
  generalize w.heap.size = n at *
  have b2 := (Below.refl W1.heap.size W1).alloc (Nat.le_refl _) (.map #[] 0)
  have f2 := MapI.new W1
  have s2 : (W1.alloc (.map #[] 0)).heap.size = n + 1 + 1 := by simp [s1]
  rw [s1] at f2
  generalize W1.alloc (.map #[] 0) = W2 at *
  have b3 := (Below.refl W2.heap.size W2).alloc (Nat.le_refl _) (.map #[] 0)
  have f3 := MapI.new W2
  have s3 : (W2.alloc (.map #[] 0)).heap.size = n + 1 + 1 + 1 := by simp [s2]
  rw [s2] at f3
  generalize W2.alloc (.map #[] 0) = W3 at *
  have b4 := (Below.refl W3.heap.size W3).alloc (Nat.le_refl _) (.cells #[.map (some (n + 1)), .map (some (n + 1 + 1))] 93)
  have f4 := Blk.new W3 [.map (some (n + 1)), .map (some (n + 1 + 1))] 93
  rw [s3] at f4
  have c3 := b3.trans (b4.mono b3.size)
  have c2 := b2.trans (c3.mono b2.size)
  have hs : n ≤ W1.heap.size := by omega
  exact ⟨f4, f2.kept c3, f3.kept b4, f1.kept c2, b1.trans (c2.mono hs)⟩

set_option maxHeartbeats 4000000 in
set_option maxRecDepth 100000 in
theorem namesOf_any (vk vl : Value) (K : List Tk) (L : List Sp) (w : World) (hk : RowsAt w 14 csTk vk K) (hl : SpsAt w vl L) (hkl : K.length ≤ 1000) (hll : L.length ≤ 1000) (hK : ∀ t ∈ K, I64 t.sp.id ∧ I64 t.st) (hL : ∀ x ∈ L, I64 x.id) :
    Calls Tryz.prog 53 #[vk, vl] w fun e w' => ∃ bk bs, e = .returned (nmv bk bs) ∧ NmAt w' bk bs K L ∧ Below w.heap.size w w' := by
  obtain ⟨va, vc, rfl⟩ := RowsAt.form hk
  obtain ⟨la, lc, rfl⟩ := hl.form
  have HK := Lib.hid hk
  have HL := Lib.hid hl
  have HK64 := Lib.hid hK
  have HL64 := Lib.hid hL
  obtain ⟨hN, hM1, hM2, hZ, hB⟩ := nm_start w
  have HN := Lib.hid hN
  have HM1 := Lib.hid hM1
  have HM2 := Lib.hid hM2
  have HZ := Lib.hid hZ
  have HB := Lib.hid hB
  have hmk : ∀ w : World, (Instr.makeMap 91 none).run Tryz.prog w = .ok (.map (some w.heap.size)) (w.alloc (.map #[] 0)) := fun w => by kernel_rfl
  clear hk hl hK hL hN hM1 hM2 hZ hB
  go_enter Tryz.func53, Tryz.ntmps53
  go_upto_region 2 with (fail)
  generalize (((w.alloc (.cells #[.map none, .map none] 93)).alloc (.map #[] 0)).alloc (.map #[] 0)).alloc (.cells #[.map (some (w.heap.size + 1)), .map (some (w.heap.size + 1 + 1))] 93) = W1 at *
  obtain ⟨nb, hnb⟩ : ∃ nb, nb = w.heap.size + 1 + 1 + 1 := ⟨_, rfl⟩
  obtain ⟨sb, hsb⟩ : ∃ sb, sb = w.heap.size + 1 + 1 := ⟨_, rfl⟩
  obtain ⟨mb, hmb⟩ : ∃ mb, mb = w.heap.size + 1 := ⟨_, rfl⟩
  rw [← hnb, ← hsb, ← hmb] at HN
  rw [← hmb] at HM1
  rw [← hsb] at HM2
  rw [← hnb]
  have HWM := Lib.hid (show w.heap.size < mb ∧ w.heap.size < sb ∧ w.heap.size < nb ∧ mb ≠ sb ∧ nb ≠ mb ∧ nb ≠ sb by omega)
  clear hnb hsb hmb hmk
  go_wp2
  go_loopw [17] (fun i wr => ∃ k m : Nat, k ≤ K.length ∧ m ≤ k ∧ i = .int .i64 k ∧ MapI wr mb m (stO (K.take k)) ∧ Only (fun x => x = mb) W1 wr) (fun i _ => K.length - (Go.RowKit.intOf i).toNat)
  case atStart => exact ⟨0, 0, Nat.zero_le _, Nat.le_refl _, rfl, HM1.out, Only.refl _ _⟩
  case round =>
    obtain ⟨k, m, hk, hmk, rfl, hmi, ho⟩ := hrel
    have hBr : Below w.heap.size w wr := HB.out.trans ((ho.mono (F' := fun k => w.heap.size ≤ k) fun k e => by have := HWM.out; omega).below (fun k hk => hk) HB.out.size)
    have hNr := HN.out.only ho (fun e => HWM.out.2.2.2.2.1 e)
    by_cases hlt : k < K.length
    · obtain ⟨g, o, cc, id, prio, sk, ge, fx, fy, tx, ty, a, c, l, st, seq, si, lo, ba, bc, bu, he, e, hlc, p0, p1, p2, p3, p4, p5, p6, p7, p8, p9, p10, p11, p12, p13⟩ := tks_spot (RowsAt.kept HK.out hBr) k hlt
      cases e
      have hx64 := HK64.out _ (List.getElem_mem hlt)
      have hst := stO_take K k hlt
      rw [he] at hx64 hst
      dsimp only at hx64 hst
      have hal := (Below.refl wr.heap.size wr).alloc (Nat.le_refl _) (.cells #[.int .i64 id, .int .i64 prio, .int .u64 sk, .int .u64 ge, .int .i64 fx, .int .i64 fy, .int .i64 tx, .int .i64 ty, .slice a l.length c, .int .i64 st, .int .i64 seq, .int .i64 si, .int .i64 lo, .slice ba bu.length bc] 51)
      have hX := Blk.new wr [.int .i64 id, .int .i64 prio, .int .u64 sk, .int .u64 ge, .int .i64 fx, .int .i64 fy, .int .i64 tx, .int .i64 ty, .slice a l.length c, .int .i64 st, .int .i64 seq, .int .i64 si, .int .i64 lo, .slice ba bu.length bc] 51
      have x0 := hX.cell 0 rfl
      have x9 := hX.cell 9 rfl
      have hN5 := hNr.kept hal
      have g0 := hN5.cell 0 rfl
      have hm5 := hmi.kept hal
      have hlk := hm5.look hx64.1
      have k1 : (k : Int) < (K.length : Int) := by omega
      have k0 : (0 : Int) ≤ (k : Int) := by omega
      have HMI := Lib.hid hmi
      have HM5 := Lib.hid hm5
      have HO := Lib.hid ho
      have HAL := Lib.hid hal
      have HX64 := Lib.hid hx64
      obtain ⟨so, hso⟩ : ∃ so, stO (K.take k) id = so := ⟨_, rfl⟩
      rw [hso] at hlk hst
      have HSO := Lib.hid hso
      cases so with
      | some s =>
        simp only [Option.getD_some, Option.isSome_some, if_true] at hlk hst
        have HST := Lib.hid hst
        clear hmi hm5 ho hal hX hN5 hNr hBr hst hx64 he hso
        go_wp2
        go_roundw
        case rel => exact ⟨k + 1, m, by omega, by omega, by go_num, by rw [HST.out]; exact HM5.out, HO.out.trans (Only.of_below HAL.out)⟩
        case measure => simp [Go.RowKit.intOf]; omega
      | none =>
        simp only [Option.getD_none, Option.isSome_none, if_false, Bool.false_eq_true] at hlk hst
        obtain ⟨w7, hrun, h7, g7⟩ := hm5.put (by omega) hx64.1 st hx64.2
        rw [hso, Option.isSome_none, if_neg (by decide), ← hst] at h7
        have H7 := Lib.hid h7
        have G7 := Lib.hid g7
        clear hmi hm5 ho hal hX hN5 hNr hBr hst hx64 he hso h7 g7
        go_wp2
        go_roundw
        case rel => exact ⟨k + 1, m + 1, by omega, by omega, by go_num, H7.out, (HO.out.trans (Only.of_below HAL.out)).grownN G7.out fun b e => by injection e with e; exact .inl e.symm⟩
        case measure => simp [Go.RowKit.intOf]; omega
    · have hke : k = K.length := by omega
      subst hke
      rw [List.take_length] at hmi
      have hsb2 := HM2.out.same (ho.block sb HM2.out.lt fun e => HWM.out.2.2.2.1 e.symm)
      have hZr := HZ.out.only ho (fun e => by have := HWM.out; omega)
      have HMI := Lib.hid hmi
      have HSB := Lib.hid hsb2
      have HZ2 := Lib.hid hZr
      have HN2 := Lib.hid hNr
      have HB2 := Lib.hid hBr
      generalize wr = W2 at *
      clear hmi ho hsb2 hZr hNr hBr HN HZ HB HM1 HM2 HK HK64 hlt hk
      go_wp2
      go_loopw [42] (fun i wr => ∃ k m : Nat, k ≤ L.length ∧ m ≤ k ∧ i = .int .i64 k ∧ MapI wr sb m (cntG (idsO (L.take k))) ∧ Only (fun x => x = sb) W2 wr) (fun i _ => L.length - (Go.RowKit.intOf i).toNat)
      case atStart => exact ⟨0, 0, Nat.zero_le _, Nat.le_refl _, rfl, HSB.out, Only.refl _ _⟩
      case round =>
        obtain ⟨k, m2, hk, hmk2, rfl, hmi, ho⟩ := hrel
        have hBr : Below w.heap.size w wr := HB2.out.trans ((ho.mono (F' := fun k => w.heap.size ≤ k) fun k e => by have := HWM.out; omega).below (fun k hk => hk) HB2.out.size)
        have hNr := HN2.out.only ho (fun e => HWM.out.2.2.2.2.2 e)
        by_cases hlt : k < L.length
        · obtain ⟨g, o, cc, id, prio, sk, ge, fx, fy, tx, ty, a, c, l, he, e, hlc, p0, p1, p2, p3, p4, p5, p6, p7, p8, hi8⟩ := (HL.out.kept hBr).spot k hlt
          cases e
          have hx64 := HL64.out _ (List.getElem_mem hlt)
          have hst := idsO_take L k hlt
          rw [he] at hx64 hst
          dsimp only at hx64 hst
          have hal := (Below.refl wr.heap.size wr).alloc (Nat.le_refl _) (.cells #[.int .i64 id, .int .i64 prio, .int .u64 sk, .int .u64 ge, .int .i64 fx, .int .i64 fy, .int .i64 tx, .int .i64 ty, .slice a l.length c] 49)
          have hX := Blk.new wr [.int .i64 id, .int .i64 prio, .int .u64 sk, .int .u64 ge, .int .i64 fx, .int .i64 fy, .int .i64 tx, .int .i64 ty, .slice a l.length c] 49
          have x0 := hX.cell 0 rfl
          have hN5 := hNr.kept hal
          have g1 := hN5.cell 1 rfl
          have hm5 := hmi.kept hal
          have hlk := hm5.look1 hx64
          rw [cntG_getD] at hlk
          have hc1 : (idsO (L.take k)).count id ≤ 1000 := by
            have := List.count_le_length (a := id) (l := idsO (L.take k))
            rw [idsO_len, List.length_take] at this
            omega
          have hup := cntG_snoc (idsO (L.take k)) id
          rw [← hst] at hup
          generalize (idsO (L.take k)).count id = q at *
          have q1 : (q : Int) ≤ 1000 := by omega
          have q0 : (0 : Int) ≤ (q : Int) := by omega
          have k1 : (k : Int) < (L.length : Int) := by omega
          have k0 : (0 : Int) ≤ (k : Int) := by omega
          obtain ⟨w7, hrun, h7, g7⟩ := hm5.put (by omega) hx64 ((q : Int) + 1) (by unfold I64; omega)
          rw [← hup] at h7
          have hm7 : (if (cntG (idsO (L.take k)) id).isSome then m2 else m2 + 1) ≤ k + 1 := by split <;> omega
          generalize (if (cntG (idsO (L.take k)) id).isSome then m2 else m2 + 1) = m3 at *
          have H7 := Lib.hid h7
          have G7 := Lib.hid g7
          have HO := Lib.hid ho
          have HAL := Lib.hid hal
          clear hmi hm5 ho hal hX hN5 hNr hBr hst hx64 he h7 g7 hup hi8 hc1
          go_wp2
          go_roundw
          case rel => exact ⟨k + 1, m3, by omega, by omega, by go_num, H7.out, (HO.out.trans (Only.of_below HAL.out)).grownN G7.out fun b e => by injection e with e; exact .inl e.symm⟩
          case measure => simp [Go.RowKit.intOf]; omega
        · have hke : k = L.length := by omega
          subst hke
          rw [List.take_length] at hmi
          have hZq := HZ2.out.only ho fun e => by have := HWM.out; omega
          have hkq := HMI.out.same (ho.block mb HMI.out.lt fun e => HWM.out.2.2.2.1 e)
          have z0 := hZq.cell 0 rfl
          have z1 := hZq.cell 1 rfl
          have y0 := hZq.free 0 rfl
          have y1 := hZq.free 1 rfl
          have g0 := hNr.cell 0 rfl
          have g1 := hNr.cell 1 rfl
          have HZq := Lib.hid hZq
          have HKQ := Lib.hid hkq
          have HSQ := Lib.hid hmi
          have HBq := Lib.hid hBr
          clear hk hlt hmi ho hBr hZq hkq hNr
          go_wp2
          have hF := (HZq.out.set 0 (.map (some mb))).set 1 (.map (some sb))
          simp only [List.set_cons_zero, List.set_cons_succ] at hF
          have f0 := hF.cell 0 rfl
          have f1 := hF.cell 1 rfl
          have he : ∀ b, b ≠ w.heap.size → ((wr.setCell ⟨w.heap.size, 0, none⟩ (.map (some mb))).setCell ⟨w.heap.size, 1, none⟩ (.map (some sb))).heap[b]? = wr.heap[b]? := fun b hb => by
            rw [Below.heap_setCell _ _ _ _ (by exact hb), Below.heap_setCell _ _ _ _ (by exact hb)]
          have hbz := (HBq.out.setCell (p := ⟨w.heap.size, 0, none⟩) (Nat.le_refl _) (.map (some mb))).setCell (p := ⟨w.heap.size, 1, none⟩) (Nat.le_refl _) (.map (some sb))
          exact bodyPost_ret (v := nmv mb sb) (by simp [results, Tryz.results53, go_sem, f0, f1]) rfl ⟨mb, sb, rfl, ⟨⟨_, HKQ.out.same (he mb (by have := HWM.out; omega))⟩, ⟨_, HSQ.out.same (he sb (by have := HWM.out; omega))⟩⟩, hbz⟩
end Go.Proofs.YthchkhgimnchcaaGreat
/- Stage 23's program: which may be admitted, one by one. -/
namespace Go.Proofs.YthchkhgimnchcaaGreat
open Go.RowKit Go.Maps

/-- the boxes of names and a spec -/
theorem nm_box (w : World) (bk bs : Nat) (id prio sk ge fx fy tx ty : Int) (a : Option Addr) (l : List Int) (c : Nat) : Blk ((w.alloc (.cells #[.map (some bk), .map (some bs)] 93)).alloc (.cells #[.int .i64 id, .int .i64 prio, .int .u64 sk, .int .u64 ge, .int .i64 fx, .int .i64 fy, .int .i64 tx, .int .i64 ty, .slice a l.length c] 49)) w.heap.size [.map (some bk), .map (some bs)] ∧ Blk ((w.alloc (.cells #[.map (some bk), .map (some bs)] 93)).alloc (.cells #[.int .i64 id, .int .i64 prio, .int .u64 sk, .int .u64 ge, .int .i64 fx, .int .i64 fy, .int .i64 tx, .int .i64 ty, .slice a l.length c] 49)) (w.heap.size + 1) [.int .i64 id, .int .i64 prio, .int .u64 sk, .int .u64 ge, .int .i64 fx, .int .i64 fy, .int .i64 tx, .int .i64 ty, .slice a l.length c] ∧ Below w.heap.size w ((w.alloc (.cells #[.map (some bk), .map (some bs)] 93)).alloc (.cells #[.int .i64 id, .int .i64 prio, .int .u64 sk, .int .u64 ge, .int .i64 fx, .int .i64 fy, .int .i64 tx, .int .i64 ty, .slice a l.length c] 49)) := by
  have b1 := (Below.refl w.heap.size w).alloc (Nat.le_refl _) (.cells #[.map (some bk), .map (some bs)] 93)
  have f1 := Blk.new w [.map (some bk), .map (some bs)] 93
  have s1 : (w.alloc (.cells #[.map (some bk), .map (some bs)] 93)).heap.size = w.heap.size + 1 := by simp
  generalize w.alloc (.cells #[.map (some bk), .map (some bs)] 93) = W1 at *
  have b2 := (Below.refl W1.heap.size W1).alloc (Nat.le_refl _) (.cells #[.int .i64 id, .int .i64 prio, .int .u64 sk, .int .u64 ge, .int .i64 fx, .int .i64 fy, .int .i64 tx, .int .i64 ty, .slice a l.length c] 49)
  have f2 := Blk.new W1 [.int .i64 id, .int .i64 prio, .int .u64 sk, .int .u64 ge, .int .i64 fx, .int .i64 fy, .int .i64 tx, .int .i64 ty, .slice a l.length c] 49
  rw [s1] at f2
  exact ⟨f1.kept b2, f2, b1.trans (b2.mono b1.size)⟩

set_option maxHeartbeats 2000000 in
theorem isNew_any (x : Sp) (bk bs : Nat) (K : List Tk) (L : List Sp) (w : World) (h : NmAt w bk bs K L) (hi : I64 x.id) :
    Calls Tryz.prog 55 #[nmv bk bs, spv x] w fun e w' => e = .returned (.bool (newB K L x)) ∧ Below w.heap.size w w' := by
  have hn : newB K L x = (!(stO K x.id).isSome && decide ((idsO L).count x.id = 1)) := rfl
  obtain ⟨r, hr⟩ : ∃ r, newB K L x = r := ⟨_, rfl⟩
  rw [hr] at hn ⊢
  obtain ⟨id, prio, sk, ge, fx, fy, tx, ty, a, c, l⟩ := x
  dsimp only [nmv, spv] at *
  obtain ⟨hX, hY, hB⟩ := nm_box w bk bs id prio sk ge fx fy tx ty a l c
  obtain ⟨⟨m1, h1⟩, ⟨m2, h2⟩⟩ := h.kept hB
  have l1 := h1.look hi
  have l2 := h2.look1 hi
  rw [cntG_getD] at l2
  have c0 := hX.cell 0 rfl
  have c1 := hX.cell 1 rfl
  have d0 := hY.cell 0 rfl
  generalize (idsO L).count id = q at *
  generalize stO K id = so at *
  have HB := Lib.hid hB
  clear hX hY hB h h1 h2 hr
  cases so with
  | some s =>
    simp only [Option.isSome_some, Bool.not_true, Bool.false_and, Option.getD_some] at hn l1
    have HF := Lib.hid hn.symm
    clear hn
    go_enter Tryz.func55, Tryz.ntmps55
    go_wp2
    go_ret
    exact ⟨ret_b HF.out, HB.out⟩
  | none =>
    simp only [Option.isSome_none, Bool.not_false, Bool.true_and, Option.getD_none] at hn l1
    by_cases hq : q = 1
    · subst hq
      have HF := Lib.hid (show true = r by rw [hn]; rfl)
      clear hn
      go_enter Tryz.func55, Tryz.ntmps55
      go_wp2
      go_ret
      exact ⟨ret_b HF.out, HB.out⟩
    · have HF := Lib.hid (show false = r by rw [hn]; simp [hq])
      have j1 : ¬ (q : Int) = 1 := by omega
      have j2 : ((q : Int) == 1) = false := beq_noI j1
      clear hn hq
      go_enter Tryz.func55, Tryz.ntmps55
      go_wp2
      go_ret
      exact ⟨ret_b HF.out, HB.out⟩

set_option maxHeartbeats 2000000 in
theorem named1_any (id : Int) (b bk bs : Nat) (K : List Tk) (L : List Sp) (w : World) (hX : Blk w b [.map (some bk), .map (some bs)]) (h : NmAt w bk bs K L) (hi : I64 id) :
    Calls Tryz.prog 69 #[.int .i64 id, .pointer (some ⟨b, 0, none⟩)] w fun e w' => e = .returned (.bool (namedI K L id)) ∧ Below w.heap.size w w' := by
  have hn : namedI K L id = ((stO K id).isSome || decide (0 < (idsO L).count id)) := rfl
  obtain ⟨r, hr⟩ : ∃ r, namedI K L id = r := ⟨_, rfl⟩
  rw [hr] at hn ⊢
  obtain ⟨⟨m1, h1⟩, ⟨m2, h2⟩⟩ := h
  have l1 := h1.look hi
  have l2 := h2.look1 hi
  rw [cntG_getD] at l2
  have c0 := hX.cell 0 rfl
  have c1 := hX.cell 1 rfl
  generalize (idsO L).count id = q at *
  generalize stO K id = so at *
  clear hX h1 h2 hr
  cases so with
  | some s =>
    simp only [Option.isSome_some, Bool.true_or, Option.getD_some] at hn l1
    have HF := Lib.hid hn.symm
    clear hn
    go_enter Tryz.func69, Tryz.ntmps69
    go_wp2
    go_ret
    exact ⟨ret_b HF.out, Below.refl _ _⟩
  | none =>
    simp only [Option.isSome_none, Bool.false_or, Option.getD_none] at hn l1
    by_cases hq : 0 < q
    · have HF := Lib.hid (show true = r by rw [hn]; simp [hq])
      have j1 : (0 : Int) < (q : Int) := by omega
      clear hn hq
      go_enter Tryz.func69, Tryz.ntmps69
      go_wp2
      go_ret
      first
        | exact ⟨ret_b HF.out, Below.refl _ _⟩
        | exact ⟨ret_b ((decide_eq_true (by omega)).trans HF.out), Below.refl _ _⟩
    · have HF := Lib.hid (show false = r by rw [hn]; simp [hq])
      have e : q = 0 := by omega
      subst e
      clear hn hq
      go_enter Tryz.func69, Tryz.ntmps69
      go_wp2
      go_ret
      first
        | exact ⟨ret_b HF.out, Below.refl _ _⟩
        | exact ⟨ret_b ((decide_eq_false (by omega)).trans HF.out), Below.refl _ _⟩

set_option maxHeartbeats 2000000 in
theorem come1_any (id : Int) (b bk bs : Nat) (K : List Tk) (L : List Sp) (w : World) (hX : Blk w b [.map (some bk), .map (some bs)]) (h : NmAt w bk bs K L) (hi : I64 id) :
    Calls Tryz.prog 70 #[.int .i64 id, .pointer (some ⟨b, 0, none⟩)] w fun e w' => e = .returned (.bool (comeI K id)) ∧ Below w.heap.size w w' := by
  have hn : comeI K id = (!decide ((stO K id).getD 0 = 5) && !decide ((stO K id).getD 0 = 6)) := rfl
  obtain ⟨r, hr⟩ : ∃ r, comeI K id = r := ⟨_, rfl⟩
  rw [hr] at hn ⊢
  obtain ⟨⟨m1, h1⟩, ⟨m2, h2⟩⟩ := h
  have l1 := h1.look1 hi
  have c0 := hX.cell 0 rfl
  generalize (stO K id).getD 0 = s at *
  clear hX h1 h2 hr
  by_cases e5 : s = 5
  · subst e5
    have HF := Lib.hid (show false = r by rw [hn]; rfl)
    clear hn
    go_enter Tryz.func70, Tryz.ntmps70
    go_wp2
    go_ret
    exact ⟨ret_b HF.out, Below.refl _ _⟩
  by_cases e6 : s = 6
  · subst e6
    have HF := Lib.hid (show false = r by rw [hn]; rfl)
    clear hn e5
    go_enter Tryz.func70, Tryz.ntmps70
    go_wp2
    go_ret
    exact ⟨ret_b HF.out, Below.refl _ _⟩
  have HF := Lib.hid (show (s != 5 && s != 6) = r by rw [hn]; simp [e5, e6])
  have j5 : (s == 5) = false := beq_noI e5
  have j6 : (s == 6) = false := beq_noI e6
  clear hn
  go_enter Tryz.func70, Tryz.ntmps70
  go_wp2
  go_ret
  exact ⟨ret_b HF.out, Below.refl _ _⟩

set_option maxHeartbeats 2000000 in
theorem over1_any (id : Int) (b bk bs : Nat) (K : List Tk) (L : List Sp) (w : World) (hX : Blk w b [.map (some bk), .map (some bs)]) (h : NmAt w bk bs K L) (hi : I64 id) :
    Calls Tryz.prog 72 #[.int .i64 id, .pointer (some ⟨b, 0, none⟩)] w fun e w' => e = .returned (.bool (overI K id)) ∧ Below w.heap.size w w' := by
  have hn : overI K id = decide ((stO K id).getD 0 = 4) := rfl
  obtain ⟨r, hr⟩ : ∃ r, overI K id = r := ⟨_, rfl⟩
  rw [hr] at hn ⊢
  obtain ⟨⟨m1, h1⟩, ⟨m2, h2⟩⟩ := h
  have l1 := h1.look1 hi
  have c0 := hX.cell 0 rfl
  generalize (stO K id).getD 0 = s at *
  clear hX h1 h2 hr
  by_cases e4 : s = 4
  · subst e4
    have HF := Lib.hid (show true = r by rw [hn]; rfl)
    clear hn
    go_enter Tryz.func72, Tryz.ntmps72
    go_wp2
    go_ret
    exact ⟨ret_b HF.out, Below.refl _ _⟩
  have HF := Lib.hid (show false = r by rw [hn]; simp [e4])
  have j4 : (s == 4) = false := beq_noI e4
  clear hn
  go_enter Tryz.func72, Tryz.ntmps72
  go_wp2
  go_ret
  exact ⟨ret_b HF.out, Below.refl _ _⟩

set_option maxHeartbeats 2000000 in
theorem isNamed_any (x : Sp) (bk bs : Nat) (K : List Tk) (L : List Sp) (w : World) (h : NmAt w bk bs K L) (hx : IntsAt w x.v x.aft) (hl : x.aft.length ≤ 1000000) (hi : ∀ n ∈ x.aft, I64 n) :
    Calls Tryz.prog 56 #[nmv bk bs, spv x] w fun e w' => e = .returned (.bool (namedB K L x)) ∧ Below w.heap.size w w' := by
  have hn : x.aft.all (namedI K L) = namedB K L x := rfl
  obtain ⟨r, hr⟩ : ∃ r, namedB K L x = r := ⟨_, rfl⟩
  rw [hr] at hn ⊢
  obtain ⟨id, prio, sk, ge, fx, fy, tx, ty, a, c, l⟩ := x
  dsimp only [nmv, spv, Sp.v] at *
  obtain ⟨hX, hY, hB⟩ := nm_box w bk bs id prio sk ge fx fy tx ty a l c
  have hA := fun w' (hb : Below w.heap.size w w') (hX : Blk w' w.heap.size [.map (some bk), .map (some bs)]) => allI_any (namedI K L) 69 (.pointer (some ⟨w.heap.size, 0, none⟩)) (fun _ _ => by kernel_rfl) (.slice a l.length c) l w' (hx.below hb) hl
    (fun w'' y hy hb2 => named1_any y w.heap.size bk bs K L w'' (hX.kept hb2) ((h.kept hb).kept hb2) (hi y hy))
  rw [hn] at hA
  have HA := Lib.hid (hA _ hB hX)
  have hmf : ∀ (fn : Fn) (first cap : Array Value) (w : World), (Instr.makeFunc fn first cap).run Tryz.prog w = .ok (.func fn first cap) w := fun _ _ _ _ => rfl
  have d6 := hY.cell 8 rfl
  have HB := Lib.hid hB
  clear hA hX hY hB h hx hl hi hn hr
  go_enter Tryz.func56, Tryz.ntmps56
  go_wp2_with (go_at_call 68; (with_reducible refine HA.out.mono ?_); rintro e w1 ⟨rfl, hb⟩; have HB1 := Lib.hid (HB.out.trans (hb.mono HB.out.size)); clear hb)
  go_ret
  exact ⟨rfl, HB1.out⟩

set_option maxHeartbeats 2000000 in
theorem isCome_any (x : Sp) (bk bs : Nat) (K : List Tk) (L : List Sp) (w : World) (h : NmAt w bk bs K L) (hx : IntsAt w x.v x.aft) (hl : x.aft.length ≤ 1000000) (hi : ∀ n ∈ x.aft, I64 n) :
    Calls Tryz.prog 57 #[nmv bk bs, spv x] w fun e w' => e = .returned (.bool (comeB K x)) ∧ Below w.heap.size w w' := by
  have hn : x.aft.all (comeI K) = comeB K x := rfl
  obtain ⟨r, hr⟩ : ∃ r, comeB K x = r := ⟨_, rfl⟩
  rw [hr] at hn ⊢
  obtain ⟨id, prio, sk, ge, fx, fy, tx, ty, a, c, l⟩ := x
  dsimp only [nmv, spv, Sp.v] at *
  obtain ⟨hX, hY, hB⟩ := nm_box w bk bs id prio sk ge fx fy tx ty a l c
  have hA := fun w' (hb : Below w.heap.size w w') (hX : Blk w' w.heap.size [.map (some bk), .map (some bs)]) => allI_any (comeI K) 70 (.pointer (some ⟨w.heap.size, 0, none⟩)) (fun _ _ => by kernel_rfl) (.slice a l.length c) l w' (hx.below hb) hl
    (fun w'' y hy hb2 => come1_any y w.heap.size bk bs K L w'' (hX.kept hb2) ((h.kept hb).kept hb2) (hi y hy))
  rw [hn] at hA
  have HA := Lib.hid (hA _ hB hX)
  have hmf : ∀ (fn : Fn) (first cap : Array Value) (w : World), (Instr.makeFunc fn first cap).run Tryz.prog w = .ok (.func fn first cap) w := fun _ _ _ _ => rfl
  have d6 := hY.cell 8 rfl
  have HB := Lib.hid hB
  clear hA hX hY hB h hx hl hi hn hr
  go_enter Tryz.func57, Tryz.ntmps57
  go_wp2_with (go_at_call 68; (with_reducible refine HA.out.mono ?_); rintro e w1 ⟨rfl, hb⟩; have HB1 := Lib.hid (HB.out.trans (hb.mono HB.out.size)); clear hb)
  go_ret
  exact ⟨rfl, HB1.out⟩

set_option maxHeartbeats 2000000 in
theorem isFree_any (x : Sp) (bk bs : Nat) (K : List Tk) (L : List Sp) (w : World) (h : NmAt w bk bs K L) (hx : IntsAt w x.v x.aft) (hl : x.aft.length ≤ 1000000) (hi : ∀ n ∈ x.aft, I64 n) :
    Calls Tryz.prog 59 #[nmv bk bs, spv x] w fun e w' => e = .returned (.bool (freeB K x)) ∧ Below w.heap.size w w' := by
  have hn : x.aft.all (overI K) = freeB K x := rfl
  obtain ⟨r, hr⟩ : ∃ r, freeB K x = r := ⟨_, rfl⟩
  rw [hr] at hn ⊢
  obtain ⟨id, prio, sk, ge, fx, fy, tx, ty, a, c, l⟩ := x
  dsimp only [nmv, spv, Sp.v] at *
  obtain ⟨hX, hY, hB⟩ := nm_box w bk bs id prio sk ge fx fy tx ty a l c
  have hA := fun w' (hb : Below w.heap.size w w') (hX : Blk w' w.heap.size [.map (some bk), .map (some bs)]) => allI_any (overI K) 72 (.pointer (some ⟨w.heap.size, 0, none⟩)) (fun _ _ => by kernel_rfl) (.slice a l.length c) l w' (hx.below hb) hl
    (fun w'' y hy hb2 => over1_any y w.heap.size bk bs K L w'' (hX.kept hb2) ((h.kept hb).kept hb2) (hi y hy))
  rw [hn] at hA
  have HA := Lib.hid (hA _ hB hX)
  have hmf : ∀ (fn : Fn) (first cap : Array Value) (w : World), (Instr.makeFunc fn first cap).run Tryz.prog w = .ok (.func fn first cap) w := fun _ _ _ _ => rfl
  have d6 := hY.cell 8 rfl
  have HB := Lib.hid hB
  clear hA hX hY hB h hx hl hi hn hr
  go_enter Tryz.func59, Tryz.ntmps59
  go_wp2_with (go_at_call 68; (with_reducible refine HA.out.mono ?_); rintro e w1 ⟨rfl, hb⟩; have HB1 := Lib.hid (HB.out.trans (hb.mono HB.out.size)); clear hb)
  go_ret
  exact ⟨rfl, HB1.out⟩

end Go.Proofs.YthchkhgimnchcaaGreat
/- One struct behind a list of one's own: the builtin's law with its side conditions met. FOR ALL LATER STAGES. -/
namespace Go.Proofs.YthchkhgimnchcaaGreat
open Go.RowKit

theorem appK {α : Type} {cs : α → List Value} {K : Nat} (hlen : ∀ x, (cs x).length = K) (hK0 : 0 < K) (hone : ∀ x, ∀ u ∈ cs x, u.oneCell' = true) (e ts : TypeId) (i : TypeInfo) (z : Value) (bytes : Nat) (ht : Tryz.prog.underlying ts = some (.slice e)) (hi : Tryz.prog.info? e = some i) (hz : i.zero = some z) (hsize : i.size = K) (hby : i.bytes = bytes) (hzs : z.cells.size = K) (hb : bytes ≤ 1000)
    {ops : Array Oper} {rest : List Oper} {o : Oper} {a : Act} {Q : Exit → Act → World → Prop} {B : Nat} {w : World} {x : α} {v : Value} {l : List α} (hown : OwnR w B e K cs v l) (hB : B ≤ w.heap.size) (hl : l.length ≤ 1000000)
    (hgd : o.guard = none) (s y : Operand) (ho : o.op = .call { callee := .builtin .append, args := #[s, y], argTypes := #[ts, ts] }) (hs : a.eval s = v) (hx : a.eval y = .slice (some ⟨w.heap.size, 0, none⟩) 1 1)
    (hK : ∀ v' w', OwnR w' B e K cs v' (l ++ [x]) → Below B w w' → Only (fun k => v.ownBlock = some k) w w' → (∀ k, v'.ownBlock = some k → v.ownBlock = some k ∨ w.heap.size ≤ k) → wpList Tryz.prog ops Q rest (a.put o.dst v') w') : wpList Tryz.prog ops Q (o :: rest) a (w.alloc (.cells (cs x).toArray e)) := by
  have ha := (Below.refl B w).alloc hB (.cells (cs x).toArray e)
  have h1 := OwnR.alloc hown (.cells (cs x).toArray e)
  have h2 : B ≤ (w.alloc (.cells (cs x).toArray e)).heap.size := Nat.le_trans hB ha.size
  refine wpList_append_lies _ hgd s y ts ho B e i z K bytes ht hi hz hsize hby hzs hK0 v l.length (flats cs l) hs h1 ⟨w.heap.size, 0, none⟩ 1 1 (cs x) hx (by rw [hlen]; omega) (World.news_of_block (cs := (cs x).toArray) (t := e) (fr := (0, 0)) (heap_alloc_new w _)) (hone x) (by omega) (by unfold maxLen; omega) (by
    have h3 : (l.length + 1) * bytes ≤ 1000001 * 1000 := Nat.mul_le_mul (by omega) hb
    omega) h2 (w.heap.size + 1) (by simp) fun g cap w' k1 k2 k3 _ => ?_
  exact hK _ w' (OwnR.snoc k1 rfl rfl) (OwnR.below h1 ha h2 k2) ((Only.of_below ((Below.refl w.heap.size w).alloc (Nat.le_refl _) _)).trans (Only.grown k2 fun k hk => hk)) fun k hk => by
    simp [Value.ownBlock] at hk
    subst hk
    exact k3.imp (fun h => h) fun h => by omega
end Go.Proofs.YthchkhgimnchcaaGreat
/- One arc behind a list of one's own. FOR ALL LATER STAGES. -/
namespace Go.Proofs.YthchkhgimnchcaaGreat
open Go.RowKit

theorem csArc_one (x : Arc16) : ∀ u ∈ csArc x, u.oneCell' = true := by
  intro u hu
  simp [csArc] at hu
  rcases hu with rfl | rfl <;> rfl
theorem info_arc : (Tryz.prog.info? 84).map (fun i => (i.zero, i.size, i.bytes)) = some (some (.agg #[.int .i64 0, .int .i64 0]), 2, 16) := by kernel_rfl
theorem appArc {ops : Array Oper} {rest : List Oper} {o : Oper} {a : Act} {Q : Exit → Act → World → Prop} {B : Nat} {w : World} (x : Arc16) {v : Value} {l : List Arc16} (hown : OwnR w B 84 2 csArc v l) (hB : B ≤ w.heap.size) (hl : l.length ≤ 1000000)
    (hgd : o.guard = none) (s y : Operand) (ho : o.op = .call { callee := .builtin .append, args := #[s, y], argTypes := #[82, 82] }) (hs : a.eval s = v) (hx : a.eval y = .slice (some ⟨w.heap.size, 0, none⟩) 1 1)
    (hK : ∀ v' w', OwnR w' B 84 2 csArc v' (l ++ [x]) → Below B w w' → wpList Tryz.prog ops Q rest (a.put o.dst v') w') : wpList Tryz.prog ops Q (o :: rest) a (w.alloc (.cells #[.int .i64 x.src, .int .i64 x.dst] 84)) := by
  obtain ⟨i, hi, hz, hs1, hb1⟩ := info_parts info_arc
  exact appK csArc_len (by decide) csArc_one 84 82 i _ 16 Tryz.underlying82 hi hz hs1 hb1 rfl (by decide) hown hB hl hgd s y ho hs hx fun v' w' h1 h2 _ _ => hK v' w' h1 h2
end Go.Proofs.YthchkhgimnchcaaGreat
