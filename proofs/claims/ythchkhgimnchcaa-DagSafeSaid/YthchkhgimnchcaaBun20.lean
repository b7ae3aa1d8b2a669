/- Texts of this proof, joined: BtE; DgT; DgB; DgN. -/
import Derived.Test.YthchkhgimnchcaaBun19
/- Stage 23's program: Check, Free. -/
namespace Go.Proofs.Ythchkhgimnchcaa
open Go.RowKit

/-- what Check has at hand: the box of the names, the specs -/
structure Ck23 (n bk bs : Nat) (K : List Tk) (vl : Value) (L : List Sp) (W : World) : Prop where
  x : Blk W n [.map (some bk), .map (some bs)]
  nm : NmAt W bk bs K L
  sp : SpsAt W vl L
theorem Ck23.kept {n bk bs : Nat} {K : List Tk} {vl : Value} {L : List Sp} {W W' : World} (h : Ck23 n bk bs K vl L W) (hb : Below W.heap.size W W') : Ck23 n bk bs K vl L W' := ⟨h.x.kept hb, h.nm.kept hb, h.sp.kept hb⟩

set_option maxHeartbeats 8000000 in
set_option maxRecDepth 100000 in
theorem bCheck_any (room : Int) (vk vl : Value) (K : List Tk) (L : List Sp) (w : World) (hk : RowsAt w 14 csTk vk K) (hl : SpsAt w vl L) (hkl : K.length ≤ 1000) (hll : L.length ≤ 80) (hK : ∀ t ∈ K, I64 t.sp.id ∧ I64 t.st) (h64 : Sp64 L) (haf : ∀ x ∈ L, x.aft.length ≤ 9223372036854775807) :
    Calls Try.prog 24 #[.int .i64 room, vk, vl] w fun e w' => e = .returned (.int .i64 (bchk room K L)) ∧ Below w.heap.size w w' := by
  have hw := bchk_ways room K L
  obtain ⟨r, hr⟩ : ∃ r, bchk room K L = r := ⟨_, rfl⟩
  rw [hr] at hw ⊢
  have GF := Lib.hid (bFirst_any vl L w hl (by omega) haf)
  obtain ⟨va, vc, rfl⟩ := RowsAt.form hk
  obtain ⟨la, lc, rfl⟩ := hl.form
  have k2 : (K.length : Int) ≤ 1000 := by omega
  have l2 : (L.length : Int) ≤ 80 := by omega
  have k0 : (0 : Int) ≤ (K.length : Int) := by omega
  have l0 : (0 : Int) ≤ (L.length : Int) := by omega
  clear hr
  rcases hw with ⟨h0, rfl⟩ | ⟨h0, h1, rfl⟩ | ⟨h0, h1, hw⟩
  · have e0 : ((L.length : Int) == 0) = true := by rw [h0]; rfl
    clear GF hk hl hkl hll hK h64 haf
    go_enter Try.func24, Try.ntmps24
    go_wp2
    go_ret
    exact ⟨rfl, Below.refl _ _⟩
  · have e0 : ((L.length : Int) == 0) = false := beq_noI (by omega)
    generalize firstE L = q at *
    have e1 : (q == 0) = false := beq_noI h1
    clear hk hl hkl hll hK h64 haf h0
    go_enter Try.func24, Try.ntmps24
    go_wp2_with (go_at_call 33; (with_reducible refine GF.out.mono ?_); rintro e w1 ⟨rfl, hb⟩; have HB := Lib.hid hb; clear hb)
    go_ret
    exact ⟨rfl, HB.out⟩
  have e0 : ((L.length : Int) == 0) = false := beq_noI (by omega)
  rw [h1] at GF
  have h8 : ∀ x ∈ L, x.aft.length ≤ 8 := fun x hx => chk_len (firstE_zero.1 h1 x hx)
  have ha8 := arcsO_len h8
  have GN := Lib.hid fun w' hb => namesOf_any (.slice va K.length vc) (.slice la L.length lc) K L w' (RowsAt.kept hk hb) (hl.kept hb) hkl (by omega) hK (fun x hx => (h64 x hx).1)
  have GA1 := Lib.hid fun (n bk bs : Nat) w' (h : Ck23 n bk bs K (.slice la L.length lc) L w') => allS_any (newB K L) 36 (nmv bk bs) (fun _ _ => by kernel_rfl) (.slice la L.length lc) L w' h.sp (by omega) fun w'' x hx _ hb => isNew_any x bk bs K L w'' (h.nm.kept hb) (h64 x hx).1
  have GA2 := Lib.hid fun (n bk bs : Nat) w' (h : Ck23 n bk bs K (.slice la L.length lc) L w') => allS_any (namedB K L) 37 (nmv bk bs) (fun _ _ => by kernel_rfl) (.slice la L.length lc) L w' h.sp (by omega) fun w'' x hx hi hb => isNamed_any x bk bs K L w'' (h.nm.kept hb) hi (by have := h8 x hx; omega) (h64 x hx).2
  have GA3 := Lib.hid fun (n bk bs : Nat) w' (h : Ck23 n bk bs K (.slice la L.length lc) L w') => allS_any (comeB K) 38 (nmv bk bs) (fun _ _ => by kernel_rfl) (.slice la L.length lc) L w' h.sp (by omega) fun w'' x hx hi hb => isCome_any x bk bs K L w'' (h.nm.kept hb) hi (by have := h8 x hx; omega) (h64 x hx).2
  have GR := Lib.hid fun (n bk bs : Nat) w' (h : Ck23 n bk bs K (.slice la L.length lc) L w') => bRing_any (.slice la L.length lc) L w' h.sp (by omega) (by omega) h64
  have hmf : ∀ (fn : Fn) (first cap : Array Value) (w : World), (Instr.makeFunc fn first cap).run Try.prog w = .ok (.func fn first cap) w := fun _ _ _ _ => rfl
  have HS := Lib.hid hl
  obtain ⟨t1, ht1⟩ : ∃ t1, L.all (newB K L) = t1 := ⟨_, rfl⟩
  obtain ⟨t2, ht2⟩ : ∃ t2, L.all (namedB K L) = t2 := ⟨_, rfl⟩
  obtain ⟨t3, ht3⟩ : ∃ t3, L.all (comeB K) = t3 := ⟨_, rfl⟩
  obtain ⟨t4, ht4⟩ : ∃ t4, wholeB L = t4 := ⟨_, rfl⟩
  rw [ht1] at hw GA1
  rw [ht2] at hw GA2
  rw [ht3] at hw GA3
  rw [ht4] at hw GR
  clear ht1 ht2 ht3 ht4 hk hl hkl hll hK h64 haf h0 h1 h8 ha8
  rcases hw with ⟨hr, rfl⟩ | ⟨hr, hw⟩
  · go_enter Try.func24, Try.ntmps24
    go_wp2_with (go_at_call 33; (with_reducible refine GF.out.mono ?_); rintro e w1 ⟨rfl, hb⟩; have HB := Lib.hid hb; clear hb)
    go_ret
    exact ⟨rfl, HB.out⟩
  rcases hw with ⟨rfl, rfl⟩ | ⟨rfl, rfl, rfl⟩ | ⟨rfl, rfl, rfl, rfl⟩ | ⟨rfl, rfl, rfl, rfl, rfl⟩ | ⟨rfl, rfl, rfl, rfl, rfl⟩
  all_goals
    go_enter Try.func24, Try.ntmps24
    go_wp2_with (first
      | (go_at_call 33; (with_reducible refine GF.out.mono ?_); rintro e w1 ⟨rfl, hb⟩; have HB := Lib.hid hb; clear hb)
      | (go_at_call 34; (with_reducible refine (GN.out _ HB.out).mono ?_); rintro e w2 ⟨bk, bs, rfl, hn, hb⟩; have hal := (Below.refl w2.heap.size w2).alloc (Nat.le_refl _) (.cells #[.map (some bk), .map (some bs)] 72); replace HB := Lib.hid (HB.out.trans (hb.mono HB.out.size)); have HC := Lib.hid (show Ck23 w2.heap.size bk bs K (.slice la L.length lc) L (w2.alloc (.cells #[.map (some bk), .map (some bs)] 72)) from ⟨Blk.new w2 [.map (some bk), .map (some bs)] 72, hn.kept hal, (HS.out.kept HB.out).kept hal⟩); replace HB := Lib.hid (HB.out.trans (hal.mono HB.out.size)); have c0 := HC.out.x.cell 0 rfl; have c1 := HC.out.x.cell 1 rfl; clear hn hb hal)
      | (go_at_call 35; (with_reducible refine (GA1.out _ _ _ _ HC.out).mono ?_); rintro e w2 ⟨rfl, hb⟩; replace HC := Lib.hid (HC.out.kept hb); replace HB := Lib.hid (HB.out.trans (hb.mono HB.out.size)); clear hb c0 c1; have c0 := HC.out.x.cell 0 rfl; have c1 := HC.out.x.cell 1 rfl)
      | (go_at_call 35; (with_reducible refine (GA2.out _ _ _ _ HC.out).mono ?_); rintro e w2 ⟨rfl, hb⟩; replace HC := Lib.hid (HC.out.kept hb); replace HB := Lib.hid (HB.out.trans (hb.mono HB.out.size)); clear hb c0 c1; have c0 := HC.out.x.cell 0 rfl; have c1 := HC.out.x.cell 1 rfl)
      | (go_at_call 35; (with_reducible refine (GA3.out _ _ _ _ HC.out).mono ?_); rintro e w2 ⟨rfl, hb⟩; replace HC := Lib.hid (HC.out.kept hb); replace HB := Lib.hid (HB.out.trans (hb.mono HB.out.size)); clear hb c0 c1; have c0 := HC.out.x.cell 0 rfl; have c1 := HC.out.x.cell 1 rfl)
      | (go_at_call 39; (with_reducible refine (GR.out _ _ _ _ HC.out).mono ?_); rintro e w2 ⟨rfl, hb⟩; replace HC := Lib.hid (HC.out.kept hb); replace HB := Lib.hid (HB.out.trans (hb.mono HB.out.size)); clear hb c0 c1; have c0 := HC.out.x.cell 0 rfl; have c1 := HC.out.x.cell 1 rfl))
    go_ret
    exact ⟨rfl, HB.out⟩

set_option maxHeartbeats 4000000 in
set_option maxRecDepth 100000 in
theorem bFree_any (vk vl : Value) (K : List Tk) (L : List Sp) (w : World) (hk : RowsAt w 14 csTk vk K) (hl : SpsAt w vl L) (hkl : K.length ≤ 1000) (hll : L.length ≤ 1000) (hK : ∀ t ∈ K, I64 t.sp.id ∧ I64 t.st) (h64 : Sp64 L) (haf : ∀ x ∈ L, x.aft.length ≤ 1000000) :
    Calls Try.prog 25 #[vk, vl] w fun e w' => ∃ v, e = .returned v ∧ IntsAt w' v (freeO K L) ∧ Below w.heap.size w w' := by
  have GN := Lib.hid (namesOf_any vk vl K L w hk hl hkl hll hK fun x hx => (h64 x hx).1)
  obtain ⟨va, vc, rfl⟩ := RowsAt.form hk
  obtain ⟨la, lc, rfl⟩ := hl.form
  have HS := Lib.hid hl
  have H64 := Lib.hid h64
  have HAF := Lib.hid haf
  have l2 : (L.length : Int) ≤ 1000 := by omega
  clear hk hl hkl hK h64 haf
  go_enter Try.func25, Try.ntmps25
  go_upto_region 2 with (go_at_call 34; (with_reducible refine GN.out.mono ?_); rintro e w2 ⟨bk, bs, rfl, hn, hb⟩; have HN := Lib.hid hn; have HB := Lib.hid hb; clear hn hb)
  have hal := (Below.refl w2.heap.size w2).alloc (Nat.le_refl _) (.cells #[.map (some bk), .map (some bs)] 72)
  have HC := Lib.hid (show Ck23 w2.heap.size bk bs K (.slice la L.length lc) L (w2.alloc (.cells #[.map (some bk), .map (some bs)] 72)) from ⟨Blk.new w2 [.map (some bk), .map (some bs)] 72, HN.out.kept hal, (HS.out.kept HB.out).kept hal⟩)
  have HB3 := Lib.hid (HB.out.trans (hal.mono HB.out.size))
  generalize w2.alloc (.cells #[.map (some bk), .map (some bs)] 72) = w3 at *
  generalize w2.heap.size = n0 at *
  clear hal HN HB HS
  go_wp2
  go_loopg [6, 14] L.length (fun kx sv iv ws => ∃ k : Nat, k ≤ L.length ∧ L.length - k ≤ kx ∧ iv = .int .i64 k ∧ Hid (OwnI ws w3.heap.size sv (freeO K (L.take k))) ∧ Hid (Below w3.heap.size w3 ws))
  case atStart => exact ⟨0, Nat.zero_le _, Nat.le_refl _, rfl, OwnR.nil _ _ _ _ _, Below.refl _ _⟩
  case round =>
    obtain ⟨k, hk, hkx, rfl, HO, HB4⟩ := hrel
    obtain ⟨aT, cT, e⟩ := (OwnI.ints HO.out).form
    subst e
    have HC4 := Lib.hid (HC.out.kept HB4.out)
    by_cases hlt : k < L.length
    · obtain ⟨g, o, cc, id, prio, sk, ge, fx, fy, tx, ty, a, c, l, he, e, hlc, p0, p1, p2, p3, p4, p5, p6, p7, p8, hi8⟩ := HC4.out.sp.spot k hlt
      cases e
      have HLT := Lib.hid (And.intro hlt hkx)
      have k0 : (0 : Int) ≤ (k : Int) := by omega
      have k1 : (k : Int) < (L.length : Int) := by omega
      have hfn := freeO_take K L k hlt
      have hfl : (freeO K (L.take k)).length ≤ 1000 := by have := freeO_len K (L.take k); rw [List.length_take] at this; omega
      have hx64 := H64.out _ (List.getElem_mem hlt)
      have hxa := HAF.out _ (List.getElem_mem hlt)
      have hal := (Below.refl wr.heap.size wr).alloc (Nat.le_refl _) (.cells #[.int .i64 id, .int .i64 prio, .int .u64 sk, .int .u64 ge, .int .i64 fx, .int .i64 fy, .int .i64 tx, .int .i64 ty, .slice a l.length c] 41)
      have hX := Blk.new wr [.int .i64 id, .int .i64 prio, .int .u64 sk, .int .u64 ge, .int .i64 fx, .int .i64 fy, .int .i64 tx, .int .i64 ty, .slice a l.length c] 41
      rw [he] at hfn hx64 hxa
      dsimp only at hx64 hxa
      have GI := isFree_any ⟨id, prio, sk, ge, fx, fy, tx, ty, a, c, l⟩ bk bs K L _ (HC4.out.nm.kept hal) (hi8.below hal) hxa hx64.2
      dsimp only [spv, nmv] at GI
      have HX3 := Lib.hid hX
      have HO3 := Lib.hid (OwnR.alloc HO.out (.cells #[.int .i64 id, .int .i64 prio, .int .u64 sk, .int .u64 ge, .int .i64 fx, .int .i64 fy, .int .i64 tx, .int .i64 ty, .slice a l.length c] 41))
      have HB5 := Lib.hid (HB4.out.alloc HB4.out.size (.cells #[.int .i64 id, .int .i64 prio, .int .u64 sk, .int .u64 ge, .int .i64 fx, .int .i64 fy, .int .i64 tx, .int .i64 ty, .slice a l.length c] 41))
      have d0 := (HC4.out.x.kept hal).cell 0 rfl
      have d1 := (HC4.out.x.kept hal).cell 1 rfl
      have x0 := hX.cell 0 rfl
      have x1 := hX.cell 1 rfl
      have x2 := hX.cell 2 rfl
      have x3 := hX.cell 3 rfl
      have x4 := hX.cell 4 rfl
      have x5 := hX.cell 5 rfl
      have x6 := hX.cell 6 rfl
      have x7 := hX.cell 7 rfl
      have x8 := hX.cell 8 rfl
      generalize freeB K ⟨id, prio, sk, ge, fx, fy, tx, ty, a, c, l⟩ = t at *
      have HG := Lib.hid GI
      have HFN := Lib.hid hfn
      have HFL := Lib.hid hfl
      generalize freeO K (L.take k) = D at *
      clear hk hkx hlt hfn hfl hx64 hxa hal hX GI hi8 he HO HC4
      cases t with
      | true =>
        go_wp2_with (first
          | (go_at_call 40; (with_reducible refine HG.out.mono ?_); rintro e w6 ⟨rfl, hb⟩; have HO6 := Lib.hid (OwnR.kept HO3.out hb); have HB6 := Lib.hid (HB5.out.trans (hb.mono HB5.out.size)); have y0 := (HX3.out.kept hb).cell 0 rfl; clear hb x0 x1 x2 x3 x4 x5 x6 x7 x8 d0 d1)
          | (at_builtin; refine app1 (n := id) HO6.out HB6.out.size (by have := HFL.out; omega) rfl _ _ rfl rfl rfl ?_; intro v7 w7 o7 b7; have HO7 := Lib.hid o7; have HB7 := Lib.hid (HB6.out.trans b7); clear o7 b7 y0))
        go_roundg (L.length - (k + 1))
        case measure => have := HLT.out; omega
        case rel => exact ⟨k + 1, by have := HLT.out; omega, Nat.le_refl _, by go_num, by rw [HFN.out]; exact HO7.out, HB7.out⟩
      | false =>
        go_wp2_with (go_at_call 40; (with_reducible refine HG.out.mono ?_); rintro e w6 ⟨rfl, hb⟩; have HO6 := Lib.hid (OwnR.kept HO3.out hb); have HB6 := Lib.hid (HB5.out.trans (hb.mono HB5.out.size)); clear hb x0 x1 x2 x3 x4 x5 x6 x7 x8 d0 d1)
        go_roundg (L.length - (k + 1))
        case measure => have := HLT.out; omega
        case rel => exact ⟨k + 1, by have := HLT.out; omega, Nat.le_refl _, by go_num, by rw [HFN.out]; exact HO6.out, HB6.out⟩
    · have hke : k = L.length := by omega
      subst hke
      have ho := OwnI.ints HO.out
      generalize (freeO K (L.take L.length)).length = m7 at *
      rw [List.take_length] at ho
      have H7 := Lib.hid ho
      clear hk hkx hlt HO ho
      go_wp2
      go_ret
      exact ⟨_, rfl, H7.out, HB3.out.trans (HB4.out.mono HB3.out.size)⟩
end Go.Proofs.Ythchkhgimnchcaa
/- Stage 24's program: what it calls in task and batch: a spec's copy and what is free, with lists of their own. -/
namespace Go.Proofs.Ythchkhgimnchcaa
open Go.RowKit

set_option maxHeartbeats 4000000 in
set_option maxRecDepth 100000 in
/-- .. its list is new, and its own -/
theorem tCloneO_any (x : Sp) (w : World) (ha : IntsAt w x.v x.aft) (hl : x.aft.length ≤ 1000) :
    Calls Try.prog 22 #[spv x] w fun e w' => ∃ a' c', e = .returned (spv { x with a := a', c := c' }) ∧ OwnI w' w.heap.size (.slice a' x.aft.length c') x.aft ∧ Below w.heap.size w w' := by
  have G := Lib.hid fun w h => cloneI_any x.v x.aft w h (by omega)
  obtain ⟨id, prio, sk, ge, fx, fy, tx, ty, a, c, l⟩ := x
  dsimp only [Sp.v, spv] at *
  have hal1 := (Below.refl w.heap.size w).alloc (Nat.le_refl _) (.cells #[.int .i64 id, .int .i64 prio, .int .u64 sk, .int .u64 ge, .int .i64 fx, .int .i64 fy, .int .i64 tx, .int .i64 ty, .slice a l.length c] 41)
  have hX := boxS w id prio sk ge fx fy tx ty (.slice a l.length c)
  have hI := ha.below hal1
  obtain ⟨W1, hW1⟩ : ∃ W1, w.alloc (.cells #[.int .i64 id, .int .i64 prio, .int .u64 sk, .int .u64 ge, .int .i64 fx, .int .i64 fy, .int .i64 tx, .int .i64 ty, .slice a l.length c] 41) = W1 := ⟨_, rfl⟩
  have hsz : W1.heap.size = w.heap.size + 1 := by rw [← hW1]; simp
  rw [hW1] at hal1 hX hI
  have hal2 := (Below.refl W1.heap.size W1).alloc (Nat.le_refl _) (.cells #[.int .i64 0, .int .i64 0, .int .u64 0, .int .u64 0, .int .i64 0, .int .i64 0, .int .i64 0, .int .i64 0, .slice none 0 0] 41)
  have hY := boxS W1 0 0 0 0 0 0 0 0 (.slice none 0 0)
  rw [hsz] at hY
  have HX := Lib.hid (hX.kept hal2)
  have HY := Lib.hid hY
  have HI := Lib.hid (hI.below hal2)
  have HB := Lib.hid (hal1.trans (hal2.mono hal1.size))
  rw [← hW1] at HX HY HI HB
  have c6 := HX.out.cell 8 rfl
  clear hal1 hX hI hal2 hY hsz hW1 ha
  go_enter Try.func22, Try.ntmps22
  go_wp2_with (go_at_call 32; (with_reducible refine (G.out _ HI.out).mono ?_); rintro e w1 ⟨v', rfl, ho, hb1⟩; obtain ⟨a', c', e⟩ := RowsAt.form (OwnR.rows csI_len ho); subst e; have HO := Lib.hid ho; replace HX := Lib.hid (HX.out.kept hb1); replace HY := Lib.hid (HY.out.kept hb1); replace HB := Lib.hid (HB.out.trans (hb1.mono HB.out.size)); clear hb1 c6 ho; have f8 := HX.out.free 8 rfl; have e8 := HX.out.cell 8 rfl; have HX2 := Lib.hid (HX.out.set 8 (.slice a' l.length c')); have HY2 := Lib.hid (HY.out.away ⟨w.heap.size, 8, none⟩ (.slice a' l.length c') (by simp)); have c0 := HX2.out.cell 0 rfl; have c1 := HX2.out.cell 1 rfl; have c2 := HX2.out.cell 2 rfl; have c3 := HX2.out.cell 3 rfl; have c4 := HX2.out.cell 4 rfl; have c5 := HX2.out.cell 5 rfl; have c6 := HX2.out.cell 6 rfl; have c7 := HX2.out.cell 7 rfl; have c8 := HX2.out.cell 8 rfl; have y0 := HY2.out.cell 0 rfl; have z0 := HY2.out.free 0 rfl; have y1 := HY2.out.cell 1 rfl; have z1 := HY2.out.free 1 rfl; have y2 := HY2.out.cell 2 rfl; have z2 := HY2.out.free 2 rfl; have y3 := HY2.out.cell 3 rfl; have z3 := HY2.out.free 3 rfl; have y4 := HY2.out.cell 4 rfl; have z4 := HY2.out.free 4 rfl; have y5 := HY2.out.cell 5 rfl; have z5 := HY2.out.free 5 rfl; have y6 := HY2.out.cell 6 rfl; have z6 := HY2.out.free 6 rfl; have y7 := HY2.out.cell 7 rfl; have z7 := HY2.out.free 7 rfl; have y8 := HY2.out.cell 8 rfl; have z8 := HY2.out.free 8 rfl)
  have hge := ownGe HO.out
  have hn1 : (Value.slice a' l.length c').ownBlock ≠ some w.heap.size := fun e => by have := hge _ e; simp at this <;> omega
  have hn2 : (Value.slice a' l.length c').ownBlock ≠ some (w.heap.size + 1) := fun e => by have := hge _ e; simp at this <;> omega
  have hb1 := HB.out.setCell (p := ⟨w.heap.size, 8, none⟩) (Nat.le_refl _) (.slice a' l.length c')
  have hl1 : w.heap.size ≤ w.heap.size + 1 := by omega
  refine bodyPost_ret (v := .agg #[.int .i64 id, .int .i64 prio, .int .u64 sk, .int .u64 ge, .int .i64 fx, .int .i64 fy, .int .i64 tx, .int .i64 ty, .slice a' l.length c']) ?_ rfl ⟨a', c', rfl, ?_, ?_⟩
  · simp [results, Try.results22, go_sem, y0, y1, y2, y3, y4, y5, y6, y7, y8]
  · exact OwnR.base13 ((((((((((HO.out.away _ _ hn1).away _ _ hn2).away _ _ hn2).away _ _ hn2).away _ _ hn2).away _ _ hn2).away _ _ hn2).away _ _ hn2).away _ _ hn2).away _ _ hn2) (by rw [World.size_alloc, World.size_alloc]; omega)
  · exact ((((((((hb1.setCell hl1 _).setCell hl1 _).setCell hl1 _).setCell hl1 _).setCell hl1 _).setCell hl1 _).setCell hl1 _).setCell hl1 _).setCell hl1 _

set_option maxHeartbeats 4000000 in
set_option maxRecDepth 100000 in
/-- .. the list is new, and its own -/
theorem bFreeO_any (vk vl : Value) (K : List Tk) (L : List Sp) (w : World) (hk : RowsAt w 14 csTk vk K) (hl : SpsAt w vl L) (hkl : K.length ≤ 1000) (hll : L.length ≤ 1000) (hK : ∀ t ∈ K, I64 t.sp.id ∧ I64 t.st) (h64 : Sp64 L) (haf : ∀ x ∈ L, x.aft.length ≤ 1000000) :
    Calls Try.prog 25 #[vk, vl] w fun e w' => ∃ v, e = .returned v ∧ OwnI w' w.heap.size v (freeO K L) ∧ Below w.heap.size w w' := by
  have GN := Lib.hid (namesOf_any vk vl K L w hk hl hkl hll hK fun x hx => (h64 x hx).1)
  obtain ⟨va, vc, rfl⟩ := RowsAt.form hk
  obtain ⟨la, lc, rfl⟩ := hl.form
  have HS := Lib.hid hl
  have H64 := Lib.hid h64
  have HAF := Lib.hid haf
  have l2 : (L.length : Int) ≤ 1000 := by omega
  clear hk hl hkl hK h64 haf
  go_enter Try.func25, Try.ntmps25
  go_upto_region 2 with (go_at_call 34; (with_reducible refine GN.out.mono ?_); rintro e w2 ⟨bk, bs, rfl, hn, hb⟩; have HN := Lib.hid hn; have HB := Lib.hid hb; clear hn hb)
  have hal := (Below.refl w2.heap.size w2).alloc (Nat.le_refl _) (.cells #[.map (some bk), .map (some bs)] 72)
  have HC := Lib.hid (show Ck23 w2.heap.size bk bs K (.slice la L.length lc) L (w2.alloc (.cells #[.map (some bk), .map (some bs)] 72)) from ⟨Blk.new w2 [.map (some bk), .map (some bs)] 72, HN.out.kept hal, (HS.out.kept HB.out).kept hal⟩)
  have HB3 := Lib.hid (HB.out.trans (hal.mono HB.out.size))
  generalize w2.alloc (.cells #[.map (some bk), .map (some bs)] 72) = w3 at *
  generalize w2.heap.size = n0 at *
  clear hal HN HB HS
  go_wp2
  go_loopg [6, 14] L.length (fun kx sv iv ws => ∃ k : Nat, k ≤ L.length ∧ L.length - k ≤ kx ∧ iv = .int .i64 k ∧ Hid (OwnI ws w3.heap.size sv (freeO K (L.take k))) ∧ Hid (Below w3.heap.size w3 ws))
  case atStart => exact ⟨0, Nat.zero_le _, Nat.le_refl _, rfl, OwnR.nil _ _ _ _ _, Below.refl _ _⟩
  case round =>
    obtain ⟨k, hk, hkx, rfl, HO, HB4⟩ := hrel
    obtain ⟨aT, cT, e⟩ := (OwnI.ints HO.out).form
    subst e
    have HC4 := Lib.hid (HC.out.kept HB4.out)
    by_cases hlt : k < L.length
    · obtain ⟨g, o, cc, id, prio, sk, ge, fx, fy, tx, ty, a, c, l, he, e, hlc, p0, p1, p2, p3, p4, p5, p6, p7, p8, hi8⟩ := HC4.out.sp.spot k hlt
      cases e
      have HLT := Lib.hid (And.intro hlt hkx)
      have k0 : (0 : Int) ≤ (k : Int) := by omega
      have k1 : (k : Int) < (L.length : Int) := by omega
      have hfn := freeO_take K L k hlt
      have hfl : (freeO K (L.take k)).length ≤ 1000 := by have := freeO_len K (L.take k); rw [List.length_take] at this; omega
      have hx64 := H64.out _ (List.getElem_mem hlt)
      have hxa := HAF.out _ (List.getElem_mem hlt)
      have hal := (Below.refl wr.heap.size wr).alloc (Nat.le_refl _) (.cells #[.int .i64 id, .int .i64 prio, .int .u64 sk, .int .u64 ge, .int .i64 fx, .int .i64 fy, .int .i64 tx, .int .i64 ty, .slice a l.length c] 41)
      have hX := Blk.new wr [.int .i64 id, .int .i64 prio, .int .u64 sk, .int .u64 ge, .int .i64 fx, .int .i64 fy, .int .i64 tx, .int .i64 ty, .slice a l.length c] 41
      rw [he] at hfn hx64 hxa
      dsimp only at hx64 hxa
      have GI := isFree_any ⟨id, prio, sk, ge, fx, fy, tx, ty, a, c, l⟩ bk bs K L _ (HC4.out.nm.kept hal) (hi8.below hal) hxa hx64.2
      dsimp only [spv, nmv] at GI
      have HX3 := Lib.hid hX
      have HO3 := Lib.hid (OwnR.alloc HO.out (.cells #[.int .i64 id, .int .i64 prio, .int .u64 sk, .int .u64 ge, .int .i64 fx, .int .i64 fy, .int .i64 tx, .int .i64 ty, .slice a l.length c] 41))
      have HB5 := Lib.hid (HB4.out.alloc HB4.out.size (.cells #[.int .i64 id, .int .i64 prio, .int .u64 sk, .int .u64 ge, .int .i64 fx, .int .i64 fy, .int .i64 tx, .int .i64 ty, .slice a l.length c] 41))
      have d0 := (HC4.out.x.kept hal).cell 0 rfl
      have d1 := (HC4.out.x.kept hal).cell 1 rfl
      have x0 := hX.cell 0 rfl
      have x1 := hX.cell 1 rfl
      have x2 := hX.cell 2 rfl
      have x3 := hX.cell 3 rfl
      have x4 := hX.cell 4 rfl
      have x5 := hX.cell 5 rfl
      have x6 := hX.cell 6 rfl
      have x7 := hX.cell 7 rfl
      have x8 := hX.cell 8 rfl
      generalize freeB K ⟨id, prio, sk, ge, fx, fy, tx, ty, a, c, l⟩ = t at *
      have HG := Lib.hid GI
      have HFN := Lib.hid hfn
      have HFL := Lib.hid hfl
      generalize freeO K (L.take k) = D at *
      clear hk hkx hlt hfn hfl hx64 hxa hal hX GI hi8 he HO HC4
      cases t with
      | true =>
        go_wp2_with (first
          | (go_at_call 40; (with_reducible refine HG.out.mono ?_); rintro e w6 ⟨rfl, hb⟩; have HO6 := Lib.hid (OwnR.kept HO3.out hb); have HB6 := Lib.hid (HB5.out.trans (hb.mono HB5.out.size)); have y0 := (HX3.out.kept hb).cell 0 rfl; clear hb x0 x1 x2 x3 x4 x5 x6 x7 x8 d0 d1)
          | (at_builtin; refine app1 (n := id) HO6.out HB6.out.size (by have := HFL.out; omega) rfl _ _ rfl rfl rfl ?_; intro v7 w7 o7 b7; have HO7 := Lib.hid o7; have HB7 := Lib.hid (HB6.out.trans b7); clear o7 b7 y0))
        go_roundg (L.length - (k + 1))
        case measure => have := HLT.out; omega
        case rel => exact ⟨k + 1, by have := HLT.out; omega, Nat.le_refl _, by go_num, by rw [HFN.out]; exact HO7.out, HB7.out⟩
      | false =>
        go_wp2_with (go_at_call 40; (with_reducible refine HG.out.mono ?_); rintro e w6 ⟨rfl, hb⟩; have HO6 := Lib.hid (OwnR.kept HO3.out hb); have HB6 := Lib.hid (HB5.out.trans (hb.mono HB5.out.size)); clear hb x0 x1 x2 x3 x4 x5 x6 x7 x8 d0 d1)
        go_roundg (L.length - (k + 1))
        case measure => have := HLT.out; omega
        case rel => exact ⟨k + 1, by have := HLT.out; omega, Nat.le_refl _, by go_num, by rw [HFN.out]; exact HO6.out, HB6.out⟩
    · have hke : k = L.length := by omega
      subst hke
      have ho := OwnR.base13 HO.out HB3.out.size
      generalize (freeO K (L.take L.length)).length = m7 at *
      rw [List.take_length] at ho
      have H7 := Lib.hid ho
      clear hk hkx hlt HO ho
      go_wp2
      go_ret
      exact ⟨_, rfl, H7.out, HB3.out.trans (HB4.out.mono HB3.out.size)⟩
end Go.Proofs.Ythchkhgimnchcaa
/- Stage 24's program: View. (wip/gen/gen24B.py writes this text.) -/
namespace Go.Proofs.Ythchkhgimnchcaa
open Go.RowKit

theorem csTk_one (x : Tk) : ∀ u ∈ csTk x, u.oneCell' = true := by
  intro u hu
  simp [csTk] at hu
  rcases hu with rfl | rfl | rfl | rfl | rfl | rfl | rfl | rfl | rfl | rfl | rfl | rfl | rfl | rfl <;> rfl
theorem info_task : (Try.prog.info? 43).map (fun i => (i.zero, i.size, i.bytes)) = some (some (.agg #[.int .i64 0, .int .i64 0, .int .u64 0, .int .u64 0, .int .i64 0, .int .i64 0, .int .i64 0, .int .i64 0, .slice none 0 0, .int .i64 0, .int .i64 0, .int .i64 0, .int .i64 0, .slice none 0 0]), 14, 144) := by kernel_rfl
theorem appTk {ops : Array Oper} {rest : List Oper} {o : Oper} {a : Act} {Q : Exit → Act → World → Prop} {B : Nat} {w : World} (x : Tk) {v : Value} {l : List Tk} (hown : OwnR w B 43 14 csTk v l) (hB : B ≤ w.heap.size) (hl : l.length ≤ 1000000)
    (hgd : o.guard = none) (s y : Operand) (ho : o.op = .call { callee := .builtin .append, args := #[s, y], argTypes := #[35, 35] }) (hs : a.eval s = v) (hx : a.eval y = .slice (some ⟨w.heap.size, 0, none⟩) 1 1)
    (hK : ∀ v' w', OwnR w' B 43 14 csTk v' (l ++ [x]) → Below B w w' → Only (fun k => v.ownBlock = some k) w w' → wpList Try.prog ops Q rest (a.put o.dst v') w') : wpList Try.prog ops Q (o :: rest) a (w.alloc (.cells #[.int .i64 x.sp.id, .int .i64 x.sp.prio, .int .u64 x.sp.sk, .int .u64 x.sp.ge, .int .i64 x.sp.fx, .int .i64 x.sp.fy, .int .i64 x.sp.tx, .int .i64 x.sp.ty, .slice x.sp.a x.sp.aft.length x.sp.c, .int .i64 x.st, .int .i64 x.seq, .int .i64 x.since, .int .i64 x.lost, .slice x.ba x.burnt.length x.bc] 43)) := by
  obtain ⟨i, hi, hz, hs1, hb1⟩ := info_parts info_task
  exact appK csTk_len (by decide) csTk_one 43 35 i _ 144 Try.underlying35 hi hz hs1 hb1 rfl (by decide) hown hB hl hgd s y ho hs hx fun v' w' h1 h2 h3 _ => hK v' w' h1 h2 h3

/-- a task but for where its list lies -/
def plK (t : Tk) : Tk := mkK { t.sp with a := none, c := 0 } t.st
theorem plK_ids {V T : List Tk} (h : V.map plK = T.map plK) : idsK V = idsK T := by
  have := congrArg (List.map fun t : Tk => t.sp.id) h
  simpa [List.map_map, Function.comp_def, plK, mkK, idsK] using this
theorem plK_stO {V T : List Tk} (h : V.map plK = T.map plK) (n : Int) : stO V n = stO T n := by
  have key : ∀ L : List Tk, stO (L.map plK) n = stO L n := by
    intro L
    induction L with
    | nil => rfl
    | cons t L ih => rw [List.map_cons, stO_cons, stO_cons, ih]; rfl
  rw [← key V, ← key T, h]
theorem plK_len {V T : List Tk} (h : V.map plK = T.map plK) : V.length = T.length := by simpa using congrArg List.length h

section
variable {F : Nat → Prop} {p mb : Nat} {room : Int} {T : List Tk} {nx : Int → List Int} {g : Int → Option Nat} {Fm : Int → Nat → Prop}
set_option maxHeartbeats 1000000 in
set_option maxRecDepth 100000 in
theorem dView_nil (w : World) : Calls Try.prog 9 #[.pointer none] w fun e w' => e = .returned (.slice none 0 0) ∧ w = w' := by
  go_enter Try.func9, Try.ntmps9
  go_wp2
  go_ret
  exact ⟨rfl, rfl⟩
set_option maxHeartbeats 8000000 in
set_option maxRecDepth 100000 in
theorem dView_any (w : World) (h : DagP F w p mb room T nx g Fm) :
    Calls Try.prog 9 #[ndv p] w fun e w' => ∃ v V, e = .returned v ∧ OwnR w' w.heap.size 43 14 csTk v V ∧ (∀ x ∈ V, OwnI w' w.heap.size x.sp.v x.sp.aft) ∧ V.map plK = T.map plK ∧ Below w.heap.size w w' := by
  have hfit := h.fit
  have h64 := h.room64
  have hidl : (idsK T).length = T.length := List.length_map _
  have GK := Lib.hid (dKeys_any mb w)
  have GS := Lib.hid (dSorted_any mb T.length g w h.R.map (by omega) (idsK T) h.wf.ris fun n => ⟨fun hn => ⟨(h.wf.id64 hn).1, (h.R.dom n).1 hn⟩, fun hn => (h.R.dom n).2 hn.2⟩)
  have c1 := h.R.box.cell 1 rfl
  have HD := Lib.hid h
  obtain ⟨ids, hids⟩ : ∃ ids, idsK T = ids := ⟨_, rfl⟩
  rw [hids] at GS hidl
  have HIDS := Lib.hid hids
  have l2 : (ids.length : Int) ≤ 64 := by omega
  have HL := Lib.hid (And.intro hidl (show T.length ≤ 64 by omega))
  clear h hids hidl hfit h64
  go_enter Try.func9, Try.ntmps9
  go_wp2_with (first
    | (go_at_call 21; (with_reducible refine GK.out.mono ?_); rintro e w1 ⟨rfl, rfl⟩)
    | (go_at_call 20; (with_reducible refine GS.out.mono ?_); rintro e w1 ⟨vi, rfl, hoi, hb⟩; obtain ⟨ai, ci, e⟩ := (OwnI.ints hoi).form; subst e; have HI := Lib.hid (OwnI.ints hoi); have HB0 := Lib.hid hb; clear hoi hb))
  go_loopg [3, 16] ids.length (fun kx ov iv ws => ∃ (k : Nat) (V : List Tk), k ≤ ids.length ∧ ids.length - k ≤ kx ∧ iv = .int .i64 k ∧ Hid (OwnR ws w1.heap.size 43 14 csTk ov V ∧ (∀ x ∈ V, OwnI ws w1.heap.size x.sp.v x.sp.aft) ∧ V.map plK = (T.take k).map plK ∧ Below w1.heap.size w1 ws))
  case atStart => exact ⟨0, [], Nat.zero_le _, Nat.le_refl _, rfl, OwnR.nil _ _ _ _ _, fun x hx => (by cases hx), rfl, Below.refl _ _⟩
  case round =>
    obtain ⟨k, V, hk, hkx, rfl, HS⟩ := hrel
    obtain ⟨av, cv, e⟩ := RowsAt.form (OwnR.rows csTk_len HS.out.1)
    subst e
    by_cases hlt : k < ids.length
    · obtain ⟨g0, o0, cc, e, _, _, q0⟩ := ((HI.out.below HS.out.2.2.2)).spot k hlt
      cases e
      have k0 : (0 : Int) ≤ (k : Int) := by omega
      have k1 : (k : Int) < (ids.length : Int) := by omega
      have hkT : k < T.length := by have := HL.out.1; omega
      have hVl := plK_len HS.out.2.2.1
      rw [List.length_take] at hVl
      have hVl2 : V.length ≤ 64 := by have := HL.out.2; omega
      have htT : T[k] ∈ T := List.getElem_mem hkT
      have hidk : ids[k]'hlt = T[k].sp.id := by have := HIDS.out; subst this; simp [idsK]
      have hDr := HD.out.kept (HB0.out.trans (HS.out.2.2.2.mono HB0.out.size))
      obtain ⟨b, a, c, vn, hg, hN⟩ := hDr.R.nod T[k] htT
      have hidm : T[k].sp.id ∈ idsK T := idsK_mem.2 ⟨_, htT, rfl⟩
      have hlk := hDr.R.map.look1 (HD.out.wf.id64 hidm).1
      rw [hg] at hlk
      rw [hidk] at q0
      dsimp only [pv, Option.map] at hlk
      have hl8 := HD.out.wf.aft8 htT
      have hpl := HD.out.pl T[k] htT
      have htk : (T.take (k + 1)).map plK = (T.take k).map plK ++ [plK T[k]] := by rw [List.take_succ_eq_append_getElem hkT, List.map_append]; rfl
      have hd1 := hDr.R.box.cell 1 rfl
      generalize T[k] = t at *
      obtain ⟨⟨id, prio, sk, ge, fx, fy, tx, ty, a0, c0, l⟩, s, j1, j2, j3, j4, j5, j6⟩ := t
      dsimp only at q0 hlk hN hl8 hg
      have haft := OwnI.ints hN.aft
      dsimp only at haft
      have p0 := hN.blk.cell 0 rfl
      have p1 := hN.blk.cell 1 rfl
      have p2 := hN.blk.cell 2 rfl
      have p3 := hN.blk.cell 3 rfl
      have p4 := hN.blk.cell 4 rfl
      have p5 := hN.blk.cell 5 rfl
      have p6 := hN.blk.cell 6 rfl
      have p7 := hN.blk.cell 7 rfl
      have p8 := hN.blk.cell 8 rfl
      have p9 := hN.blk.cell 9 rfl
      have p10 := hN.blk.cell 10 rfl
      have p11 := hN.blk.cell 11 rfl
      have p12 := hN.blk.cell 12 rfl
      have p13 := hN.blk.cell 13 rfl
      have hal := (Below.refl wr.heap.size wr).alloc (Nat.le_refl _) (.cells #[.int .i64 id, .int .i64 prio, .int .u64 sk, .int .u64 ge, .int .i64 fx, .int .i64 fy, .int .i64 tx, .int .i64 ty, .slice a l.length c, .int .i64 s, .int .i64 0, .int .i64 0, .int .i64 0, .slice none 0 0] 43)
      have hX := Blk.new wr [.int .i64 id, .int .i64 prio, .int .u64 sk, .int .u64 ge, .int .i64 fx, .int .i64 fy, .int .i64 tx, .int .i64 ty, .slice a l.length c, .int .i64 s, .int .i64 0, .int .i64 0, .int .i64 0, .slice none 0 0] 43
      have x0 := hX.cell 0 rfl
      have x1 := hX.cell 1 rfl
      have x2 := hX.cell 2 rfl
      have x3 := hX.cell 3 rfl
      have x4 := hX.cell 4 rfl
      have x5 := hX.cell 5 rfl
      have x6 := hX.cell 6 rfl
      have x7 := hX.cell 7 rfl
      have x8 := hX.cell 8 rfl
      have hGC := tCloneO_any ⟨id, prio, sk, ge, fx, fy, tx, ty, a, c, l⟩ _ (haft.below hal) (by show l.length ≤ 1000; omega)
      dsimp only [spv] at hGC
      have HGC := Lib.hid hGC
      have HX0 := Lib.hid hX
      have HAL := Lib.hid hal
      have HO0 := Lib.hid HS.out.1
      have HV0 := Lib.hid HS.out.2.1
      have HBb := Lib.hid HS.out.2.2.2
      have HSZ := Lib.hid HS.out.2.2.2.size
      have HTK := Lib.hid htk
      have HVM := Lib.hid HS.out.2.2.1
      have HVO := Lib.hid (fun j (hj : (Value.slice av V.length cv).ownBlock = some j) => (World.ownsRow.lt HS.out.1 j hj).2)
      have HLT := Lib.hid (And.intro hlt (And.intro hkx (And.intro hl8 hVl2)))
      clear HS hDr hN haft hal hGC hX htT hidm hpl htk hVl hVl2 hl8 hlt hkx hk hg hidk
      go_upto_region 9 with (go_at_call 22; (with_reducible refine HGC.out.mono ?_); rintro e w1' ⟨a', c', rfl, hoc, hbc⟩; have HX1 := Lib.hid (HX0.out.kept hbc); have HC1 := Lib.hid hoc; have HBc := Lib.hid hbc; clear hoc hbc x0 x1 x2 x3 x4 x5 x6 x7 x8; have f0 := HX1.out.free 0 rfl; have e0 := HX1.out.cell 0 rfl; have f1 := HX1.out.free 1 rfl; have e1 := HX1.out.cell 1 rfl; have f2 := HX1.out.free 2 rfl; have e2 := HX1.out.cell 2 rfl; have f3 := HX1.out.free 3 rfl; have e3 := HX1.out.cell 3 rfl; have f4 := HX1.out.free 4 rfl; have e4 := HX1.out.cell 4 rfl; have f5 := HX1.out.free 5 rfl; have e5 := HX1.out.cell 5 rfl; have f6 := HX1.out.free 6 rfl; have e6 := HX1.out.cell 6 rfl; have f7 := HX1.out.free 7 rfl; have e7 := HX1.out.cell 7 rfl; have f8 := HX1.out.free 8 rfl; have e8 := HX1.out.cell 8 rfl)
      have hCB : (Value.slice a' l.length c').ownBlock ≠ some wr.heap.size := fun e => by have := ownGe HC1.out _ e; rw [World.size_alloc] at this; omega
      have hBB : wr.heap.size ≤ wr.heap.size := Nat.le_refl _
      have hB2 := ((((((((((HAL.out.trans (HBc.out.mono HAL.out.size)).setCell (p := ⟨wr.heap.size, 0, none⟩) hBB (.int .i64 id)).setCell (p := ⟨wr.heap.size, 1, none⟩) hBB (.int .i64 prio)).setCell (p := ⟨wr.heap.size, 2, none⟩) hBB (.int .u64 sk)).setCell (p := ⟨wr.heap.size, 3, none⟩) hBB (.int .u64 ge)).setCell (p := ⟨wr.heap.size, 4, none⟩) hBB (.int .i64 fx)).setCell (p := ⟨wr.heap.size, 5, none⟩) hBB (.int .i64 fy)).setCell (p := ⟨wr.heap.size, 6, none⟩) hBB (.int .i64 tx)).setCell (p := ⟨wr.heap.size, 7, none⟩) hBB (.int .i64 ty)).setCell (p := ⟨wr.heap.size, 8, none⟩) hBB (.slice a' l.length c'))
      have hX2 := (((((((((HX1.out.set 0 (.int .i64 id)).set 1 (.int .i64 prio)).set 2 (.int .u64 sk)).set 3 (.int .u64 ge)).set 4 (.int .i64 fx)).set 5 (.int .i64 fy)).set 6 (.int .i64 tx)).set 7 (.int .i64 ty)).set 8 (.slice a' l.length c'))
      have hC2 := (OwnR.away (OwnR.away (OwnR.away (OwnR.away (OwnR.away (OwnR.away (OwnR.away (OwnR.away (OwnR.away HC1.out ⟨wr.heap.size, 0, none⟩ (.int .i64 id) hCB) ⟨wr.heap.size, 1, none⟩ (.int .i64 prio) hCB) ⟨wr.heap.size, 2, none⟩ (.int .u64 sk) hCB) ⟨wr.heap.size, 3, none⟩ (.int .u64 ge) hCB) ⟨wr.heap.size, 4, none⟩ (.int .i64 fx) hCB) ⟨wr.heap.size, 5, none⟩ (.int .i64 fy) hCB) ⟨wr.heap.size, 6, none⟩ (.int .i64 tx) hCB) ⟨wr.heap.size, 7, none⟩ (.int .i64 ty) hCB) ⟨wr.heap.size, 8, none⟩ (.slice a' l.length c') hCB)
      have HB2 := Lib.hid hB2
      have HX2 := Lib.hid (show Blk _ wr.heap.size [.int .i64 id, .int .i64 prio, .int .u64 sk, .int .u64 ge, .int .i64 fx, .int .i64 fy, .int .i64 tx, .int .i64 ty, .slice a' l.length c', .int .i64 s, .int .i64 0, .int .i64 0, .int .i64 0, .slice none 0 0] from hX2)
      have HC2 := Lib.hid hC2
      clear hB2 hX2 hC2 f0 e0 f1 e1 f2 e2 f3 e3 f4 e4 f5 e5 f6 e6 f7 e7 f8 e8
      generalize (((((((((w1'.setCell ⟨wr.heap.size, 0, none⟩ (.int .i64 id)).setCell ⟨wr.heap.size, 1, none⟩ (.int .i64 prio)).setCell ⟨wr.heap.size, 2, none⟩ (.int .u64 sk)).setCell ⟨wr.heap.size, 3, none⟩ (.int .u64 ge)).setCell ⟨wr.heap.size, 4, none⟩ (.int .i64 fx)).setCell ⟨wr.heap.size, 5, none⟩ (.int .i64 fy)).setCell ⟨wr.heap.size, 6, none⟩ (.int .i64 tx)).setCell ⟨wr.heap.size, 7, none⟩ (.int .i64 ty)).setCell ⟨wr.heap.size, 8, none⟩ (.slice a' l.length c')) = w2 at *
      have HO2 := Lib.hid (OwnR.kept HO0.out HB2.out)
      have HV2 := Lib.hid (fun x hx => OwnR.kept (HV0.out x hx) HB2.out)
      have hz2 : wr.heap.size ≤ w2.heap.size := HB2.out.size
      have hzb : w1.heap.size ≤ wr.heap.size := HSZ.out
      have HUN := Lib.hid (fun x hx => OwnR.unlike (HV2.out x hx) HO2.out (by decide))
      have HUC := Lib.hid (OwnR.unlike HC2.out HO2.out (by decide))
      have HC3 := Lib.hid (OwnR.base13 HC2.out (show w1.heap.size ≤ _ by rw [World.size_alloc]; omega))
      have y0 := HX2.out.cell 0 rfl
      have y1 := HX2.out.cell 1 rfl
      have y2 := HX2.out.cell 2 rfl
      have y3 := HX2.out.cell 3 rfl
      have y4 := HX2.out.cell 4 rfl
      have y5 := HX2.out.cell 5 rfl
      have y6 := HX2.out.cell 6 rfl
      have y7 := HX2.out.cell 7 rfl
      have y8 := HX2.out.cell 8 rfl
      have y9 := HX2.out.cell 9 rfl
      have y10 := HX2.out.cell 10 rfl
      have y11 := HX2.out.cell 11 rfl
      have y12 := HX2.out.cell 12 rfl
      have y13 := HX2.out.cell 13 rfl
      go_wp2_with (at_builtin; refine appTk ⟨⟨id, prio, sk, ge, fx, fy, tx, ty, a', c', l⟩, s, 0, 0, 0, none, 0, []⟩ HO2.out (Nat.le_trans hzb hz2) (by have := HLT.out.2.2.2; omega) rfl _ _ rfl rfl rfl ?_; intro v7 w7 o7 b7 q7; have HO7 := Lib.hid o7; have HB7 := Lib.hid b7; have HQ7 := Lib.hid q7; clear o7 b7 q7)
      go_roundg (ids.length - (k + 1))
      case measure => have := HLT.out; omega
      case rel =>
        refine ⟨k + 1, V ++ [⟨⟨id, prio, sk, ge, fx, fy, tx, ty, a', c', l⟩, s, 0, 0, 0, none, 0, []⟩], by have := HLT.out; omega, Nat.le_refl _, by go_num, HO7.out, fun x hx => ?_, ?_, ?_⟩
        · rcases List.mem_append.1 hx with hx | hx
          · exact OwnR.only23 (HV2.out x hx) HQ7.out (fun j hj => HUN.out x hx j hj)
          · rw [List.mem_singleton.1 hx]
            exact OwnR.only23 HC3.out HQ7.out (fun j hj => HUC.out j hj)
        · rw [List.map_append, HVM.out, HTK.out]
          rfl
        · exact (HBb.out.trans (HB2.out.mono hzb)).trans HB7.out
    · have hke : k = ids.length := by omega
      subst hke
      have hvm := HS.out.2.2.1
      rw [HL.out.1, List.take_length] at hvm
      have HVM := Lib.hid hvm
      have ho := OwnR.base13 HS.out.1 HB0.out.size
      have HO := Lib.hid ho
      generalize V.length = m at *
      clear hvm ho hlt hk hkx
      go_wp2
      go_ret
      exact ⟨_, V, rfl, HO.out, fun x hx => OwnR.base13 (HS.out.2.1 x hx) HB0.out.size, HVM.out, HB0.out.trans (HS.out.2.2.2.mono HB0.out.size)⟩
end
end Go.Proofs.Ythchkhgimnchcaa
/- Stage 24: what a batch that is admitted makes of the store, as mathematics. -/
namespace Go.Proofs.Ythchkhgimnchcaa
open Go.RowKit

theorem plK_stf {V T : List Tk} (h : V.map plK = T.map plK) : stO V = stO T := funext fun n => plK_stO h n
theorem bchk_congr {room : Int} {V T : List Tk} {L : List Sp} (h : V.map plK = T.map plK) : bchk room V L = bchk room T L := by
  have h1 := plK_stf h
  have h2 := plK_len h
  unfold bchk newB namedB namedI comeB comeI
  rw [h1, h2]
theorem freeO_congr {V T : List Tk} {L : List Sp} (h : V.map plK = T.map plK) : freeO V L = freeO T L := by
  have h1 := plK_stf h
  unfold freeO freeB overI
  rw [h1]

/-- by rising IDs, with one more -/
def insD (x : Tk) : List Tk → List Tk
  | [] => [x]
  | y :: t => if x.sp.id < y.sp.id then x :: y :: t else y :: insD x t
theorem insD_perm (x : Tk) : ∀ T : List Tk, (insD x T).Perm (x :: T)
  | [] => List.Perm.refl _
  | y :: t => by
    unfold insD
    split
    · exact List.Perm.refl _
    · exact ((insD_perm x t).cons y).trans (List.Perm.swap x y t)
theorem idsO_mem {L : List Sp} {n : Int} : n ∈ idsO L ↔ ∃ x ∈ L, x.id = n := List.mem_map
theorem ids_ins (x : Tk) (T : List Tk) {n : Int} : n ∈ idsK (insD x T) ↔ n = x.sp.id ∨ n ∈ idsK T := by
  unfold idsK
  rw [((insD_perm x T).map _).mem_iff, List.map_cons, List.mem_cons]
theorem idsO_inj : ∀ {L : List Sp}, (idsO L).Nodup → ∀ {x y : Sp}, x ∈ L → y ∈ L → x.id = y.id → x = y
  | [], _, _, _, hx, _, _ => by cases hx
  | a :: L, h, x, y, hx, hy, e => by
    have h2 : (a.id :: idsO L).Nodup := h
    rw [List.nodup_cons] at h2
    rcases List.mem_cons.1 hx with e1 | hx
    · rcases List.mem_cons.1 hy with e2 | hy
      · rw [e1, e2]
      · exact absurd (idsO_mem.2 ⟨y, hy, by rw [← e, e1]⟩) h2.1
    · rcases List.mem_cons.1 hy with e2 | hy
      · exact absurd (idsO_mem.2 ⟨x, hx, by rw [e, e2]⟩) h2.1
      · exact idsO_inj h2.2 hx hy e
theorem idx_take {l : List Int} {a : Int} {i : Nat} (h : a ∈ l.take i) : l.idxOf a < i := by
  have h1 : l.idxOf a = (l.take i).idxOf a := by
    conv => lhs; rw [← List.take_append_drop i l]
    rw [List.idxOf_append, if_pos h]
  have h2 := List.idxOf_lt_length_iff.2 h
  rw [List.length_take] at h2
  omega
theorem insD_ris (x : Tk) : ∀ T : List Tk, risL (idsK T) → x.sp.id ∉ idsK T → risL (idsK (insD x T))
  | [], _, _ => by unfold insD idsK risL; simp
  | y :: t, h, hx => by
    have h1 : (y.sp.id :: idsK t).Pairwise (· < ·) := h
    rw [List.pairwise_cons] at h1
    have hxt : x.sp.id ∉ idsK t := fun e => hx (List.mem_cons_of_mem _ e)
    have hxy : x.sp.id ≠ y.sp.id := fun e => hx (by rw [e]; exact List.mem_cons_self)
    unfold insD
    split
    · rename_i hlt
      refine List.pairwise_cons.2 ⟨fun n hn => ?_, h⟩
      rcases List.mem_cons.1 hn with e | hn
      · rw [e]; exact hlt
      · exact Int.lt_trans hlt (h1.1 n hn)
    · rename_i hlt
      refine List.pairwise_cons.2 ⟨fun n hn => ?_, insD_ris x t h1.2 hxt⟩
      have hn2 : n ∈ idsK (insD x t) := hn
      rw [ids_ins] at hn2
      rcases hn2 with e | hn3
      · rw [e]
        show y.sp.id < x.sp.id
        omega
      · exact h1.1 n hn3
/-- a new task's status -/
def nst (free : List Int) (x : Sp) : Int := if inL free x.id then 2 else 1
def admT (T : List Tk) (free : List Int) (L : List Sp) : List Tk := L.foldl (fun out x => insD (mkK x (nst free x)) out) T
theorem admT_take (T : List Tk) (free : List Int) (L : List Sp) (k : Nat) (hk : k < L.length) : admT T free (L.take (k + 1)) = insD (mkK L[k] (nst free L[k])) (admT T free (L.take k)) := by
  unfold admT
  rw [List.take_succ_eq_append_getElem hk, List.foldl_append]
  rfl
theorem admT_perm (free : List Int) : ∀ (L : List Sp) (T : List Tk), (admT T free L).Perm (T ++ L.map fun x => mkK x (nst free x))
  | [], T => by rw [List.map_nil, List.append_nil]; exact List.Perm.refl _
  | x :: L, T => by
    have e : admT T free (x :: L) = admT (insD (mkK x (nst free x)) T) free L := rfl
    rw [e]
    refine (admT_perm free L _).trans ?_
    rw [List.map_cons]
    exact ((insD_perm _ T).append_right _).trans (List.perm_middle.symm)
theorem admT_ris (free : List Int) : ∀ (L : List Sp) (T : List Tk), risL (idsK T) → (idsO L).Nodup → (∀ n ∈ idsO L, n ∉ idsK T) → risL (idsK (admT T free L))
  | [], _, h, _, _ => h
  | x :: L, T, h, hn, hd => by
    have e : admT T free (x :: L) = admT (insD (mkK x (nst free x)) T) free L := rfl
    rw [e]
    have hn2 : (x.id :: idsO L).Nodup := hn
    rw [List.nodup_cons] at hn2
    have hx : x.id ∉ idsK T := hd x.id List.mem_cons_self
    refine admT_ris free L _ (insD_ris (mkK x (nst free x)) T h hx) hn2.2 fun n hn3 hn4 => ?_
    rw [ids_ins] at hn4
    rcases hn4 with e2 | hn4
    · exact hn2.1 (by rw [← show n = x.id from e2]; exact hn3)
    · exact hd n (List.mem_cons_of_mem _ hn3) hn4
theorem admT_len (T : List Tk) (free : List Int) (L : List Sp) : (admT T free L).length = T.length + L.length := by
  rw [(admT_perm free L T).length_eq, List.length_append, List.length_map]
theorem admT_mem {T : List Tk} {free : List Int} {L : List Sp} {t : Tk} : t ∈ admT T free L ↔ t ∈ T ∨ ∃ x ∈ L, t = mkK x (nst free x) := by
  rw [(admT_perm free L T).mem_iff, List.mem_append, List.mem_map]
  exact ⟨fun h => h.imp id fun ⟨x, h1, h2⟩ => ⟨x, h1, h2.symm⟩, fun h => h.imp id fun ⟨x, h1, h2⟩ => ⟨x, h1, h2.symm⟩⟩

/-- those that come right behind, with a batch's -/
def nxA (nx : Int → List Int) (L : List Sp) : Int → List Int := fun n => nx n ++ idsO (L.filter fun x => inL x.aft n)
section
variable {room : Int} {T : List Tk} {L : List Sp} {nx : Int → List Int}
theorem OkB.old (h : OkB room T L) {n : Int} (hn : n ∈ idsO L) : n ∉ idsK T := by
  obtain ⟨x, hx, rfl⟩ := idsO_mem.1 hn
  have := h.new x hx
  unfold newB at this
  simp only [Bool.and_eq_true, Bool.not_eq_true'] at this
  intro hk
  rw [stO_mem.2 hk] at this
  exact absurd this.1 (by simp)
theorem OkB.free (h : OkB room T L) {x : Sp} (hx : x ∈ L) : x.id ∈ freeO T L ↔ freeB T x = true := by
  unfold freeO
  rw [idsO_mem]
  constructor
  · rintro ⟨y, hy, e⟩
    obtain ⟨h1, h2⟩ := List.mem_filter.1 hy
    have : y = x := idsO_inj h.nodup h1 hx e
    rw [← this]
    exact h2
  · intro hf
    exact ⟨x, List.mem_filter.2 ⟨hx, hf⟩, rfl⟩
theorem nst_cases (free : List Int) (x : Sp) : (nst free x = 2 ∧ x.id ∈ free) ∨ (nst free x = 1 ∧ x.id ∉ free) := by
  unfold nst
  by_cases h : x.id ∈ free
  · rw [if_pos (inL_iff.2 h)]; exact .inl ⟨rfl, h⟩
  · rw [if_neg (fun e => h (inL_iff.1 e))]; exact .inr ⟨rfl, h⟩
theorem Ed_adm {a n : Int} : Ed (admT T (freeO T L) L) a n ↔ Ed T a n ∨ ∃ x ∈ L, x.id = n ∧ a ∈ x.aft := by
  constructor
  · rintro ⟨t, ht, e, ha⟩
    rcases admT_mem.1 ht with h | ⟨x, hx, rfl⟩
    · exact .inl ⟨t, h, e, ha⟩
    · exact .inr ⟨x, hx, e, ha⟩
  · rintro (⟨t, ht, e, ha⟩ | ⟨x, hx, e, ha⟩)
    · exact ⟨t, admT_mem.2 (.inl ht), e, ha⟩
    · exact ⟨_, admT_mem.2 (.inr ⟨x, hx, rfl⟩), e, ha⟩
theorem ids_adm {free : List Int} {n : Int} : n ∈ idsK (admT T free L) ↔ n ∈ idsK T ∨ n ∈ idsO L := by
  rw [idsK_mem, idsK_mem, idsO_mem]
  constructor
  · rintro ⟨t, ht, e⟩
    rcases admT_mem.1 ht with h | ⟨x, hx, rfl⟩
    · exact .inl ⟨t, h, e⟩
    · exact .inr ⟨x, hx, e⟩
  · rintro (⟨t, ht, e⟩ | ⟨x, hx, e⟩)
    · exact ⟨t, admT_mem.2 (.inl ht), e⟩
    · exact ⟨_, admT_mem.2 (.inr ⟨x, hx, rfl⟩), e⟩
theorem Wf.adm (h : Wf T) (ho : OkB room T L) : Wf (admT T (freeO T L) L) := by
  have hr := admT_ris (freeO T L) L T h.ris ho.nodup fun n hn => ho.old hn
  have hn := hr.nodup
  have hold : ∀ n, n ∈ idsK T → sgT (admT T (freeO T L) L) n = sgT T n := fun n hnT => by
    obtain ⟨t, ht, rfl⟩ := idsK_mem.1 hnT
    rw [sg_at hn (admT_mem.2 (.inl ht)), sg_at h.nodup ht]
  have hnew : ∀ x ∈ L, sgT (admT T (freeO T L) L) x.id = nst (freeO T L) x := fun x hx => sg_at hn (t := mkK x (nst (freeO T L) x)) (admT_mem.2 (.inr ⟨x, hx, rfl⟩))
  have hfree : ∀ x ∈ L, nst (freeO T L) x = 2 → ∀ a ∈ x.aft, sgT T a = 4 := fun x hx hs a ha => by
    rcases nst_cases (freeO T L) x with h1 | h1
    · have := (ho.free hx).1 h1.2
      unfold freeB at this
      exact overI_iff.1 (List.all_eq_true.1 this a ha)
    · omega
  have hon : ∀ a, sgT T a = 4 → a ∈ idsK T := fun a ha => Classical.byContradiction fun e => by rw [sg_none e] at ha; omega
  refine ⟨hr, fun t ht => ?_, fun n hn1 => ?_, fun a n he => ?_, fun n hn1 hs => ?_, fun n hn1 hs a he => ?_, fun a n he hs => ?_, ?_⟩
  · rcases admT_mem.1 ht with h1 | ⟨x, hx, rfl⟩
    · exact h.chk t h1
    · exact ho.chk x hx
  · rcases ids_adm.1 hn1 with h1 | h1
    · rw [hold n h1]; exact h.sts n h1
    · obtain ⟨x, hx, rfl⟩ := idsO_mem.1 h1
      rw [hnew x hx]
      rcases nst_cases (freeO T L) x with h2 | h2
      · omega
      · omega
  · rcases Ed_adm.1 he with h1 | ⟨x, hx, _, ha⟩
    · exact ids_adm.2 (.inl (h.pre a n h1))
    · exact ids_adm.2 (ho.ids hx ha)
  · rcases ids_adm.1 hn1 with h1 | h1
    · rw [hold n h1] at hs
      obtain ⟨a, h2, h3⟩ := h.wait n h1 hs
      exact ⟨a, Ed_adm.2 (.inl h2), by rw [hold a (h.pre a n h2)]; exact h3⟩
    · obtain ⟨x, hx, rfl⟩ := idsO_mem.1 h1
      rw [hnew x hx] at hs
      rcases nst_cases (freeO T L) x with h2 | h2
      · omega
      have h3 : freeB T x = false := by
        cases e : freeB T x with
        | false => rfl
        | true => exact absurd ((ho.free hx).2 e) h2.2
      unfold freeB at h3
      rw [List.all_eq_false] at h3
      obtain ⟨a, ha, h4⟩ := h3
      refine ⟨a, Ed_adm.2 (.inr ⟨x, hx, rfl, ha⟩), ?_⟩
      rcases ho.ids hx ha with h5 | h5
      · rw [hold a h5]
        exact fun e => h4 (overI_iff.2 e)
      · obtain ⟨y, hy, rfl⟩ := idsO_mem.1 h5
        rw [hnew y hy]
        rcases nst_cases (freeO T L) y with h6 | h6
        · omega
        · omega
  · rcases ids_adm.1 hn1 with h1 | h1
    · rcases Ed_adm.1 he with h2 | ⟨x, hx, e, _⟩
      · rw [hold n h1] at hs
        rw [hold a (h.pre a n h2)]
        exact h.over n h1 hs a h2
      · exact absurd (e ▸ h1) (ho.old (idsO_mem.2 ⟨x, hx, rfl⟩))
    · rcases Ed_adm.1 he with h2 | ⟨x, hx, rfl, ha⟩
      · exact absurd (Ed_ids h2) (ho.old h1)
      · rw [hnew x hx] at hs
        have h3 := hfree x hx (by rcases nst_cases (freeO T L) x with h2 | h2 <;> omega) a ha
        rw [hold a (hon a h3)]
        exact h3
  · have haT : a ∈ idsK T := by
      rcases Ed_adm.1 he with h1 | ⟨x, hx, rfl, ha⟩
      · exact h.pre a n h1
      · rcases ho.ids hx ha with h2 | h2
        · exact h2
        · obtain ⟨y, hy, rfl⟩ := idsO_mem.1 h2
          rw [hnew y hy] at hs
          rcases nst_cases (freeO T L) y with h6 | h6 <;> omega
    rw [hold a haT] at hs
    rcases Ed_adm.1 he with h1 | ⟨x, hx, rfl, ha⟩
    · rw [hold n (Ed_ids h1)]
      exact h.drop a n h1 hs
    · have h2 := List.all_eq_true.1 (ho.come x hx) a ha
      unfold comeI at h2
      simp only [Bool.and_eq_true, Bool.not_eq_true', decide_eq_false_iff_not] at h2
      unfold sgT at hs
      omega
  · obtain ⟨rk, hrk⟩ := h.topo
    obtain ⟨M, hM⟩ : ∃ M : Nat, ∀ n ∈ idsK T, rk n < M := by
      have key : ∀ l : List Int, ∃ M : Nat, ∀ n ∈ l, rk n < M := by
        intro l
        induction l with
        | nil => exact ⟨0, fun n hn => by cases hn⟩
        | cons a l ih =>
          obtain ⟨M, hM⟩ := ih
          refine ⟨M + rk a + 1, fun n hn => ?_⟩
          rcases List.mem_cons.1 hn with rfl | hn
          · omega
          · have := hM n hn
            omega
      exact key _
    refine ⟨fun n => if n ∈ idsO L then M + (ordL (idsO L) (arcsO L)).idxOf n else rk n, fun a n he => ?_⟩
    show (if a ∈ idsO L then M + (ordL (idsO L) (arcsO L)).idxOf a else rk a) < (if n ∈ idsO L then M + (ordL (idsO L) (arcsO L)).idxOf n else rk n)
    rcases Ed_adm.1 he with h1 | ⟨x, hx, rfl, ha⟩
    · rw [if_neg (fun e => ho.old e (h.pre a n h1)), if_neg (fun e => ho.old e (Ed_ids h1))]
      exact hrk a n h1
    · have hxi : x.id ∈ idsO L := idsO_mem.2 ⟨x, hx, rfl⟩
      rw [if_pos hxi]
      by_cases haL : a ∈ idsO L
      · rw [if_pos haL]
        have hm : x.id ∈ ordL (idsO L) (arcsO L) := (whole_mem ho.whole).2 hxi
        have hi : (ordL (idsO L) (arcsO L)).idxOf x.id < (ordL (idsO L) (arcsO L)).length := List.idxOf_lt_length_iff.2 hm
        have hpre := ord_pre (a := ⟨a, x.id⟩) (arcsO_mem.2 ⟨x, hx, rfl, ha⟩) ((setL_mem _ _).2 haL) hi (List.getElem_idxOf hi).symm
        have h3 : (ordL (idsO L) (arcsO L)).idxOf a < (ordL (idsO L) (arcsO L)).idxOf x.id := idx_take hpre
        omega
      · rw [if_neg haL]
        have := hM a ((ho.ids hx ha).resolve_right haL)
        omega
theorem NxOk.adm (h : NxOk T nx) (ho : OkB room T L) : NxOk (admT T (freeO T L) L) (nxA nx L) := by
  refine ⟨fun n x => ?_, fun n => ?_⟩
  · unfold nxA
    rw [List.mem_append, h.1, Ed_adm, idsO_mem]
    refine or_congr Iff.rfl ⟨?_, ?_⟩
    · rintro ⟨y, hy, rfl⟩
      obtain ⟨h1, h2⟩ := List.mem_filter.1 hy
      exact ⟨y, h1, rfl, inL_iff.1 h2⟩
    · rintro ⟨y, hy, rfl, ha⟩
      exact ⟨y, List.mem_filter.2 ⟨hy, inL_iff.2 ha⟩, rfl⟩
  · unfold nxA
    have hsub : ∀ x ∈ idsO (L.filter fun x => inL x.aft n), x ∈ idsO L := fun x hx => by
      obtain ⟨y, hy, rfl⟩ := idsO_mem.1 hx
      exact idsO_mem.2 ⟨y, (List.mem_filter.1 hy).1, rfl⟩
    refine List.nodup_append.2 ⟨h.2 n, ?_, fun a ha b hb e => ?_⟩
    · exact ho.nodup.sublist ((List.filter_sublist (l := L)).map Sp.id)
    · subst e
      exact ho.old (hsub a hb) (Ed_ids ((h.1 n a).1 ha))
theorem Pl.adm (h : Pl T) (free : List Int) : Pl (admT T free L) := fun t ht => by
  rcases admT_mem.1 ht with h1 | ⟨x, hx, rfl⟩
  · exact h t h1
  · rfl
/-- all pending, then the free ones ready: the same tasks -/
theorem adm_same (ho : OkB room T L) : (setsT (T ++ L.map fun x => mkK x 1) (freeO T L) 2).Perm (admT T (freeO T L) L) := by
  refine List.Perm.trans (List.Perm.of_eq ?_) (admT_perm (freeO T L) L T).symm
  unfold setsT
  rw [List.map_append, List.map_map]
  have h1 : T.map (fun t => if inL (freeO T L) t.sp.id = true then { t with st := 2 } else t) = T.map id := List.map_congr_left fun t ht => by
    have : ¬ inL (freeO T L) t.sp.id = true := fun e => by
      have h2 := inL_iff.1 e
      unfold freeO at h2
      obtain ⟨y, hy, e2⟩ := idsO_mem.1 h2
      exact ho.old (idsO_mem.2 ⟨y, (List.mem_filter.1 hy).1, rfl⟩) (by rw [e2]; exact idsK_mem.2 ⟨t, ht, rfl⟩)
    rw [if_neg this]
    rfl
  rw [h1, List.map_id]
  congr 1
  refine List.map_congr_left fun x _ => ?_
  show (if inL (freeO T L) x.id = true then _ else _) = _
  unfold nst
  split <;> rfl
end
end Go.Proofs.Ythchkhgimnchcaa
