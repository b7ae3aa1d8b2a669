/- Stage 25's program: a roster in memory; a hand against a number; the search; place, find. -/
import Derived.Test.YtlgemfgikdaelaaRsM
import Derived.Test.YtlgemfgikdaelaaCmpOr
import Derived.Test.YtlgemfgikdaelaaLabels
import Derived.Test.YtlgemfgikdaelaaOff
import Derived.Deep.LoopGhost
namespace Go.Proofs.Ytlgemfgikdaelaa
open Go.RowKit

abbrev env (x : En) : Value := .agg #[.int .i64 x.id, .int .u64 (x.bits : Int), .bool x.on, .bool x.busy]
theorem compI_lt (x y : Int) : Lib.compareInt x y < 0 ↔ x < y := by
  unfold Lib.compareInt
  (repeat' split) <;> omega
theorem compI_eq (x y : Int) : Lib.compareInt x y = 0 ↔ x = y := by
  unfold Lib.compareInt
  (repeat' split) <;> omega
theorem rAgainst_any (x : En) (n : Int) (w : World) : Calls Try.prog 41 #[env x, .int .i64 n] w fun e w' => e = .returned (.int .i64 (Lib.compareInt x.id n)) ∧ Below w.heap.size w w' := by
  have G := Lib.hid fun w => cCmp_any x.id n w
  obtain ⟨id, b, on, bu⟩ := x
  dsimp only [env] at *
  have HB := Lib.hid ((Below.refl w.heap.size w).alloc (Nat.le_refl _) (.cells #[.int .i64 id, .int .u64 (b : Int), .bool on, .bool bu] 68))
  go_enter Try.func41, Try.ntmps41
  go_wp2_with (go_at_call 44; (with_reducible refine (G.out _).mono ?_); rintro e w1 ⟨rfl, rfl⟩)
  go_ret
  exact ⟨rfl, HB.out⟩
theorem row_at {w : World} {v : Value} {L : List En} (h : RowsAt w 4 csEn v L) (k : Nat) (hk : k < L.length) :
    ∃ g o c, v = .slice (some ⟨g, o, none⟩) L.length c ∧ L.length ≤ c ∧ g < w.heap.size ∧ w.cell? ⟨g, o + k * 4, none⟩ = some (.int .i64 L[k].id) ∧ w.cell? ⟨g, o + k * 4 + 1, none⟩ = some (.int .u64 (L[k].bits : Int)) ∧
      w.cell? ⟨g, o + k * 4 + 2, none⟩ = some (.bool L[k].on) ∧ w.cell? ⟨g, o + k * 4 + 3, none⟩ = some (.bool L[k].busy) := by
  obtain ⟨g, o, c, e, h1, h2, h3⟩ := h.spot k hk
  exact ⟨g, o, c, e, h1, h2, h3 0 _ rfl, h3 1 _ rfl, h3 2 _ rfl, h3 3 _ rfl⟩

set_option maxHeartbeats 4000000 in
set_option maxRecDepth 100000 in
theorem rSearch_any (v : Value) (L : List En) (n : Int) (w : World) (h : RowsAt w 4 csEn v L) (hr : L.Pairwise fun a b => a.id < b.id) (hl : L.length ≤ 1000) :
    Calls Try.prog 40 #[v, .int .i64 n, .func (.func 41) #[] #[]] w fun e w' =>
      e = .returned (.tuple #[.int .i64 (befE L n : Nat), .bool (hasE L n)]) ∧ Below w.heap.size w w' := by
  have HC := Lib.hid fun x w' => rAgainst_any x n w'
  have hat := fun (i : Nat) (hi : i < L.length) => befE_at hr n hi
  have hhas := hasE_iff hr n
  have hble := befE_le L n
  generalize befE L n = b at *
  generalize hasE L n = t at *
  have HAT := Lib.hid hat
  have HH := Lib.hid hhas
  have HR := Lib.hid h
  have b1 : (b : Int) ≤ (L.length : Int) := by omega
  have l1 : (L.length : Int) ≤ 1000 := by omega
  obtain ⟨a, c, rfl⟩ := RowsAt.form h
  clear h hr hat hhas
  go_enter Try.func40, Try.ntmps40
  go_wp2
  go_loopg [9, 10] L.length (fun kx s9 s10 wr => ∃ lo hi : Nat, s9 = .int .i64 lo ∧ s10 = .int .i64 hi ∧ lo ≤ b ∧ b ≤ hi ∧ hi ≤ L.length ∧ hi - lo ≤ kx ∧ Below w.heap.size w wr)
  case atStart => exact ⟨0, L.length, rfl, rfl, Nat.zero_le _, hble, Nat.le_refl _, by omega, Below.refl _ _⟩
  case round =>
    obtain ⟨lo, hi, rfl, rfl, hlo, hhi, hle, hkx, hB⟩ := hrel
    by_cases hlt : lo < hi
    · obtain ⟨m, hm⟩ : ∃ m, m = (lo + hi) / 2 := ⟨_, rfl⟩
      have hml : m < L.length := by omega
      have hmi : ((lo : Int) + (hi : Int)) / 2 = (m : Int) := by omega
      obtain ⟨g, o, cc, e, -, -, p0, p1, p2, p3⟩ := row_at (HR.out.kept hB) m hml
      cases e
      have hx := HAT.out m hml
      have hc := HC.out L[m]
      generalize L[m] = x at *
      obtain ⟨id, bi, on, bu⟩ := x
      have hz := compI_lt id n
      dsimp only [env] at hc hx hz p0 p1 p2 p3
      generalize Lib.compareInt id n = r at *
      have HX := Lib.hid (hz.trans hx)
      have HCX := Lib.hid hc
      have HB := Lib.hid hB
      have k0 : (lo : Int) < (hi : Int) := by omega
      have k1 : (0 : Int) ≤ (lo : Int) := by omega
      have k2 : (hi : Int) ≤ 1000 := by omega
      have k3 : (m : Int) < (L.length : Int) := by omega
      have k4 : (0 : Int) ≤ (m : Int) := by omega
      have HM := Lib.hid (show lo ≤ m ∧ m < hi by omega)
      have HK := Lib.hid hkx
      have HL := Lib.hid (show lo ≤ b ∧ b ≤ hi ∧ hi ≤ L.length from ⟨hlo, hhi, hle⟩)
      clear hx hz hc hB hlt hm hkx hlo hhi hle hml
      by_cases hr0 : r < 0
      · go_wp2_with (go_at_call 41; (with_reducible refine (HCX.out _).mono ?_); rintro e w1 ⟨rfl, hb1⟩; have HB1 := Lib.hid (HB.out.trans (hb1.mono HB.out.size)); clear hb1)
        go_roundg (hi - (m + 1))
        case measure => have := HM.out; have := HK.out; omega
        case rel => exact ⟨m + 1, hi, by go_num, rfl, by have := HX.out.1 hr0; omega, HL.out.2.1, HL.out.2.2, Nat.le_refl _, HB1.out⟩
      · go_wp2_with (go_at_call 41; (with_reducible refine (HCX.out _).mono ?_); rintro e w1 ⟨rfl, hb1⟩; have HB1 := Lib.hid (HB.out.trans (hb1.mono HB.out.size)); clear hb1)
        go_roundg (m - lo)
        case measure => have := HM.out; have := HK.out; omega
        case rel => exact ⟨lo, m, rfl, rfl, HL.out.1, Nat.le_of_not_lt fun h => by have := HX.out.2 h; omega, by have := HM.out; have := HL.out; omega, Nat.le_refl _, HB1.out⟩
    · have e : lo = b := by omega
      subst e
      have HB := Lib.hid hB
      by_cases hbl : lo < L.length
      · obtain ⟨g, o, cc, e, -, -, p0, p1, p2, p3⟩ := row_at (HR.out.kept hB) lo hbl
        cases e
        have hc := HC.out L[lo]
        have ht : t = decide (L[lo].id = n) := by
          rw [Bool.eq_iff_iff, decide_eq_true_iff, HH.out]
          exact ⟨fun ⟨_, e⟩ => e, fun e => ⟨hbl, e⟩⟩
        generalize L[lo] = x at *
        obtain ⟨id, bi, on, bu⟩ := x
        dsimp only [env] at hc ht p0 p1 p2 p3
        have hz := compI_eq id n
        generalize Lib.compareInt id n = r at *
        have HT := Lib.hid (show t = decide (r = 0) by rw [ht]; exact decide_eq_decide.2 hz.symm)
        have HCX := Lib.hid hc
        have k3 : (lo : Int) < (L.length : Int) := by omega
        have k4 : (0 : Int) ≤ (lo : Int) := by omega
        have k5 : ¬ ((lo : Int) < (hi : Int)) := by omega
        clear hc ht hz hB hlt hkx hlo hhi hle hbl hble b1
        go_wp2_with (go_at_call 41; (with_reducible refine (HCX.out _).mono ?_); rintro e w1 ⟨rfl, hb1⟩; have HB1 := Lib.hid (HB.out.trans (hb1.mono HB.out.size)); clear hb1)
        exact bodyPost_ret (v := .tuple #[.int .i64 (lo : Int), .bool (r == 0)]) (by simp [results, Try.results40, go_sem]) rfl ⟨by rw [HT.out]; rfl, HB1.out⟩
      · have ht : t = false := by
          cases t with
          | false => rfl
          | true => exact absurd (HH.out.1 rfl).1 hbl
        subst ht
        have k3 : ¬ ((lo : Int) < (L.length : Int)) := by omega
        have k5 : ¬ ((lo : Int) < (hi : Int)) := by omega
        clear hB hlt hkx hlo hhi hle hbl hble b1
        go_wp2
        exact bodyPost_ret (v := .tuple #[.int .i64 (lo : Int), .bool false]) (by simp [results, Try.results40, go_sem]) rfl ⟨rfl, HB.out⟩

/-- a roster in memory: its block, its list -/
structure RsRaw (w : World) (p : Nat) (room : Int) (v : Value) (L : List En) : Prop where
  blk : Blk w p [.int .i64 room, v]
  row : OwnO w 4 csEn v L
  ne : ∀ k, v.ownBlock = some k → k ≠ p
  ok : RsOk L
  fit : (L.length : Int) ≤ room
  r16 : room ≤ 16
abbrev ptr25 (p : Nat) : Value := .pointer (some ⟨p, 0, none⟩)
section
variable {w w' : World} {p : Nat} {room : Int} {v : Value} {L : List En}
theorem RsRaw.lt (h : RsRaw w p room v L) : p < w.heap.size := h.blk.lt
theorem RsRaw.len (h : RsRaw w p room v L) : L.length ≤ 16 := by have := h.fit; have := h.r16; omega
theorem RsRaw.rows (h : RsRaw w p room v L) : RowsAt w 4 csEn v L := OwnO.rows csEn_len h.row
theorem RsRaw.same (h : RsRaw w p room v L) (hz : w.heap.size ≤ w'.heap.size) (he : ∀ k, k = p ∨ v.ownBlock = some k → w'.heap[k]? = w.heap[k]?) : RsRaw w' p room v L :=
  ⟨h.blk.same (he p (.inl rfl)), h.row.same hz fun k hk => he k (.inr hk), h.ne, h.ok, h.fit, h.r16⟩
theorem RsRaw.kept (h : RsRaw w p room v L) (hb : Below w.heap.size w w') : RsRaw w' p room v L :=
  h.same hb.size fun k hk => hb.block k (hk.elim (fun e => by rw [e]; exact h.lt) (h.row.lt k))

set_option maxHeartbeats 1000000 in
set_option maxRecDepth 100000 in
theorem rPlace_any (h : RsRaw w p room v L) (n : Int) : Calls Try.prog 36 #[ptr25 p, .int .i64 n] w fun e w' => e = .returned (.tuple #[.int .i64 (befE L n : Nat), .bool (hasE L n)]) ∧ Below w.heap.size w w' := by
  have G := Lib.hid (rSearch_any v L n w h.rows h.ok.rise (by have := h.len; omega))
  have c1 := h.blk.cell 1 rfl
  generalize befE L n = b at *
  generalize hasE L n = t at *
  clear h
  go_enter Try.func36, Try.ntmps36
  go_wp2_with (go_at_call 40; (with_reducible refine G.out.mono ?_); rintro e w1 ⟨rfl, hb⟩; have HB := Lib.hid hb; clear hb)
  exact bodyPost_ret (v := .tuple #[.int .i64 (b : Int), .bool t]) (by simp [results, Try.results36, go_sem]) rfl ⟨rfl, HB.out⟩

set_option maxHeartbeats 1000000 in
set_option maxRecDepth 100000 in
theorem rFind_no (h : RsRaw w p room v L) (n : Int) (hn : hasE L n = false) : Calls Try.prog 35 #[ptr25 p, .int .i64 n] w fun e w' => e = .returned (.pointer none) ∧ Below w.heap.size w w' := by
  have G := Lib.hid (rPlace_any h n)
  rw [hn] at G
  generalize befE L n = b at *
  clear h hn
  go_enter Try.func35, Try.ntmps35
  go_wp2_with (go_at_call 36; (with_reducible refine G.out.mono ?_); rintro e w1 ⟨rfl, hb⟩; have HB := Lib.hid hb; clear hb)
  go_ret
  exact ⟨rfl, HB.out⟩
set_option maxHeartbeats 1000000 in
set_option maxRecDepth 100000 in
theorem rFind_at (h : RsRaw w p room v L) (n : Int) (hn : hasE L n = true) : Calls Try.prog 35 #[ptr25 p, .int .i64 n] w fun e w' =>
    (∃ g o c, v = .slice (some ⟨g, o, none⟩) L.length c ∧ e = .returned (.pointer (some ⟨g, o + befE L n * 4, none⟩))) ∧ Below w.heap.size w w' := by
  have G := Lib.hid (rPlace_any h n)
  rw [hn] at G
  obtain ⟨hk, -⟩ := (hasE_iff h.ok.rise n).1 hn
  obtain ⟨g, o, c, rfl, -, -, -⟩ := row_at h.rows _ hk
  have HR := Lib.hid fun w1 (hb : Below w.heap.size w w1) => (h.kept hb).blk.cell 1 rfl
  generalize befE L n = b at *
  have j0 : (0 : Int) ≤ (b : Int) := by omega
  have j1 : (b : Int) < (L.length : Int) := by omega
  clear h hn hk
  go_enter Try.func35, Try.ntmps35
  go_wp2_with (go_at_call 36; (with_reducible refine G.out.mono ?_); rintro e w1 ⟨rfl, hb⟩; have c1 := HR.out w1 hb; have HB := Lib.hid hb; clear hb)
  go_ret
  exact ⟨⟨g, o, c, rfl, rfl⟩, HB.out⟩
theorem rFind_nil (n : Int) (w : World) : Calls Try.prog 35 #[.pointer none, .int .i64 n] w fun e w' => e = .returned (.pointer none) ∧ w = w' := by
  go_enter Try.func35, Try.ntmps35
  go_wp2
  go_ret
  exact ⟨rfl, rfl⟩
end
end Go.Proofs.Ytlgemfgikdaelaa
