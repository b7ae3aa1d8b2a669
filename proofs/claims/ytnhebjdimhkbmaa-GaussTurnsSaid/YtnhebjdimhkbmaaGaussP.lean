/- The walks of gauss.Parse and of the document's answer for it. -/
import Derived.Test.YtnhebjdimhkbmaaGaussT
import Derived.Lib.IndexMore
import Derived.Lib.IndexBytes
namespace Go.Proofs.Ytnhebjdimhkbmaa
open Go.RowKit

theorem cut_sep (c0 : UInt8) (l : List UInt8) : (Lib.cut l [c0] = (l, [], false) ∧ ∀ c ∈ l, c ≠ c0) ∨
    (∃ i, i < l.length ∧ Lib.cut l [c0] = (l.take i, l.drop (i + 1), true) ∧ l[i]? = some c0 ∧ ∀ j, j < i → l[j]? ≠ some c0) := by
  rcases Lib.index_spec l [c0] with ⟨h1, h2⟩ | ⟨i, h1, h2, h3, h4⟩
  · have e : Lib.cut l [c0] = (l, [], false) := by
      unfold Lib.cut
      rw [if_neg (by omega)]
    refine .inl ⟨e, fun c hc e => ?_⟩
    obtain ⟨j, hj, hjc⟩ := List.getElem_of_mem hc
    have := h2 j (by omega)
    rw [Lib.occAt, List.drop_eq_getElem_cons hj, hjc, e] at this
    simp at this
  · have e : Lib.cut l [c0] = (l.take i, l.drop (i + 1), true) := by
      unfold Lib.cut
      rw [if_pos (by omega), h1]
      simp
    have hil : i < l.length := by
      rcases Nat.lt_or_ge i l.length with h | h
      · exact h
      · rw [Lib.occAt, List.drop_eq_nil_of_le h] at h3
        simp at h3
    have hi32 : l[i] = c0 := by
      rw [Lib.occAt, List.drop_eq_getElem_cons hil] at h3
      simp only [List.isPrefixOf, Bool.and_true, beq_iff_eq] at h3
      exact h3.symm
    refine .inr ⟨i, hil, e, by rw [List.getElem?_eq_getElem hil, hi32], fun j hji he => ?_⟩
    have := h4 j hji
    rw [Lib.occAt, List.drop_eq_getElem_cons (by omega)] at this
    rw [List.getElem?_eq_getElem (by omega)] at he
    rw [Option.some.inj he] at this
    simp at this
/-- the first separator is where it is -/
theorem cut_at (c0 : UInt8) (l : List UInt8) (k : Nat) (hk : l[k]? = some c0) (hn : ∀ j, j < k → l[j]? ≠ some c0) : Lib.cut l [c0] = (l.take k, l.drop (k + 1), true) := by
  rcases cut_sep c0 l with ⟨_, h⟩ | ⟨i, _, e, hi, hj⟩
  · exact absurd rfl (h c0 (List.mem_of_getElem? hk))
  · have : i = k := by
      rcases Nat.lt_trichotomy i k with h | h | h
      · exact absurd hi (hn i h)
      · exact h
      · exact absurd hk (hj k h)
    rw [e, this]
theorem cut_none (c0 : UInt8) (l : List UInt8) (hn : ∀ j, j < l.length → l[j]? ≠ some c0) : Lib.cut l [c0] = (l, [], false) := by
  rcases cut_sep c0 l with ⟨e, _⟩ | ⟨i, hil, _, hi, _⟩
  · exact e
  · exact absurd hi (hn i hil)

theorem parseIs_ex (l : List UInt8) : ∃ v ok, ParseIs l v ok := by
  by_cases h : ∃ n, Is64 n ∧ l = pl n
  · obtain ⟨n, h1, h2⟩ := h
    exact ⟨n, true, ⟨fun _ => ⟨h1, h2⟩, fun h => (by cases h)⟩⟩
  · exact ⟨0, false, ⟨fun h => (by cases h), fun _ => ⟨rfl, fun n h1 h2 => h ⟨n, h1, h2⟩⟩⟩⟩
theorem parseIs_nil : ParseIs [] 0 false := by
  refine ⟨fun h => (by cases h), fun _ => ⟨rfl, fun n _ h => ?_⟩⟩
  rcases pl_cases n with ⟨m, _, _, e⟩ | ⟨m, _, e⟩
  · rw [e] at h; cases h
  · rw [e] at h; exact ltxt_ne 10 m h.symm

/-- what a text says as a point -/
def PtIs (l : List UInt8) (X Y : Int) (ok : Bool) : Prop :=
  ∃ x okx y oky, ParseIs (Lib.cut l [44]).1 x okx ∧ ParseIs (Lib.cut l [44]).2.1 y oky ∧ ok = (okx && oky) ∧ X = (if okx && oky then x else 0) ∧ Y = (if okx && oky then y else 0)
theorem ptIs_ex (l : List UInt8) : ∃ X Y ok, PtIs l X Y ok := by
  obtain ⟨x, okx, hx⟩ := parseIs_ex (Lib.cut l [44]).1
  obtain ⟨y, oky, hy⟩ := parseIs_ex (Lib.cut l [44]).2.1
  exact ⟨_, _, _, x, okx, y, oky, hx, hy, rfl, rfl, rfl⟩
theorem ptIs_64 {l : List UInt8} {X Y : Int} {ok : Bool} (h : PtIs l X Y ok) : Is64 X ∧ Is64 Y := by
  obtain ⟨x, okx, y, oky, hx, hy, _, rfl, rfl⟩ := h
  have z : Is64 0 := ⟨by omega, by omega⟩
  cases okx <;> cases oky <;> simp
  · exact z
  · exact z
  · exact z
  · exact ⟨(hx.1 rfl).1, (hy.1 rfl).1⟩
theorem dgs_digit (m : Nat) : ∀ c ∈ ltxt 10 m, c ≠ 44 := by
  intro c hc e
  have := dv_ltxt 10 m (.inl rfl) c hc
  rw [e] at this
  exact absurd this (by decide)
theorem pl_no_comma (n : Int) : ∀ c ∈ pl n, c ≠ 44 := by
  intro c hc e
  rcases pl_cases n with ⟨m, _, _, h⟩ | ⟨m, _, h⟩
  · rw [h] at hc
    rcases List.mem_cons.1 hc with h1 | h1
    · rw [h1] at e; exact absurd e (by decide)
    · exact dgs_digit m c h1 e
  · rw [h] at hc
    exact dgs_digit m c hc e
/-- A point's own text says the point. -/
theorem ptIs_ptx {x y : Int} (hx : Is64 x) (hy : Is64 y) : PtIs (ptx x y) x y true := by
  have e : Lib.cut (ptx x y) [44] = (pl x, pl y, true) := by
    have := cut_at 44 (ptx x y) (pl x).length (by unfold ptx; simp) (fun j hj he => by
      unfold ptx at he
      rw [List.getElem?_append_left hj] at he
      exact pl_no_comma x _ (List.mem_of_getElem? he) rfl)
    rw [this]
    unfold ptx
    simp
  exact ⟨x, true, y, true, by rw [e]; exact ⟨fun _ => ⟨hx, rfl⟩, fun h => (by cases h)⟩, by rw [e]; exact ⟨fun _ => ⟨hy, rfl⟩, fun h => (by cases h)⟩, rfl, rfl, rfl⟩

theorem cut_len (l : List UInt8) (c : UInt8) : (Lib.cut l [c]).1.length ≤ l.length ∧ (Lib.cut l [c]).2.1.length ≤ l.length := by
  rcases cut_sep c l with ⟨e, _⟩ | ⟨i, _, e, _, _⟩
  · rw [e]; simp
  · rw [e]; simp; omega

set_option maxHeartbeats 400000 in
theorem gparse_as (s : ByteArray) (X Y : Int) (ok : Bool) (w : World) (hw : w.ShapedOpen Try.prog) (hs : s.size ≤ 1000000) (h : PtIs s.data.toList X Y ok) :
    Calls Try.prog 27 #[.string s] w fun e w' => e = .returned (.tuple #[.agg #[.int .i64 X, .int .i64 Y], .bool ok]) ∧ Below w.heap.size w w' := by
  obtain ⟨x, okx, y, oky, hx, hy, hok, hX, hY⟩ := h
  obtain ⟨la, lb⟩ := cut_len s.data.toList 44
  have hB : Below w.heap.size w (w.alloc (.cells #[.int .i64 0, .int .i64 0] 23)) := (Below.refl _ _).alloc (Nat.le_refl _) _
  have hC := Cell2.new w (.int .i64 0) (.int .i64 0) 23
  have hc := Try.strings_Cut_shaped s ⟨#[44]⟩ _ (shaped_kept hw hB) (by omega)
  rw [show (⟨#[44]⟩ : ByteArray).data.toList = [44] from rfl] at hc
  obtain ⟨⟨a, b, f⟩, hcut⟩ : ∃ x, Lib.cut s.data.toList [44] = x := ⟨_, rfl⟩
  rw [hcut] at hc hx hy la lb
  rw [← Lib.size_eq] at la lb
  have la' : a.length ≤ s.size := la
  have lb' : b.length ≤ s.size := lb
  have sa : (⟨a.toArray⟩ : ByteArray).size ≤ 9223372036854775807 := by rw [Lib.size_eq]; simp; omega
  have sb : (⟨b.toArray⟩ : ByteArray).size ≤ 9223372036854775807 := by rw [Lib.size_eq]; simp; omega
  have pa := fun w => parse_as ⟨a.toArray⟩ x okx w sa (by simpa using hx)
  have pb := fun w => parse_as ⟨b.toArray⟩ y oky w sb (by simpa using hy)
  have HO := Lib.hid hok
  have HX := Lib.hid hX
  have HY := Lib.hid hY
  have HA := Lib.hid pa
  have HBB := Lib.hid pb
  have HCT := Lib.hid hc
  clear la lb la' lb' hx hy hcut hok hX hY sa sb pa pb hc
  cases okx <;> cases oky
  all_goals
    go_enter Try.func27, Try.ntmps27
    go_wp2_with (first
      | (go_at_call 40; refine HCT.out.mono ?_; rintro e w1 ⟨rfl, k, rfl⟩; have hb := below_drewN (Below.refl (w.alloc (.cells #[.int .i64 0, .int .i64 0] 23)).heap.size (w.alloc (.cells #[.int .i64 0, .int .i64 0] 23))) k; replace hB := hB.trans (hb.mono hB.size); replace hC := hC.kept hb; clear hb)
      | (go_at_call 41; ((with_reducible refine (HA.out _).mono ?_); rintro e w2 ⟨rfl, hb⟩; replace hB := hB.trans (hb.mono hB.size); replace hC := hC.kept hb; clear hb))
      | (go_at_call 41; ((with_reducible refine (HBB.out _).mono ?_); rintro e w3 ⟨rfl, hb⟩; replace hB := hB.trans (hb.mono hB.size); obtain ⟨g0, g1, z0, z1⟩ := hC.kept hb; clear hb)))
  · refine bodyPost_ret (v := .tuple #[.agg #[.int .i64 0, .int .i64 0], .bool false]) ?_ rfl ⟨by rw [HO.out, HX.out, HY.out]; rfl, (hB.setCell (by simp) _).setCell (by simp) _⟩
    simp [results, Try.results27, go_sem, g0, g1, z0, z1]
  · refine bodyPost_ret (v := .tuple #[.agg #[.int .i64 0, .int .i64 0], .bool false]) ?_ rfl ⟨by rw [HO.out, HX.out, HY.out]; rfl, (hB.setCell (by simp) _).setCell (by simp) _⟩
    simp [results, Try.results27, go_sem, g0, g1, z0, z1]
  · refine bodyPost_ret (v := .tuple #[.agg #[.int .i64 0, .int .i64 0], .bool false]) ?_ rfl ⟨by rw [HO.out, HX.out, HY.out]; rfl, (hB.setCell (by simp) _).setCell (by simp) _⟩
    simp [results, Try.results27, go_sem, g0, g1, z0, z1]
  · refine bodyPost_ret (v := .tuple #[.agg #[.int .i64 x, .int .i64 y], .bool true]) ?_ rfl ⟨by rw [HO.out, HX.out, HY.out]; rfl, (hB.setCell (by simp) _).setCell (by simp) _⟩
    simp [results, Try.results27, go_sem, g0, g1, z0, z1]

set_option maxHeartbeats 1000000 in
theorem refGparse_as (s : ByteArray) (X Y : Int) (ok : Bool) (w : World) (hs : s.size ≤ 1000000) (h : PtIs s.data.toList X Y ok) :
    Calls Try.prog 28 #[.string s] w fun e w' => e = .returned (.tuple #[.agg #[.int .i64 X, .int .i64 Y], .bool ok]) ∧ Below w.heap.size w w' := by
  have hB : Below w.heap.size w (w.alloc (.cells #[.int .i64 0, .int .i64 0] 23)) := (Below.refl _ _).alloc (Nat.le_refl _) _
  have hC := Cell2.new w (.int .i64 0) (.int .i64 0) 23
  have HPT := Lib.hid h
  clear h
  go_enter Try.func28, Try.ntmps28
  go_wp2
  go_loop [4] (fun i => ∃ k : Nat, k ≤ s.size ∧ i = .int .i64 k ∧ ∀ j, j < k → s.data.toList[j]? ≠ some 44) (fun i => s.size - (intOf i).toNat)
  case atStart => exact ⟨0, Nat.zero_le _, rfl, by simp⟩
  case round =>
    obtain ⟨k, hk, rfl, hn⟩ := hrel
    have HN := Lib.hid hn
    clear hn
    by_cases hlt : k < s.size
    · have hil : k < s.data.toList.length := by rw [← Lib.size_eq]; exact hlt
      have hget : s.data.toList[k]? = some (s[k]'hlt) := List.getElem?_eq_getElem hil
      by_cases h44 : (s[k]'hlt).toNat = 44
      · have hcut := cut_at 44 s.data.toList k (by rw [hget]; exact congrArg some (UInt8.toNat_inj.1 h44)) HN.out
        obtain ⟨x, okx, y, oky, hx, hy, hok, hX, hY⟩ := HPT.out
        rw [hcut] at hx hy
        have ex : (s.extract 0 k).data.toList = s.data.toList.take k := by rw [Lib.extract_data]; simp
        have ey : (s.extract (k + 1) s.size).data.toList = s.data.toList.drop (k + 1) := Lib.extract_to_end s (k + 1)
        have pa := fun w => refParse_as (s.extract 0 k) x okx w (by rw [Lib.size_eq, ex]; rw [Lib.size_eq] at hs; simp; omega) (by rw [ex]; exact hx)
        have pb := fun w => refParse_as (s.extract (k + 1) s.size) y oky w (by rw [Lib.size_eq, ey, List.length_drop, ← Lib.size_eq]; omega) (by rw [ey]; exact hy)
        have HO := Lib.hid hok
        have HX := Lib.hid hX
        have HY := Lib.hid hY
        have HA := Lib.hid pa
        have HBB := Lib.hid pb
        have hkz : (0 : Int) ≤ (k : Int) := by omega
        have c44 : (((s[k]'hlt).toNat : Int) == 44) = true := by rw [h44]; rfl
        have c44' : (((s[k]'hlt).toNat : Int) != 44) = false := by rw [h44]; rfl
        clear hcut hx hy hok hX hY ex ey pa pb hget hil h44 HN HPT
        cases okx <;> cases oky
        all_goals
          go_wp2_with (first
            | (go_at_call 42; ((with_reducible refine (HA.out _).mono ?_); rintro e w2 ⟨rfl, hb⟩; replace hB := hB.trans (hb.mono hB.size); replace hC := hC.kept hb; clear hb))
            | (go_at_call 42; ((with_reducible refine (HBB.out _).mono ?_); rintro e w3 ⟨rfl, hb⟩; replace hB := hB.trans (hb.mono hB.size); obtain ⟨g0, g1, z0, z1⟩ := hC.kept hb; clear hb)))
        · refine bodyPost_ret (v := .tuple #[.agg #[.int .i64 0, .int .i64 0], .bool false]) ?_ rfl ⟨by rw [HO.out, HX.out, HY.out]; rfl, (hB.setCell (by simp) _).setCell (by simp) _⟩
          simp [results, Try.results28, go_sem, g0, g1, z0, z1]
        · refine bodyPost_ret (v := .tuple #[.agg #[.int .i64 0, .int .i64 0], .bool false]) ?_ rfl ⟨by rw [HO.out, HX.out, HY.out]; rfl, (hB.setCell (by simp) _).setCell (by simp) _⟩
          simp [results, Try.results28, go_sem, g0, g1, z0, z1]
        · refine bodyPost_ret (v := .tuple #[.agg #[.int .i64 0, .int .i64 0], .bool false]) ?_ rfl ⟨by rw [HO.out, HX.out, HY.out]; rfl, (hB.setCell (by simp) _).setCell (by simp) _⟩
          simp [results, Try.results28, go_sem, g0, g1, z0, z1]
        · refine bodyPost_ret (v := .tuple #[.agg #[.int .i64 x, .int .i64 y], .bool true]) ?_ rfl ⟨by rw [HO.out, HX.out, HY.out]; rfl, (hB.setCell (by simp) _).setCell (by simp) _⟩
          simp [results, Try.results28, go_sem, g0, g1, z0, z1]
      · have HN2 := Lib.hid (show ∀ j, j < k + 1 → s.data.toList[j]? ≠ some 44 from fun j hj => by
          by_cases hjk : j = k
          · subst hjk; rw [hget]; intro e; exact h44 (by rw [Option.some.inj e]; rfl)
          · exact HN.out j (by omega))
        have c44 : (((s[k]'hlt).toNat : Int) == 44) = false := by simp; omega
        have c44' : (((s[k]'hlt).toNat : Int) != 44) = true := by simp; omega
        clear hget hil h44
        go_wp2
        go_round
        case rel => exact ⟨k + 1, by omega, by go_num, HN2.out⟩
        case measure => simp [intOf]; omega
    · have e : k = s.size := by omega
      subst e
      have hcut := cut_none 44 s.data.toList (by rw [← Lib.size_eq]; exact HN.out)
      have hz : X = 0 ∧ Y = 0 ∧ ok = false := by
        obtain ⟨x, okx, y, oky, hx, hy, hok, hX, hY⟩ := HPT.out
        rw [hcut] at hy
        have := (parseIs_one hy parseIs_nil).2
        subst this
        simp at hX hY hok
        exact ⟨hX, hY, hok⟩
      have HZ := Lib.hid hz
      obtain ⟨g0, g1, z0, z1⟩ := hC
      clear hcut hz HN HPT
      go_wp2
      refine bodyPost_ret (v := .tuple #[.agg #[.int .i64 0, .int .i64 0], .bool false]) ?_ rfl ⟨by rw [HZ.out.1, HZ.out.2.1, HZ.out.2.2], hB⟩
      simp [results, Try.results28, go_sem, g0, g1, z0, z1]
end Go.Proofs.Ytnhebjdimhkbmaa
