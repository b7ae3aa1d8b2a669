/- The document's Join, and the walk of the law NumWords. -/
import Derived.Test.YtpfningdbmhonaaWordsB
namespace Go.Proofs.Ytpfningdbmhonaa
open Go.RowKit

theorem join_snoc (xs : List (List UInt8)) (y sep : List UInt8) (h : xs ≠ []) : Lib.join (xs ++ [y]) sep = Lib.join xs sep ++ sep ++ y := by
  cases xs with
  | nil => exact absurd rfl h
  | cons x r =>
    rw [List.cons_append, Lib.join_cons, Lib.join_cons]
    simp [Lib.joinTail]

def jn (ws : List ByteArray) : ByteArray := ⟨(Lib.join (ws.map (·.data.toList)) [32]).toArray⟩

theorem jn_zero : jn [] = ⟨#[]⟩ := rfl
theorem jn_first (x : ByteArray) : jn [x] = x := by
  unfold jn
  rw [List.map_cons, List.map_nil, Lib.join_one]
theorem jn_more (ws : List ByteArray) (x : ByteArray) (h : ws ≠ []) : jn (ws ++ [x]) = jn ws ++ ⟨#[32]⟩ ++ x := by
  unfold jn
  rw [List.map_append, List.map_cons, List.map_nil, join_snoc _ _ _ (by simpa using h)]
  exact ByteArray.ext (by simp)
theorem jn_size (ws : List ByteArray) (h : ∀ x ∈ ws, x.size ≤ 300) : (jn ws).size ≤ 301 * ws.length := by
  have : ∀ n, ∀ ws : List ByteArray, ws.length = n → (∀ x ∈ ws, x.size ≤ 300) → (jn ws).size ≤ 301 * ws.length := by
    intro n
    induction n with
    | zero =>
      intro ws hl _
      rw [List.eq_nil_of_length_eq_zero hl]
      simp [jn, Lib.join_nil, ByteArray.size]
    | succ n ih =>
      intro ws hl h
      have hne : ws ≠ [] := by intro e; rw [e] at hl; simp at hl
      obtain ⟨ws', x, rfl⟩ : ∃ l' d, ws = l' ++ [d] := ⟨ws.dropLast, ws.getLast hne, (List.dropLast_concat_getLast hne).symm⟩
      have hx := h x (by simp)
      by_cases h0 : ws' = []
      · subst h0
        rw [List.nil_append, jn_first]
        simp; omega
      · have := ih ws' (by simpa using hl) (fun y hy => h y (by simp [hy]))
        rw [jn_more ws' x h0, ByteArray.size_append, ByteArray.size_append, List.length_append]
        have e1 : (⟨#[32]⟩ : ByteArray).size = 1 := rfl
        simp only [List.length_cons, List.length_nil]
        omega
  exact this _ ws rfl h

/-- num.Join of whatever list that is read. -/
theorem join_at (v : Value) (ws : List ByteArray) (w : World) (h : StrsAt w v ws) (hl : ws.length ≤ 100000) (hx : (jn ws).size ≤ 100000000) :
    Calls Try.prog 19 #[v] w fun e w' => e = .returned (.string (jn ws)) ∧ Below w.heap.size w w' := by
  obtain ⟨a, cap, rfl, hc, h⟩ := h
  by_cases h0 : ws.length = 0
  · have hws : ws = [] := List.eq_nil_of_length_eq_zero h0
    subst hws
    go_enter Try.func19, Try.ntmps19
    go_wp2_with (go_at_call 26; refine (Try.strings_Join_none a cap ⟨#[32]⟩ _).mono ?_; rintro e w' ⟨rfl, rfl⟩)
    go_ret
    exact ⟨rfl, Below.refl _ _⟩
  · obtain ⟨g, o, rfl, hg, hcells⟩ := h (by omega)
    exact join_any g o cap ws w hcells hg (by omega) hc (by rw [Lib.size_eq] at hx; exact Nat.le_trans hx (by omega))

set_option maxHeartbeats 1000000 in
theorem refJoin_at (v : Value) (ws : List ByteArray) (w : World) (h : StrsAt w v ws) (hl : ws.length ≤ 100000) (hx : ∀ x ∈ ws, x.size ≤ 300) :
    Calls Try.prog 20 #[v] w fun e w' => e = .returned (.string (jn ws)) ∧ w = w' := by
  obtain ⟨a, cap, rfl, hc, h⟩ := h
  go_enter Try.func20, Try.ntmps20
  go_wp2
  go_loop [3, 4] (fun s i => ∃ k : Nat, k ≤ ws.length ∧ i = .int .i64 k ∧ s = .string (jn (ws.take k))) (fun _ i => ws.length - (intOf i).toNat)
  case atStart => exact ⟨0, Nat.zero_le _, rfl, rfl⟩
  case round =>
    obtain ⟨k, hk, rfl, rfl⟩ := hrel
    by_cases hlt : k < ws.length
    · obtain ⟨g, o, rfl, hg, hcells⟩ := h (by omega)
      obtain ⟨x, hxe⟩ : ∃ x, ws[k]'hlt = x := ⟨_, rfl⟩
      have hcell : w.cell? ⟨g, o + k, none⟩ = some (.string x) := hcells k x (by rw [← hxe]; exact List.getElem?_eq_getElem hlt)
      have hx3 : x.size ≤ 300 := hx x (by rw [← hxe]; exact List.getElem_mem hlt)
      have htk : ws.take (k + 1) = ws.take k ++ [x] := by rw [List.take_succ_eq_append_getElem hlt, hxe]
      have hjs := jn_size (ws.take k) (fun y hy => hx y (List.mem_of_mem_take hy))
      rw [List.length_take, Nat.min_eq_left hk] at hjs
      obtain ⟨t, ht⟩ : ∃ t, jn (ws.take k) = t := ⟨_, rfl⟩
      rw [ht] at hjs
      have hs1 : (⟨#[32]⟩ : ByteArray).size = 1 := rfl
      by_cases hk0 : k = 0
      · subst hk0
        have HT : jn (ws.take (0 + 1)) = x := by rw [htk, List.take_zero, List.nil_append, jn_first]
        have ht0 : t = ⟨#[]⟩ := by rw [← ht, List.take_zero, jn_zero]
        subst ht0
        have HT := Lib.hid HT
        have he0 : (⟨#[]⟩ : ByteArray) ++ x = x := by apply ByteArray.ext; simp
        have he1 : (⟨#[]⟩ : ByteArray).size = 0 := rfl
        have hs0 : ¬ 9223372036854775807 < x.size := by omega
        have hj0 : jn [] = ⟨#[]⟩ := rfl
        have hcell0 : w.cell? ⟨g, o, none⟩ = some (.string x) := hcell
        clear hxe htk hcells h hx hcell
        go_wp2
        go_round
        case rel => exact ⟨1, by omega, by go_num, by rw [HT.out]⟩
        case measure => simp [intOf]; omega
      · have HT : jn (ws.take (k + 1)) = t ++ ⟨#[32]⟩ ++ x := by rw [htk, jn_more _ _ (by intro e; have := congrArg List.length e; rw [List.length_take, Nat.min_eq_left hk] at this; exact hk0 this), ht]
        have HT := Lib.hid HT
        have hs2 : ¬ 9223372036854775807 < t.size + 1 := by omega
        have hs3 : ¬ 9223372036854775807 < t.size + 1 + x.size := by omega
        have hk1 : 0 < k := by omega
        clear hxe htk hcells h hx hk0
        go_wp2
        go_round
        case rel => exact ⟨k + 1, by omega, by go_num, by rw [HT.out]⟩
        case measure => simp [intOf]; omega
    · have hke : k = ws.length := by omega
      subst hke
      clear h hx
      go_wp2
      go_ret
      exact ⟨rfl, rfl⟩

set_option maxHeartbeats 1000000 in
theorem refWords_as (s : ByteArray) (ok : Bool) (ws : List ByteArray) (w : World) (hs : s.size ≤ 100000) (h : sw s.data.toList = if ok then some (ws.map (·.data.toList)) else none) (h0 : ok = false → ws = []) :
    Calls Try.prog 17 #[.string s] w fun e w' => ∃ v, e = .returned (.tuple #[v, .bool ok]) ∧ StrsAt w' v ws ∧ Below w.heap.size w w' := by
  refine (refWords_any s w hs).mono ?_
  rintro e w' ⟨v, ok', ws', rfl, hst, hb, hsw, h0'⟩
  rw [h] at hsw
  have hmap : ∀ a b : List ByteArray, a.map (·.data.toList) = b.map (·.data.toList) → a = b := by
    intro a
    induction a with
    | nil => intro b hb; cases b with
      | nil => rfl
      | cons y b => simp at hb
    | cons x a ih =>
      intro b hb
      cases b with
      | nil => simp at hb
      | cons y b =>
        rw [List.map_cons, List.map_cons] at hb
        have h1 := (List.cons.inj hb).1
        have h2 := ih b (List.cons.inj hb).2
        rw [h2, Go.WideShapes.bytes_inj h1]
  cases ok with
  | true =>
    cases ok' with
    | true =>
      have := hmap _ _ (Option.some.inj hsw)
      subst this
      exact ⟨v, rfl, hst, hb⟩
    | false => simp at hsw
  | false =>
    cases ok' with
    | true => simp at hsw
    | false =>
      rw [h0 rfl, ← h0' rfl]
      exact ⟨v, rfl, hst, hb⟩

theorem words_few {s : ByteArray} {ok : Bool} {ws : List ByteArray} (h : sw s.data.toList = if ok then some (ws.map (·.data.toList)) else none) (h0 : ok = false → ws = []) : ws.length ≤ s.size + 1 := by
  cases ok with
  | true =>
    have := sw_length h
    rwa [List.length_map, ← Lib.size_eq] at this
  | false => rw [h0 rfl]; simp

set_option maxHeartbeats 2000000 in
theorem numWords_any (s : ByteArray) (v : Value) (l : List ByteArray) (w : World) (hw : w.ShapedOpen Try.prog) (hs : s.size ≤ 9223372036854775807) (hl : StrsAt w v l) (hlen : l.length ≤ 9223372036854775807) (hxs : ∀ x ∈ l, x.size ≤ 9223372036854775807) :
    Calls Try.prog 5 #[.string s, v] w fun e w' => e = .returned (.bool true) ∧ Below w.heap.size w w' := by
  have hl0 := hl
  obtain ⟨a, cap, rfl, hc, hcells⟩ := hl
  by_cases h3 : s.size ≤ 300
  · by_cases h5 : l.length ≤ 50
    · go_enter Try.func5, Try.ntmps5
      go_wp2_with fail
      go_loop [5, 23] (fun n i => ∃ k t : Nat, k ≤ l.length ∧ i = .int .i64 k ∧ n = .int .i64 t ∧ t ≤ 300 * k ∧ ∀ x ∈ l.take k, x.size ≤ 300) (fun _ i => l.length - (intOf i).toNat)
      case atStart => exact ⟨0, 0, Nat.zero_le _, rfl, rfl, Nat.zero_le _, by simp⟩
      case round =>
        obtain ⟨k, t, hk, rfl, rfl, ht, hall⟩ := hrel
        have HALL := Lib.hid hall
        clear hall
        by_cases hlt : k < l.length
        · obtain ⟨g, o, rfl, hg, hcells⟩ := hcells (by omega)
          obtain ⟨x, hxe⟩ : ∃ x, l[k]'hlt = x := ⟨_, rfl⟩
          have hcell : w.cell? ⟨g, o + k, none⟩ = some (.string x) := hcells k x (by rw [← hxe]; exact List.getElem?_eq_getElem hlt)
          have hx3 : x.size ≤ 9223372036854775807 := hxs x (by rw [← hxe]; exact List.getElem_mem hlt)
          have htk : l.take (k + 1) = l.take k ++ [x] := by rw [List.take_succ_eq_append_getElem hlt, hxe]
          have HTK := Lib.hid htk
          clear htk hcells hxe hxs
          by_cases hbig : x.size ≤ 300 ∧ t ≤ 1000
          · obtain ⟨hb1, hb2⟩ := hbig
            go_wp2_with fail
            go_round
            case rel =>
              refine ⟨k + 1, t + x.size, by omega, by go_num, by go_num, by omega, ?_⟩
              rw [HTK.out]
              intro y hy
              rw [List.mem_append] at hy
              rcases hy with hy | hy
              · exact HALL.out y hy
              · rw [List.mem_singleton.1 hy]; exact hb1
            case measure => simp [intOf]; omega
          · have hbig' : 300 < x.size ∨ (x.size ≤ 300 ∧ 1000 < t) := by omega
            clear hbig
            rcases hbig' with h | ⟨h, h'⟩
            all_goals
              go_wp2_with (go_at_call 7; refine (alive_any _).mono ?_; rintro e w5 ⟨rfl, hb5⟩)
              go_ret
              exact ⟨rfl, hb5⟩
        · have hke : k = l.length := by omega
          subst hke
          have hx3 : ∀ x ∈ l, x.size ≤ 300 := by have := HALL.out; rwa [List.take_length] at this
          have hjn := jn_size l hx3
          have HX := Lib.hid hx3
          have HL := Lib.hid hl0
          clear hcells hx3 hl0 hxs
          go_wp2_with (first
            | (go_at_call 16; refine (words_any s _ (by omega) hw).mono ?_; rintro e w1 ⟨va, ok, ws, rfl, hst1, hb1, hsw, h0⟩; have hws := words_few hsw h0)
            | (go_at_call 17; refine (refWords_as s ok ws _ (by omega) hsw h0).mono ?_; rintro e w2 ⟨vb, rfl, hst2, hb2⟩)
            | (go_at_call 18; refine (texts_same va vb ws _ (hst1.below hb2) hst2 (by omega)).mono ?_; rintro e w3 ⟨rfl, hb3⟩; have hb13 := (hb1.trans (hb2.mono hb1.size)).trans (hb3.mono (Nat.le_trans hb1.size hb2.size)))
            | (go_at_call 19; refine (join_at _ l _ (HL.out.below hb13) (by omega) (by omega)).mono ?_; rintro e w4 ⟨rfl, hb4⟩; have hb14 := hb13.trans (hb4.mono hb13.size))
            | (go_at_call 20; refine (refJoin_at _ l _ (HL.out.below hb14) (by omega) HX.out).mono ?_; rintro e w5 ⟨rfl, rfl⟩)
            | (go_at_call 7; refine (alive_any _).mono ?_; rintro e w6 ⟨rfl, hb6⟩))
          go_ret
          exact ⟨rfl, hb14.trans (hb6.mono hb14.size)⟩
    · go_enter Try.func5, Try.ntmps5
      go_wp2_with (go_at_call 7; refine (alive_any _).mono ?_; rintro e w5 ⟨rfl, hb5⟩)
      go_ret
      exact ⟨rfl, hb5⟩
  · go_enter Try.func5, Try.ntmps5
    go_wp2_with (go_at_call 7; refine (alive_any _).mono ?_; rintro e w5 ⟨rfl, hb5⟩)
    go_ret
    exact ⟨rfl, hb5⟩

end Go.Proofs.Ytpfningdbmhonaa
