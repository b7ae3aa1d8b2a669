/- The walk of num.Words; the document's Words, Join and Texts. -/
import Derived.Test.YtpfningdbmhonaaWords
import Derived.Test.YtpfningdbmhonaaNumAlive
namespace Go.Proofs.Ytpfningdbmhonaa
open Go.RowKit

def WordsEnds (s : ByteArray) (w : World) (e : Ending) (w' : World) : Prop :=
  ∃ (v : Value) (ok : Bool) (ws : List ByteArray), e = .returned (.tuple #[v, .bool ok]) ∧ StrsAt w' v ws ∧ Below w.heap.size w w' ∧ (sw s.data.toList = if ok then some (ws.map (·.data.toList)) else none) ∧ (ok = false → ws = [])

set_option maxHeartbeats 1000000 in
theorem words_any (s : ByteArray) (w : World) (hs : s.size ≤ 100000) (hw : w.ShapedOpen Try.prog) :
    Calls Try.prog 16 #[.string s] w (WordsEnds s w) := by
  have h0 : HoldsStrs w.heap.size [] (w.alloc (.cells #[.slice none 0 0] 32)) := ⟨_, heap_alloc_new _ _, World.ownsRow_nil _ _ _ _⟩
  have hbel : Below w.heap.size w (w.alloc (.cells #[.slice none 0 0] 32)) := (Below.refl _ _).alloc (Nat.le_refl _) _
  go_enter Try.func16, Try.ntmps16
  go_wp2_with (go_at_call 24; refine (each_any s w.heap.size w _ hs hw hbel (Nat.le_refl _) h0).mono ?_; rintro e w1 ⟨ok, ws, rfl, hinv, hb1, hsw⟩; obtain ⟨v, hv, hown⟩ := hinv; have cW := cell_of_one hv)
  · have hok : ok = false := by
      have h : (!ok) = true := by assumption
      simpa using h
    subst hok
    refine bodyPost_ret (v := .tuple #[.slice none 0 0, .bool false]) (by simp [results, Try.results16, go_sem]) rfl ?_
    exact ⟨_, false, [], rfl, StrsAt.nil _, hbel.trans (hb1.mono (by simp)), hsw, fun _ => rfl⟩
  · have hok : ok = true := by
      have h : (!ok) = false := by assumption
      simpa using h
    subst hok
    go_ret2
    exact ⟨_, true, ws, rfl, StrsAt.of_owns hown, hbel.trans (hb1.mono (Nat.le_refl _)), hsw, fun h => by cases h⟩

set_option maxHeartbeats 1000000 in
theorem texts_same (va vb : Value) (ws : List ByteArray) (w : World) (ha : StrsAt w va ws) (hb : StrsAt w vb ws) (hl : ws.length ≤ 1000000000) :
    Calls Try.prog 18 #[va, vb] w fun e w' => e = .returned (.bool true) ∧ Below w.heap.size w w' := by
  obtain ⟨a, ca, rfl, hca, ha⟩ := ha
  obtain ⟨b, cb, rfl, hcb, hb⟩ := hb
  go_enter Try.func18, Try.ntmps18
  go_wp2
  go_loopw [5] (fun i wr => ∃ k : Nat, k ≤ ws.length ∧ i = .int .i64 k ∧ Below w.heap.size w wr) (fun i _ => ws.length - (intOf i).toNat)
  case atStart => exact ⟨0, Nat.zero_le _, rfl, Below.refl _ _⟩
  case round =>
    obtain ⟨k, hk, rfl, hbel⟩ := hrel
    by_cases hlt : k < ws.length
    · obtain ⟨ga, oa, rfl, hga, hxa⟩ := ha (by omega)
      obtain ⟨gb, ob, rfl, hgb, hxb⟩ := hb (by omega)
      have h1 : wr.cell? ⟨ga, oa + k, none⟩ = some (.string (ws[k]'hlt)) := (hbel.cell (p := ⟨ga, oa + k, none⟩) hga).trans (hxa k _ (List.getElem?_eq_getElem hlt))
      have h2 : wr.cell? ⟨gb, ob + k, none⟩ = some (.string (ws[k]'hlt)) := (hbel.cell (p := ⟨gb, ob + k, none⟩) hgb).trans (hxb k _ (List.getElem?_eq_getElem hlt))
      clear hxa hxb ha hb
      go_wp2
      go_quiet (fail)
      go_wp2
      go_roundw
      case rel => exact ⟨k + 1, by omega, by go_num, below_drewN hbel _⟩
      case measure => simp [intOf]; omega
    · clear ha hb
      go_wp2
      go_ret
      exact ⟨rfl, hbel⟩

theorem pcs_drop (l : List UInt8) (i j : Nat) (hij : i ≤ j) (hj : j < l.length) (h : l[j] = 32) (hno : ∀ c ∈ (l.drop i).take (j - i), c ≠ 32) : pcs (l.drop i) = (l.drop i).take (j - i) :: pcs (l.drop (j + 1)) := by
  have e : l.drop i = (l.drop i).take (j - i) ++ 32 :: l.drop (j + 1) := by
    have h1 : (l.drop i).drop (j - i) = l.drop j := by rw [List.drop_drop]; congr 1; omega
    have h2 := List.take_append_drop (j - i) (l.drop i)
    rw [h1, List.drop_eq_getElem_cons hj, h] at h2
    exact h2.symm
  have h3 := pcs_cut ((l.drop i).take (j - i)) (l.drop (j + 1)) hno
  rw [← e] at h3
  exact h3

theorem sw_none_of {l : List UInt8} (hl : l ≠ []) (p : List (List UInt8)) (r : List (List UInt8)) (h : pcs l = p ++ [] :: r) : sw l = none := by
  unfold sw
  rw [if_neg hl, if_neg (by rw [h]; simp)]
theorem sw_some_of {l : List UInt8} (hl : l ≠ []) (p : List (List UInt8)) (h : pcs l = p) (hp : ∀ x ∈ p, x ≠ []) : sw l = some p := by
  unfold sw
  rw [if_neg hl, if_pos (by
    rw [h, List.all_eq_true]
    intro x hx
    have := hp x hx
    cases x with
    | nil => exact absurd rfl this
    | cons c r => rfl), h]

set_option maxHeartbeats 2000000 in
theorem refWords_any (s : ByteArray) (w : World) (hs : s.size ≤ 100000) :
    Calls Try.prog 17 #[.string s] w (WordsEnds s w) := by
  by_cases hz : s.size = 0
  · have hnil : s.data.toList = [] := List.eq_nil_of_length_eq_zero (by rw [← Lib.size_eq]; exact hz)
    have he : s.toList.isEmpty = true := by rw [Lib.toList_data, hnil]; rfl
    have HE : WordsEnds s w (.returned (.tuple #[.slice none 0 0, .bool true])) w := ⟨_, true, [], rfl, StrsAt.nil _, Below.refl _ _, by rw [hnil]; rfl, fun _ => rfl⟩
    clear hnil
    go_enter Try.func17, Try.ntmps17
    go_wp2
    go_ret2
    exact HE
  · have he : s.toList.isEmpty = false := ba_ne s (by omega)
    have hsz : s.size = s.data.toList.length := Lib.size_eq s
    have hne : s.data.toList ≠ [] := by intro e; rw [e] at hsz; exact hz (by simpa using hsz)
    have HNE := Lib.hid hne
    have HSZ := Lib.hid hsz
    clear hz hsz hne
    obtain ⟨i0, hi, hz0, hz1, hz2⟩ := info_parts info_string
    go_enter Try.func17, Try.ntmps17
    go_wp2
    go_loopw [4, 5, 6] (fun v f i wr => ∃ (k j : Nat) (ws : List ByteArray), k ≤ s.size + 1 ∧ j ≤ k ∧ i = .int .i64 k ∧ f = .int .i64 j ∧ wr.ownsRow w.heap.size 9 1 v ws.length (ws.map Value.string) ∧ ws.length ≤ k ∧ Below w.heap.size w wr ∧
        (∀ x ∈ ws.map (·.data.toList), x ≠ []) ∧ (k ≤ s.size → pcs s.data.toList = ws.map (·.data.toList) ++ pcs (s.data.toList.drop j)) ∧ (s.size < k → pcs s.data.toList = ws.map (·.data.toList)) ∧ (∀ c ∈ (s.data.toList.drop j).take (k - j), c ≠ 32))
      (fun _ _ i _ => s.size + 1 - (intOf i).toNat)
    case atStart => exact ⟨0, 0, [], by omega, Nat.le_refl _, rfl, rfl, World.ownsRow_nil _ _ _ _, Nat.le_refl _, Below.refl _ _, by simp, fun _ => rfl, fun h => absurd h (by omega), by simp⟩
    case round =>
      obtain ⟨k, j, ws, hk, hj, rfl, rfl, hown, hwl, hbel, hall, hp1, hp2, hno⟩ := hrel
      have HP1 := Lib.hid hp1
      have HP2 := Lib.hid hp2
      have HNO := Lib.hid hno
      have HALL := Lib.hid hall
      clear hp1 hp2 hno hall
      by_cases hkl : k ≤ s.size
      · -- a blank, or the end
        by_cases hblank : k = s.size ∨ ∃ h : k < s.size, (s[k]'h) = 32
        · have hpc : pcs (s.data.toList.drop j) = if k = s.size then [(s.data.toList.drop j).take (k - j)] else (s.data.toList.drop j).take (k - j) :: pcs (s.data.toList.drop (k + 1)) := by
            split
            · rename_i h
              have e : (s.data.toList.drop j).take (k - j) = s.data.toList.drop j := List.take_of_length_le (by rw [List.length_drop, ← HSZ.out, h]; exact Nat.le_refl _)
              rw [e]
              exact pcs_word _ (by have := HNO.out; rw [e] at this; exact this)
            · rename_i h
              rcases hblank with h' | ⟨h', h32⟩
              · exact absurd h' h
              · exact pcs_drop _ j k hj (by rw [← HSZ.out]; exact h') h32 HNO.out
          have HPC := Lib.hid hpc
          clear hpc
          have hext : (s.extract j k).data.toList = (s.data.toList.drop j).take (k - j) := Lib.extract_data s j k
          have HEXT := Lib.hid hext
          clear hext
          by_cases hjk : j = k
          · have HF : sw s.data.toList = none := by
              have h1 := HP1.out hkl
              rw [HPC.out, hjk, Nat.sub_self, List.take_zero] at h1
              split at h1
              · exact sw_none_of HNE.out _ [] h1
              · exact sw_none_of HNE.out _ _ h1
            subst hjk
            clear HPC HEXT
            have FIN : WordsEnds s w (.returned (.tuple #[.slice none 0 0, .bool false])) wr := ⟨_, false, [], rfl, StrsAt.nil _, hbel, HF, fun _ => rfl⟩
            rcases hblank with h | ⟨hlt, h⟩
            · have hge : s.size ≤ j := by omega
              clear h hown
              go_wp2
              refine bodyPost_ret (v := .tuple #[.slice none 0 0, .bool false]) (by simp [results, Try.results17, go_sem]) rfl FIN
            · have hc : (((s[j]'hlt).toNat : Int) == 32) = true := by rw [h]; rfl
              have hc2 : (((s[j]'hlt).toNat : Int) != 32) = false := by rw [h]; rfl
              clear h hown
              go_wp2
              refine bodyPost_ret (v := .tuple #[.slice none 0 0, .bool false]) (by simp [results, Try.results17, go_sem]) rfl FIN
          · have hjk' : j < k := by omega
            have HW : (s.extract j k).data.toList ≠ [] := by
              rw [HEXT.out]
              intro e
              have := congrArg List.length e
              rw [List.length_take, List.length_drop, ← HSZ.out] at this
              simp at this
              omega
            have hq1 : k + 1 ≤ s.size → pcs s.data.toList = (ws ++ [s.extract j k]).map (·.data.toList) ++ pcs (s.data.toList.drop (k + 1)) := by
              intro h
              rw [HP1.out hkl, HPC.out, if_neg (by omega), ← HEXT.out]
              simp
            have hq2 : s.size < k + 1 → pcs s.data.toList = (ws ++ [s.extract j k]).map (·.data.toList) := by
              intro h
              rw [HP1.out hkl, HPC.out, if_pos (by omega), ← HEXT.out]
              simp
            have hq3 : ∀ x ∈ (ws ++ [s.extract j k]).map (·.data.toList), x ≠ [] := by
              intro x hx
              rw [List.map_append, List.mem_append] at hx
              rcases hx with hx | hx
              · exact HALL.out x hx
              · rw [List.map_cons, List.map_nil, List.mem_singleton] at hx
                rw [hx]
                exact HW
            have HQ1 := Lib.hid hq1
            have HQ2 := Lib.hid hq2
            have HQ3 := Lib.hid hq3
            clear hq1 hq2 hq3 HPC HEXT HW HP1 HP2 HNO HALL
            have hsz1 := hbel.size
            have FIN : ∀ v' w1, w1.ownsRow w.heap.size 9 1 v' (ws.length + 1) (ws.map Value.string ++ [.string (s.extract j k)]) → (wr.alloc (.cells #[.string (s.extract j k)] 9)).grownBy w1 u4.ownBlock →
                (w1.ownsRow w.heap.size 9 1 v' (ws ++ [s.extract j k]).length ((ws ++ [s.extract j k]).map Value.string)) ∧ Below w.heap.size w w1 := by
              intro v' w1 h1 h2
              refine ⟨?_, (hbel.alloc hsz1 _).grown h2 (by simp; omega) (fun k hk => ?_)⟩
              · rw [List.length_append, List.map_append]
                exact h1
              · rcases hown.2 with ⟨rfl, _⟩ | ⟨g, cap, cur, rfl, hg, _⟩
                · simp [Value.ownBlock] at hk
                · simp [Value.ownBlock] at hk
                  omega
            have FIN := Lib.hid FIN
            have hb2 : s.size ≤ k ∨ ∃ h : k < s.size, (((s[k]'h).toNat : Int) == 32) = true ∧ (((s[k]'h).toNat : Int) != 32) = false := by
              rcases hblank with h | ⟨h, h'⟩
              · exact .inl (by omega)
              · exact .inr ⟨h, by rw [h']; rfl, by rw [h']; rfl⟩
            clear hblank
            rcases hb2 with hge | ⟨hlt, hc, hc2⟩
            all_goals
              go_wp2_with (at_builtin; refine wpList_append_own _ rfl _ _ 32 rfl w.heap.size 9 i0 (.string ByteArray.empty) 1 16 Try.underlying32 hi hz0 hz1 hz2 rfl (by decide) _ _ _ rfl (hown.alloc _) ⟨wr.heap.size, 0, none⟩ 1 1 [.string (s.extract j k)] rfl rfl ?_ (by intro u hu; simp at hu; subst hu; rfl) (by unfold maxLen; omega) (by omega) (by simp; omega) ?_)
              · intro j' u hj'
                match j', hj' with
                | 0, hj' => simp at hj'; subst hj'; simp [Addr.add]
              intro v' w1 hown1 hgrow1 _
              have hF := FIN.out v' w1 hown1 hgrow1
              clear hown1 hgrow1
              have HF := Lib.hid hF
              clear hF
              go_wp2
              go_roundw
              case rel =>
                exact ⟨k + 1, k + 1, ws ++ [s.extract j k], by omega, Nat.le_refl _, by go_num, by go_num, HF.out.1, by simp only [List.length_append, List.length_cons, List.length_nil]; omega, HF.out.2, HQ3.out, HQ1.out, HQ2.out, by simp⟩
              case measure => simp [intOf]; omega
        · have hlt : k < s.size := by
            rcases Nat.lt_or_ge k s.size with h | h
            · exact h
            · exact absurd (.inl (by omega)) hblank
          have hc32 : ¬ (s[k]'hlt) = 32 := fun h => hblank (.inr ⟨hlt, h⟩)
          have hc : (((s[k]'hlt).toNat : Int) == 32) = false := by
            rw [beq_eq_false_iff_ne]
            intro h
            exact hc32 (UInt8.toNat_inj.1 (show (s[k]'hlt).toNat = (32 : UInt8).toNat by have : (32 : UInt8).toNat = 32 := rfl; omega))
          have HC := Lib.hid hc32
          clear hblank hc32
          go_wp2
          go_roundw
          case rel =>
            refine ⟨k + 1, j, ws, by omega, by omega, by go_num, rfl, hown, by omega, hbel, HALL.out, fun _ => HP1.out hkl, fun h => absurd h (by omega), ?_⟩
            have hjl : k - j < (s.data.toList.drop j).length := by rw [List.length_drop, ← HSZ.out]; omega
            rw [show k + 1 - j = (k - j) + 1 by omega, List.take_succ_eq_append_getElem hjl]
            intro c hcm
            rw [List.mem_append] at hcm
            rcases hcm with hcm | hcm
            · exact HNO.out c hcm
            · rw [List.mem_singleton.1 hcm, List.getElem_drop]
              intro e
              apply HC.out
              rw [ba_get s k hlt]
              rw [← e]
              congr 1
              omega
          case measure => simp [intOf]; omega
      · have hgt : s.size < k := by omega
        have FIN : WordsEnds s w (.returned (.tuple #[u4, .bool true])) wr := ⟨u4, true, ws, rfl, StrsAt.of_owns hown, hbel, sw_some_of HNE.out _ (HP2.out hgt) HALL.out, fun h => by cases h⟩
        have FIN := Lib.hid FIN
        clear hown
        go_wp2
        go_ret2
        exact FIN.out
end Go.Proofs.Ytpfningdbmhonaa
