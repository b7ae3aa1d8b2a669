/- The walks of num.eachWord and num.Words. -/
import Derived.Test.YtpfningdbmhonaaStrsAt
import Derived.Test.YtpfningdbmhonaaPcs
namespace Go.Proofs.Ytpfningdbmhonaa
open Go.RowKit

def EachEnds (B : Nat) (s : ByteArray) (w : World) (e : Ending) (w' : World) : Prop :=
  ∃ (ok : Bool) (ws : List ByteArray), e = .returned (.bool ok) ∧ HoldsStrs B ws w' ∧ Below B w w' ∧ sw s.data.toList = if ok then some (ws.map (·.data.toList)) else none

theorem each_step {l a : List UInt8} {m : Bool} {r : List UInt8} (h : Lib.cut l [32] = (a, r, m)) : (m = false ∧ pcs l = [a] ∧ l = a) ∨ (m = true ∧ pcs l = a :: pcs r ∧ r.length < l.length) := by
  rcases cut_blank l with ⟨h1, h2, h3⟩ | ⟨h1, h2, h3⟩
  · rw [h] at h1 h2
    refine .inl ⟨h1, ?_, h2.symm⟩
    have h2' : a = l := h2
    rw [h2', pcs_word l h3]
  · rw [h] at h1 h2 h3
    refine .inr ⟨h1, ?_, ?_⟩
    · rw [h2]
      exact pcs_cut _ _ h3
    · rw [h2]
      simp
      omega

set_option maxHeartbeats 1000000 in
theorem each_any (s : ByteArray) (B : Nat) (w0 w : World) (hs : s.size ≤ 100000) (hw : w0.ShapedOpen Try.prog) (h0 : Below w0.heap.size w0 w) (hB : w0.heap.size ≤ B) (h : HoldsStrs B [] w) :
    Calls Try.prog 24 #[.string s, .func (.func 25) #[] #[.pointer (some ⟨B, 0, none⟩)]] w (EachEnds B s w) := by
  by_cases hz : s.size = 0
  · have hnil : s.data.toList = [] := List.eq_nil_of_length_eq_zero (by rw [← Lib.size_eq]; exact hz)
    have he : s.toList.isEmpty = true := by rw [Lib.toList_data, hnil]; rfl
    have HE : EachEnds B s w (.returned (.bool true)) w := ⟨true, [], rfl, h, Below.refl _ _, by rw [hnil]; rfl⟩
    clear hnil
    go_enter Try.func24, Try.ntmps24
    go_wp2
    go_step3
    go_wp2
    rw [Exit.noGoto_ret]
    go_ret
    exact HE
  · have he : s.toList.isEmpty = false := ba_ne s (by omega)
    have HS := Lib.hid hz
    clear hz
    go_enter Try.func24, Try.ntmps24
    go_wp2
    refine wp_scope_goto 0 (fun n a' w' => ∃ (t : ByteArray) (ws : List ByteArray), n = t.size ∧ t.size ≤ s.size ∧ ws.length + t.size ≤ s.size ∧ pcs s.data.toList = ws.map (·.data.toList) ++ pcs t.data.toList ∧ (∀ x ∈ ws, x.data.toList ≠ []) ∧ HoldsStrs B ws w' ∧ Below B w w' ∧ ∃ u2 u3 u5 u6 u7 u8 u9 u10 u11 u12 u13 u14 u15 u16 u17 u18 u19 u20 u21 u22, a' = { tmps := #[.string t, .func (.func 25) #[] #[.pointer (some ⟨B, 0, none⟩)], u2, u3, .bool false, u5, u6, u7, u8, u9, u10, u11, u12, u13, u14, u15, u16, u17, u18, u19, u20, u21, u22], defers := [] }) rfl rfl ?_ ?_
    · rintro n a' w' ⟨t, ws, rfl, ht, hwt, hp, hall, hinv, hbel, u2, u3, u5, u6, u7, u8, u9, u10, u11, u12, u13, u14, u15, u16, u17, u18, u19, u20, u21, u22, rfl⟩ K hK
      have HK := Lib.hid hK
      have HP := Lib.hid hp
      have HA := Lib.hid hall
      have hsh : w'.ShapedOpen Try.prog := shaped_below hw (h0.trans (hbel.mono hB))
      obtain ⟨⟨a, r, m⟩, hcut⟩ : ∃ x, Lib.cut t.data.toList [32] = x := ⟨_, rfl⟩
      have hc := Try.strings_Cut_shaped t ⟨#[32]⟩ w' hsh (by omega)
      rw [show (⟨#[32]⟩ : ByteArray).data.toList = [32] from rfl, hcut] at hc
      have hst := each_step hcut
      clear hK hp hall hcut
      by_cases ha : a = []
      · have hae : a.isEmpty = true := by rw [ha]; rfl
        have hno : pcs t.data.toList = [] :: (pcs t.data.toList).tail := by
          rcases hst with ⟨_, h1, _⟩ | ⟨_, h1, _⟩ <;> rw [h1, ha] <;> rfl
        have HN := Lib.hid hno
        clear ha hst hno
        go_wp2_with (go_at_call 29; refine hc.mono ?_; rintro e w1 ⟨rfl, n, rfl⟩)
        simp only [Exit.jump]
        go_ret
        refine ⟨false, ws, rfl, hinv.drewN n, below_drewN hbel n, ?_⟩
        unfold sw
        rw [HP.out, HN.out, if_neg (by intro e; exact HS.out (by rw [Lib.size_eq, e]; rfl)), if_neg (by simp)]
        rfl
      · have hae : a.isEmpty = false := by
          cases a with
          | nil => exact absurd rfl ha
          | cons c l => rfl
        have HA0 := Lib.hid ha
        clear ha
        rcases hst with ⟨rfl, hp1, hl⟩ | ⟨rfl, hp1, hl⟩
        · have HP1 := Lib.hid hp1
          clear hp1 hl
          go_wp2_with (first | (go_at_call 29; refine hc.mono ?_; rintro e w1 ⟨rfl, n, rfl⟩; have hinv1 := hinv.drewN n) | (go_at_call 25; refine (words1_any _ B ws _ hinv1 (by omega)).mono ?_; rintro e w2 ⟨rfl, hinv2, hb2⟩))
          simp only [Exit.jump]
          go_ret
          refine ⟨true, _, rfl, hinv2, (below_drewN hbel n).trans hb2, ?_⟩
          have hall2 := HA.out
          unfold sw
          rw [HP.out, HP1.out, if_neg (by intro e; exact HS.out (by rw [Lib.size_eq, e]; rfl)), if_pos (by
            simp only [List.all_append, List.all_cons, List.all_nil, Bool.and_true, Bool.and_eq_true, List.all_eq_true]
            refine ⟨fun x hx => ?_, by rw [hae]; rfl⟩
            simp only [List.mem_map] at hx
            obtain ⟨y, hy, rfl⟩ := hx
            have := hall2 y hy
            cases hyy : y.data.toList with
            | nil => exact absurd hyy this
            | cons c l => rfl)]
          simp
        · have HP1 := Lib.hid hp1
          have hrl : (⟨r.toArray⟩ : ByteArray).size < t.size := by rw [Lib.size_eq, Lib.size_eq]; exact hl
          clear hp1 hl
          go_wp2_with (first | (go_at_call 29; refine hc.mono ?_; rintro e w1 ⟨rfl, n, rfl⟩; have hinv1 := hinv.drewN n) | (go_at_call 25; refine (words1_any _ B ws _ hinv1 (by omega)).mono ?_; rintro e w2 ⟨rfl, hinv2, hb2⟩))
          go_step3
          refine ⟨rfl, HK.out (⟨r.toArray⟩ : ByteArray).size _ _ hrl ⟨⟨r.toArray⟩, ws ++ [⟨a.toArray⟩], rfl, by omega, by simp only [List.length_append, List.length_cons, List.length_nil]; omega, ?_, ?_, hinv2, (below_drewN hbel n).trans hb2, _, _, _, _, _, _, _, _, _, _, _, _, _, _, _, _, _, _, _, _,  rfl⟩⟩
          · rw [HP.out, HP1.out]
            simp
          · intro x hx
            rw [List.mem_append] at hx
            rcases hx with hx | hx
            · exact HA.out x hx
            · rw [List.mem_singleton.1 hx]
              exact HA0.out
    · intro K hpass
      go_wp2
      go_step3
      rename_i hback
      refine hback _ _ (hpass s.size _ _ ⟨s, [], rfl, Nat.le_refl _, by simp, rfl, by simp, h, Below.refl _ _, _, _, _, _, _, _, _, _, _, _, _, _, _, _, _, _, _, _, _, _,  rfl⟩)
end Go.Proofs.Ytpfningdbmhonaa
