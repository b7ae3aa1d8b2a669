/- Stage 25: who is busy, as the document keeps it: plain mathematics. -/
import Derived.Test.YtlgemfgikdaelaaRsRA
import Derived.Test.YtlgemfgikdaelaaFifoRef
namespace Go.Proofs.Ytlgemfgikdaelaa
open Go.RowKit

/-- a list holds who is busy -/
def BusyR (L : List En) (B : List Int) : Prop := ∀ n, n ∈ B ↔ busyE L n = true
theorem BusyR.inL {L : List En} {B : List Int} (h : BusyR L B) (n : Int) : inL B n = busyE L n := by rw [Bool.eq_iff_iff, inL_mem]; exact h n
theorem busyE_iff {L : List En} (h : RsOk L) (n : Int) : busyE L n = true ↔ ∃ e ∈ L, e.id = n ∧ e.busy = true := by
  unfold busyE
  rw [Bool.and_eq_true]
  constructor
  · rintro ⟨h1, h2⟩
    obtain ⟨hk, e, e2⟩ := h.at h1
    rw [e] at h2
    exact ⟨_, List.getElem_mem hk, e2, h2⟩
  · rintro ⟨e, he, rfl, hb⟩
    obtain ⟨h1, h2⟩ := hasE_mem h he
    exact ⟨h1, by rw [h2]; exact hb⟩
theorem busyE_set {L : List En} (h : RsOk L) (k : Nat) (hk : k < L.length) (y : En) (hi : y.id = L[k].id) (hbi : y.bits = L[k].bits) (n : Int) : busyE (L.set k y) n = if n = y.id then y.busy else busyE L n := by
  have h2 := h.set k hk y hi hbi
  unfold busyE
  rw [hasE_set k hk y hi, befE_set k hk y hi]
  by_cases hn : n = y.id
  · rw [if_pos hn]
    subst hn
    rw [hi]
    obtain ⟨h1, h3⟩ := hasE_mem h (List.getElem_mem hk)
    obtain ⟨hb, e, e2⟩ := h.at h1
    have hkb : befE L L[k].id = k := by
      have := plcE_at h hk rfl
      unfold plcE at this
      rw [if_pos h1] at this
      omega
    rw [h1, hkb, List.getD_eq_getElem?_getD, List.getElem?_set_self hk]
    simp
  · rw [if_neg hn]
    cases hh : hasE L n with
    | false => simp
    | true =>
      obtain ⟨hb, e, e2⟩ := h.at hh
      have hne : k ≠ befE L n := fun e3 => hn (by rw [hi]; subst e3; exact e2.symm)
      rw [List.getD_eq_getElem?_getD, List.getD_eq_getElem?_getD, List.getElem?_set_ne hne]
theorem BusyR.nil : BusyR [] [] := fun n => by simp [busyE, hasE]
theorem BusyR.add {L : List En} {B : List Int} (h : BusyR L B) (hok : RsOk L) (room : Int) (n : Int) (b : Nat) (hb : b < 2 ^ 64) : BusyR (addE room L n b).1 B := by
  unfold addE
  split
  · exact h
  · rename_i h1
    split
    · exact h
    · rename_i h2
      split
      · exact h
      · intro m
        rw [h m, busyE_iff hok, busyE_iff (hok.ins (x := ⟨n, b, true, false⟩) (Classical.not_not.1 h1) hb (by simpa using h2))]
        constructor
        · rintro ⟨e, he, h3⟩
          exact ⟨e, insE_mem.2 (.inr he), h3⟩
        · rintro ⟨e, he, h3, h4⟩
          rcases insE_mem.1 he with rfl | he
          · cases h4
          · exact ⟨e, he, h3, h4⟩
theorem BusyR.set {L : List En} {B : List Int} (h : BusyR L B) (hok : RsOk L) (n : Int) (on : Bool) : BusyR (setE L n on).1 B := by
  unfold setE
  split
  · rename_i h1
    obtain ⟨hk, hd, e2⟩ := hok.at h1
    rw [hd]
    split
    · exact h
    · intro m
      rw [h m, busyE_set hok _ hk { L[befE L n] with on := on } rfl rfl]
      show busyE L m = true ↔ (if m = (L[befE L n]).id then (L[befE L n]).busy else busyE L m) = true
      split
      · rename_i hm
        subst hm
        obtain ⟨h5, h6⟩ := hasE_mem hok (List.getElem_mem hk)
        unfold busyE
        rw [h5, h6, Bool.true_and]
      · exact Iff.rfl
  · exact h
/-- who is taken: it is busy too -/
def takeB (L : List En) (B : List Int) (n : Int) : List Int := if (takeE L n).2 = 0 then B ++ [n] else B
theorem BusyR.take {L : List En} {B : List Int} (h : BusyR L B) (hok : RsOk L) (n : Int) : BusyR (takeE L n).1 (takeB L B n) := by
  unfold takeB takeE
  split
  · rename_i h1
    obtain ⟨hk, hd, e2⟩ := hok.at h1
    rw [hd]
    split
    · rename_i hf
      rw [if_pos rfl]
      intro m
      rw [busyE_set hok _ hk { L[befE L n] with busy := true } rfl rfl, List.mem_append, List.mem_singleton, h m]
      show _ ↔ (if m = (L[befE L n]).id then true else busyE L m) = true
      rw [e2]
      split
      · rename_i hm
        simp [hm]
      · rename_i hm
        simp [hm]
    · rw [if_neg (show ¬ ((12 : Int) = 0) by decide)]
      exact h
  · rw [if_neg (show ¬ ((7 : Int) = 0) by decide)]
    exact h
theorem BusyR.give {L : List En} {B : List Int} (h : BusyR L B) (hok : RsOk L) (n : Int) : BusyR (giveE L n).1 (dropF B n) := by
  unfold giveE
  split
  · rename_i h1
    have hh : hasE L n = true := by unfold busyE at h1; rw [Bool.and_eq_true] at h1; exact h1.1
    obtain ⟨hk, hd, e2⟩ := hok.at hh
    rw [hd]
    intro m
    rw [busyE_set hok _ hk { L[befE L n] with busy := false } rfl rfl, dropF_mem, h m]
    show _ ↔ (if m = (L[befE L n]).id then false else busyE L m) = true
    rw [e2]
    split
    · rename_i hm
      simp [hm]
    · rename_i hm
      simp [hm]
  · rename_i h1
    intro m
    rw [dropF_mem, h m]
    constructor
    · exact fun h2 => h2.1
    · intro h2
      refine ⟨h2, fun e => ?_⟩
      subst e
      exact h1 h2
theorem giveE_was {L : List En} {B : List Int} (h : BusyR L B) (n : Int) : (giveE L n).2 = wasF B n := by
  rw [wasF_iff, h.inL]
  unfold giveE
  split
  · rename_i h1
    exact h1.symm
  · rename_i h1
    simpa using h1
theorem takeB_len (L : List En) (B : List Int) (n : Int) : (takeB L B n).length ≤ B.length + 1 := by
  unfold takeB
  split
  · simp
  · omega

/-- hands, of which one is there, or not -/
def turnH (H : List Hd) (n : Int) (on : Bool) : List Hd := H.map fun x => if x.id = n then { x with on := on } else x
theorem turnH_len (H : List Hd) (n : Int) (on : Bool) : (turnH H n on).length = H.length := List.length_map _
theorem turnH_get (H : List Hd) (n : Int) (on : Bool) (i : Nat) (hi : i < (turnH H n on).length) : (turnH H n on)[i] = if (H[i]'(by rw [← turnH_len H n on]; exact hi)).id = n then { H[i]'(by rw [← turnH_len H n on]; exact hi) with on := on } else H[i]'(by rw [← turnH_len H n on]; exact hi) := List.getElem_map _
theorem turnH_view {L : List En} (hok : RsOk L) {n : Int} (hk : befE L n < L.length) (he : L[befE L n].id = n) (on : Bool) : turnH (viewE L) n on = viewE (L.set (befE L n) { L[befE L n] with on := on }) := by
  refine List.ext_getElem (by rw [turnH_len, viewE_len, viewE_len, List.length_set]) fun i h1 h2 => ?_
  rw [turnH_get, viewE_get, viewE_get, List.getElem_set]
  rw [turnH_len, viewE_len] at h1
  by_cases hi : befE L n = i
  · rw [if_pos hi]
    subst hi
    rw [if_pos he]
  · rw [if_neg hi, if_neg]
    intro e
    have := rs_uniq hok.rise (List.getElem_mem h1) (List.getElem_mem hk) (by rw [he]; exact e)
    have hb := plcE_at hok h1 e
    have hb2 := plcE_at hok hk he
    omega
/-- the first k turned -/
def turnP (H : List Hd) (n : Int) (on : Bool) (k : Nat) : List Hd := turnH (H.take k) n on ++ H.drop k
theorem turnP_len (H : List Hd) (n : Int) (on : Bool) (k : Nat) : (turnP H n on k).length = H.length := by
  unfold turnP
  rw [List.length_append, turnH_len, List.length_take, List.length_drop]
  omega
theorem turnP_at (H : List Hd) (n : Int) (on : Bool) (k : Nat) (hk : k < H.length) : (turnP H n on k)[k]'(by rw [turnP_len]; exact hk) = H[k] := by
  unfold turnP
  rw [List.getElem_append_right (by rw [turnH_len, List.length_take]; omega)]
  have : k - (turnH (H.take k) n on).length = 0 := by rw [turnH_len, List.length_take]; omega
  simp only [this]
  rw [List.getElem_drop]
  rfl
theorem turnP_next (H : List Hd) (n : Int) (on : Bool) (k : Nat) (hk : k < H.length) : turnP H n on (k + 1) = if H[k].id = n then (turnP H n on k).set k { H[k] with on := on } else turnP H n on k := by
  have e1 : turnH (H.take (k + 1)) n on = turnH (H.take k) n on ++ [if H[k].id = n then { H[k] with on := on } else H[k]] := by
    unfold turnH
    rw [List.take_succ_eq_append_getElem hk, List.map_append]
    rfl
  have hl : (turnH (H.take k) n on).length = k := by rw [turnH_len, List.length_take]; omega
  unfold turnP
  rw [e1, List.append_assoc, List.drop_eq_getElem_cons hk]
  by_cases h : H[k].id = n
  · rw [if_pos h, if_pos h, List.set_append_right _ _ (by omega), hl, Nat.sub_self]
    rfl
  · rw [if_neg h, if_neg h]
    rfl
theorem turnP_end (H : List Hd) (n : Int) (on : Bool) : turnP H n on H.length = turnH H n on := by
  unfold turnP
  rw [List.take_length, List.drop_length, List.append_nil]
end Go.Proofs.Ytlgemfgikdaelaa
