/- Texts of this proof, joined: DgRG; DgRH; TkRefB; DgRI; DgRJ; OpenTask; OpenAct24; DgDoesBase. -/
import Derived.Test.YthchkhgimnchcaaGreatBun27
import Derived.Lib.SmallJoins
import Derived.ChangeArms
import Derived.Deep.Strs
/- Stage 24: the document's Behind. -/
namespace Go.Proofs.YthchkhgimnchcaaGreat
open Go.RowKit

theorem arcsT_take (T : List Tk) (k : Nat) (hk : k < T.length) : arcsT (T.take (k + 1)) = arcsT (T.take k) ++ T[k].sp.aft.map fun n => ⟨n, T[k].sp.id⟩ := by
  unfold arcsT arcsO
  rw [List.take_succ_eq_append_getElem hk, List.map_append, List.flatMap_append]
  simp
def fstOf (x id : Int) (l : List Int) : List Int := (l.filter fun n => decide (n = id)).map fun _ => x
theorem firstT_take (T : List Tk) (id : Int) (k : Nat) (hk : k < T.length) : firstT (T.take (k + 1)) id = firstT (T.take k) id ++ fstOf T[k].sp.id id T[k].sp.aft := by
  unfold firstT fstOf
  rw [List.take_succ_eq_append_getElem hk, List.flatMap_append]
  simp
theorem fstOf_take (x id : Int) (l : List Int) (j : Nat) (hj : j < l.length) : fstOf x id (l.take (j + 1)) = if l[j] = id then fstOf x id (l.take j) ++ [x] else fstOf x id (l.take j) := by
  unfold fstOf
  rw [List.take_succ_eq_append_getElem hj, List.filter_append]
  by_cases h : l[j] = id
  · rw [List.filter_cons_of_pos (by simp [h]), if_pos h]
    simp
  · rw [List.filter_cons_of_neg (by simp [h]), if_neg h]
    simp
theorem fstOf_len (x id : Int) (l : List Int) : (fstOf x id l).length ≤ l.length := by
  unfold fstOf
  rw [List.length_map]
  exact List.length_filter_le _ _
theorem firstT_len (id : Int) : ∀ {T : List Tk}, (∀ t ∈ T, t.sp.aft.length ≤ 8) → (firstT T id).length ≤ 8 * T.length
  | [], _ => Nat.le_refl _
  | t :: T, h => by
    have h1 := firstT_len id (T := T) fun u hu => h u (List.mem_cons_of_mem _ hu)
    have h2 := h t List.mem_cons_self
    have h3 := fstOf_len t.sp.id id t.sp.aft
    have e : firstT (t :: T) id = fstOf t.sp.id id t.sp.aft ++ firstT T id := by unfold firstT fstOf; rw [List.flatMap_cons]
    rw [e, List.length_append, List.length_cons]
    omega
theorem arcsT_len {T : List Tk} (h : ∀ t ∈ T, t.sp.aft.length ≤ 8) : (arcsT T).length ≤ 8 * T.length := by
  have := arcsO_len (L := T.map Tk.sp) fun x hx => by
    obtain ⟨t, ht, rfl⟩ := List.mem_map.1 hx
    exact h t ht
  rwa [List.length_map] at this
theorem idsK_len (T : List Tk) : (idsK T).length = T.length := List.length_map _

set_option maxHeartbeats 16000000 in
set_option maxRecDepth 100000 in
theorem refBehind24_any (va : Value) (T : List Tk) (id : Int) (W : World) (ha : RowsAt W 14 csTk va T) (hI : ∀ t ∈ T, IntsAt W t.sp.v t.sp.aft) (hl : T.length ≤ 100) (h8 : ∀ t ∈ T, t.sp.aft.length ≤ 8) :
    Calls Tryz.prog 28 #[va, .int .i64 id] W fun e w' => ∃ v, e = .returned v ∧ OwnI w' W.heap.size v (behindT T id) ∧ Below W.heap.size W w' := by
  obtain ⟨a0, c0, rfl⟩ := RowsAt.form ha
  have HL := Lib.hid ha
  have HSPS := Lib.hid hI
  have HA8 := Lib.hid h8
  have HTL := Lib.hid hl
  have l2 : (T.length : Int) ≤ 100 := by omega
  obtain ⟨i0, hi, hz0, hz1, hz2⟩ := info_parts info_arc
  clear ha hI h8 hl
  go_enter Tryz.func28, Tryz.ntmps28
  go_wp2
  go_loopg [5, 6, 7, 8] T.length (fun kx iv av fv kv ws => ∃ k : Nat, k ≤ T.length ∧ T.length - k ≤ kx ∧ kv = .int .i64 k ∧ Hid (OwnI ws W.heap.size iv (idsK (T.take k))) ∧ Hid (OwnR ws W.heap.size 84 2 csArc av (arcsT (T.take k))) ∧ Hid (OwnI ws W.heap.size fv (firstT (T.take k) id)) ∧ Hid (∀ b, iv.ownBlock = some b → fv.ownBlock ≠ some b) ∧ Hid (Below W.heap.size W ws))
  case atStart => exact ⟨0, Nat.zero_le _, Nat.le_refl _, rfl, OwnR.nil _ _ _ _ _, OwnR.nil _ _ _ _ _, OwnR.nil _ _ _ _ _, fun b h => by simp [Value.ownBlock] at h, Below.refl _ _⟩
  case round =>
    obtain ⟨k, hk, hkx, rfl, HI, HA, HF, HD, HB⟩ := hrel
    obtain ⟨aT, cT, e⟩ := (OwnI.ints HI.out).form
    subst e
    obtain ⟨bT, dT, e⟩ := RowsAt.form (OwnR.rows csArc_len HA.out)
    subst e
    obtain ⟨fT, gT, e⟩ := (OwnI.ints HF.out).form
    subst e
    by_cases hlt : k < T.length
    · obtain ⟨g, o, cc, xid, _, _, _, _, _, _, _, a, c, l, st, _, _, _, _, _, _, he, e, hlc, p0', -, -, -, -, -, -, -, p8', -, -, -, -, -⟩ := tks_spot HL.out k hlt
      cases e
      have hgl : g < W.heap.size := by
        have h5 : (Value.slice (some ⟨g, o, none⟩) T.length c0).ownBlock = some g := rfl
        exact RowsAt.lt HL.out (by omega) g h5
      have HPC := Lib.hid fun (w' : World) (hb : Below W.heap.size W w') => (show w'.cell? ⟨g, o + k * 14, none⟩ = some (.int .i64 xid) ∧ w'.cell? ⟨g, o + k * 14 + 8, none⟩ = some (.slice a l.length c) from ⟨(hb.cell (p := ⟨g, o + k * 14, none⟩) hgl).trans p0', (hb.cell (p := ⟨g, o + k * 14 + 8, none⟩) hgl).trans p8'⟩)
      clear p0' p8'
      obtain ⟨p0, p8⟩ := HPC.out _ HB.out
      have HLT := Lib.hid (And.intro hlt hkx)
      have k0 : (0 : Int) ≤ (k : Int) := by omega
      have k1 : (k : Int) < (T.length : Int) := by omega
      have hin := idsK_take T k hlt
      have han := arcsT_take T k hlt
      have hfn := firstT_take T id k hlt
      have hl8 := HA8.out _ (List.getElem_mem hlt)
      have hsp := HSPS.out _ (List.getElem_mem hlt)
      have h8k : ∀ t ∈ T.take k, t.sp.aft.length ≤ 8 := fun t ht => HA8.out t (List.mem_of_mem_take ht)
      have hil : (idsK (T.take k)).length ≤ 100 := by rw [idsK_len, List.length_take]; have := HTL.out; omega
      have hal : (arcsT (T.take k)).length ≤ 800 := by have := arcsT_len h8k; rw [List.length_take] at this; have := HTL.out; omega
      have hfl : (firstT (T.take k) id).length ≤ 800 := by have := firstT_len id h8k; rw [List.length_take] at this; have := HTL.out; omega
      rw [he] at hin han hfn hl8 hsp
      dsimp only [Sp.v] at hin han hfn hl8 hsp
      have HSP := Lib.hid hsp
      have HIN := Lib.hid hin
      have HAN := Lib.hid han
      have HFN := Lib.hid hfn
      have HPR := Lib.hid (And.intro hl8 (And.intro hal hfl))
      have HGL := Lib.hid hgl
      have l8 : (l.length : Int) ≤ 8 := by omega
      generalize idsK (T.take k) = I0 at *
      generalize arcsT (T.take k) = A0 at *
      generalize firstT (T.take k) id = F0 at *
      clear hk hkx hlt hin han hfn hl8 hal hfl hgl hsp he hlc h8k
      go_upto_region 8 with (at_builtin; refine appI23 xid HI.out HB.out.size (by omega) rfl _ _ rfl rfl rfl ?_; intro v6 w6 o6 b6 q6 n6; have HO6 := Lib.hid o6; have HB6 := Lib.hid (HB.out.trans b6); have HA6 := Lib.hid (HA.out.only23 q6 fun b h1 h2 => OwnR.unlike HA.out HI.out (by decide) b h1 h2); have HF6 := Lib.hid (HF.out.only23 q6 fun b h1 h2 => HD.out b h2 h1); have HD6 := Lib.hid (show ∀ b, v6.ownBlock = some b → (Value.slice fT F0.length gT).ownBlock ≠ some b from fun b h1 h2 => (n6 b h1).elim (fun h3 => HD.out b h3 h2) (fun h3 => by have := (World.ownsRow.lt HF.out b h2).2; omega)); clear o6 b6 q6 n6)
      clear p0 p8 HI HA HF HD HB
      obtain ⟨p0, p8⟩ := HPC.out _ HB6.out
      have hzb := HB6.out.size
      go_wp2
      clear p0 p8
      go_loopg [6, 7, 9] l.length (fun jx av fv jv ws => ∃ j : Nat, j ≤ l.length ∧ l.length - j ≤ jx ∧ jv = .int .i64 j ∧ Hid (OwnR ws W.heap.size 84 2 csArc av (A0 ++ (l.take j).map fun n => ⟨n, xid⟩)) ∧ Hid (OwnI ws W.heap.size v6 (I0 ++ [xid])) ∧ Hid (OwnI ws W.heap.size fv (F0 ++ fstOf xid id (l.take j))) ∧ Hid (∀ b, v6.ownBlock = some b → fv.ownBlock ≠ some b) ∧ Hid (Below W.heap.size W ws))
      case atStart => exact ⟨0, Nat.zero_le _, Nat.le_refl _, rfl, by rw [List.take_zero, List.map_nil, List.append_nil]; exact HA6.out, HO6.out, by rw [List.take_zero, show fstOf xid id [] = [] from rfl, List.append_nil]; exact HF6.out, HD6.out, HB6.out⟩
      case round =>
        clear HA6 HO6 HF6 HD6 HB6 hzb
        obtain ⟨j, hj, hjx, rfl, HA7, HI7, HF7, HD7, HB7⟩ := hrel
        obtain ⟨p0, p8⟩ := HPC.out _ HB7.out
        by_cases hjl : j < l.length
        · obtain ⟨g5, o5, c5, e, -, hg5, q0'⟩ := HSP.out.spot j hjl
          simp only [Value.slice.injEq] at e
          obtain ⟨rfl, -, rfl⟩ := e
          have q0 := (HB7.out.cell (p := ⟨g5, o5 + j, none⟩) hg5).trans q0'
          have HJT := Lib.hid (And.intro hjl hjx)
          have j0 : (0 : Int) ≤ (j : Int) := by omega
          have j1 : (j : Int) < (l.length : Int) := by omega
          have hnx : (l.take (j + 1)).map (fun n => (⟨n, xid⟩ : Arc16)) = (l.take j).map (fun n => (⟨n, xid⟩ : Arc16)) ++ [⟨l[j], xid⟩] := by
            rw [List.take_succ_eq_append_getElem hjl, List.map_append]
            rfl
          have hal : (A0 ++ (l.take j).map fun n => (⟨n, xid⟩ : Arc16)).length ≤ 1000 := by
            rw [List.length_append, List.length_map, List.length_take]
            have := HPR.out
            omega
          have hfl : (F0 ++ fstOf xid id (l.take j)).length ≤ 1000 := by
            rw [List.length_append]
            have := fstOf_len xid id (l.take j)
            rw [List.length_take] at this
            have := HPR.out
            omega
          have hfx := fstOf_take xid id l j hjl
          have HQ := Lib.hid fun (w' : World) (hb : Below W.heap.size W w') => (hb.cell (p := ⟨g5, o5 + j, none⟩) hg5).trans q0'
          generalize l[j]'hjl = y at *
          have hnx2 : A0 ++ (l.take (j + 1)).map (fun n => (⟨n, xid⟩ : Arc16)) = (A0 ++ (l.take j).map (fun n => (⟨n, xid⟩ : Arc16))) ++ [⟨y, xid⟩] := by rw [hnx, List.append_assoc]
          have hfx2 : F0 ++ fstOf xid id (l.take (j + 1)) = if y = id then (F0 ++ fstOf xid id (l.take j)) ++ [xid] else F0 ++ fstOf xid id (l.take j) := by
            rw [hfx]
            by_cases h : y = id
            · rw [if_pos h, if_pos h, List.append_assoc]
            · rw [if_neg h, if_neg h]
          generalize A0 ++ (l.take j).map (fun n => (⟨n, xid⟩ : Arc16)) = A7 at *
          generalize F0 ++ fstOf xid id (l.take j) = F7 at *
          obtain ⟨ra, rc, e⟩ := RowsAt.form (OwnR.rows csArc_len HA7.out)
          subst e
          obtain ⟨fa, fc, e⟩ := (OwnI.ints HF7.out).form
          subst e
          have hrb := World.ownsRow.lt HA7.out
          have HNX := Lib.hid hnx2
          have HFX := Lib.hid hfx2
          have HFL := Lib.hid hfl
          have hgl := HGL.out
          have n1 : some g ≠ (Value.slice ra A7.length rc).ownBlock := fun e => by have := (hrb g e.symm).1; omega
          have n2 : some g5 ≠ (Value.slice ra A7.length rc).ownBlock := fun e => by have := (hrb g5 e.symm).1; omega
          have lg : g < wr.heap.size := Nat.lt_of_lt_of_le hgl HB7.out.size
          have lg5 : g5 < wr.heap.size := Nat.lt_of_lt_of_le hg5 HB7.out.size
          have hzz : W.heap.size ≤ wr.heap.size := HB7.out.size
          have HRB := Lib.hid hrb
          clear hrb hnx hnx2 hfx hfx2 hfl hjl hjx hj q0' hg5 hgl
          go_upto_region 11 with fail
          go_region_held3 (fun w' => w'.cell? ⟨g, o + k * 14, none⟩ = some (.int .i64 xid) ∧ w'.cell? ⟨g, o + k * 14 + 8, none⟩ = some (.slice (some ⟨g5, o5, none⟩) l.length c) ∧ w'.cell? ⟨g5, o5 + j, none⟩ = some (.int .i64 y))
            (first
              | (go_split_ands; exact ⟨by assumption, by assumption, by assumption⟩)
              | (go_split_ands; exact ⟨by go_keep, by go_keep, by go_keep⟩)
              | (go_split_ands
                 exact ⟨(hg9.cell_far _ (by simp; omega) n1).trans (by assumption), (hg9.cell_far _ (by simp; omega) n1).trans (by assumption), (hg9.cell_far _ (by simp; omega) n2).trans (by assumption)⟩))
            ((refine step_append_lies _ (by rfl) _ _ _ (by rfl) W.heap.size 84 i0 (.agg #[.int .i64 0, .int .i64 0]) 2 16 Tryz.underlying82 hi hz0 hz1 hz2 rfl (by omega) (.slice ra A7.length rc) A7.length (flats csArc A7) (by rfl) ((World.ownsRow.alloc HA7.out _).drew)
                ⟨wr.heap.size, 0, none⟩ 1 1 [.int .i64 y, .int .i64 xid] (by rfl) (by rfl) (World.news_of_block (cs := #[.int .i64 y, .int .i64 xid]) (t := 84) (fr := (0, 0)) (heap_alloc_new wr _)) (by simp [Value.oneCell'])
                (by omega) (by unfold maxLen; omega) (by omega) (by simp; omega) (wr.heap.size + 1) (by simp) ?_
              intro gg cap w9 ho9 hg9 hat9 hlt9))
          all_goals (
            have k8 := ((Below.refl wr.heap.size wr).alloc (Nat.le_refl _) (.cells #[.int .i64 y, .int .i64 xid] 84)).drew
            have hO9 := OwnR.snoc (x := (⟨y, xid⟩ : Arc16)) (l := A7) ho9 rfl rfl
            have hI9 := OwnR.only23 (OwnR.kept HI7.out k8) (Only.grown hg9 fun _ e => e) (fun b h1 h2 => OwnR.unlike HA7.out HI7.out (by decide) b h2 h1)
            have hF9 := OwnR.only23 (OwnR.kept HF7.out k8) (Only.grown hg9 fun _ e => e) (fun b h1 h2 => OwnR.unlike HA7.out HF7.out (by decide) b h2 h1)
            have hB9 := (HB7.out.trans (k8.mono HB7.out.size)).grown hg9 (HB7.out.trans (k8.mono HB7.out.size)).size (fun b e => (HRB.out b e).1)
            rw [← HNX.out] at hO9
            have HO9 := Lib.hid hO9
            have HI9 := Lib.hid hI9
            have HF9 := Lib.hid hF9
            have HB9 := Lib.hid hB9
            clear hO9 hI9 hF9 hB9 k8 ho9 hg9 hat9 hlt9 p0 p8 q0 n1 n2 lg lg5 hzz
            obtain ⟨p0, p8⟩ := HPC.out _ HB9.out
            have q0 := HQ.out _ HB9.out
            by_cases hyid : y = id
            · subst hyid
              have hfx := HFX.out
              rw [if_pos rfl] at hfx
              have HFX2 := Lib.hid hfx
              clear hfx
              go_wp2_with (at_builtin; refine appI23 xid HF9.out HB9.out.size (by have := HFL.out; omega) rfl _ _ rfl rfl rfl ?_; intro v8 w8 o8 b8 q8 n8; have HF8 := Lib.hid o8; have HB8 := Lib.hid (HB9.out.trans b8); have HA8' := Lib.hid (HO9.out.only23 q8 fun b h1 h2 => OwnR.unlike HO9.out HF9.out (by decide) b h1 h2); have HI8 := Lib.hid (HI9.out.only23 q8 fun b h1 h2 => HD7.out b h1 h2); have HD8 := Lib.hid (show ∀ b, v6.ownBlock = some b → v8.ownBlock ≠ some b from fun b h1 h2 => (n8 b h2).elim (fun h3 => HD7.out b h1 h3) (fun h3 => by have := (World.ownsRow.lt HI9.out b h1).2; omega)); clear o8 b8 q8 n8 p0 p8 q0)
              go_roundg (l.length - (j + 1))
              case measure => have := HJT.out; omega
              case rel => exact ⟨j + 1, by have := HJT.out; omega, Nat.le_refl _, by go_num, HA8'.out, HI8.out, by rw [HFX2.out]; exact HF8.out, HD8.out, HB8.out⟩
            · have hfx := HFX.out
              rw [if_neg hyid] at hfx
              have HFX2 := Lib.hid hfx
              clear hfx
              go_wp2
              go_roundg (l.length - (j + 1))
              case measure => have := HJT.out; omega
              case rel => exact ⟨j + 1, by have := HJT.out; omega, Nat.le_refl _, by go_num, HO9.out, HI9.out, by rw [HFX2.out]; exact HF9.out, HD7.out, HB9.out⟩)
        · have hje : j = l.length := by omega
          subst hje
          have hA := HA7.out
          rw [List.take_length, ← HAN.out] at hA
          have hI := HI7.out
          rw [← HIN.out] at hI
          have hF := HF7.out
          rw [List.take_length, ← HFN.out] at hF
          have HAE := Lib.hid hA
          have HIE := Lib.hid hI
          have HFE := Lib.hid hF
          clear hA hI hF hjl hj hjx HA7 HI7 HF7
          go_wp2
          go_roundg (T.length - (k + 1))
          case measure => have := HLT.out; omega
          case rel => exact ⟨k + 1, by have := HLT.out; omega, Nat.le_refl _, by go_num, HIE.out, HAE.out, HFE.out, HD7.out, HB7.out⟩
    · have hke : k = T.length := by omega
      subst hke
      have ho := HI.out
      have hA := HA.out
      have hF := HF.out
      rw [List.take_length] at ho hA hF
      have hil := idsK_len T
      have hal := arcsT_len HA8.out
      have hfl := firstT_len id HA8.out
      have GO := Lib.hid (refReach_any _ _ _ (idsK T) (arcsT T) (firstT T id) wr (OwnI.ints ho) (OwnR.rows csArc_len hA) (OwnI.ints hF) (by have := HTL.out; omega) (by have := HTL.out; omega) (by have := HTL.out; omega))
      clear ho hA hF hil hal hfl hlt hk hkx hi hz0 hz1 hz2
      go_wp2_with (go_at_call 45; (with_reducible refine GO.out.mono ?_); rintro e w3 ⟨v3, rfl, ho, hb⟩; have HO3 := Lib.hid (OwnR.base13 ho HB.out.size); have HB3 := Lib.hid (HB.out.trans (hb.mono HB.out.size)); clear ho hb)
      exact bodyPost_ret (v := v3) (by simp [results, Tryz.results28, go_sem]) rfl ⟨_, rfl, HO3.out, HB3.out⟩
end Go.Proofs.YthchkhgimnchcaaGreat
/- Stage 24: the document's End. -/
namespace Go.Proofs.YthchkhgimnchcaaGreat
open Go.RowKit

theorem beh_nodup (T : List Tk) (id : Int) : (behindT T id).Nodup := (reach_ris _ _ _).nodup
theorem beh_len (T : List Tk) (id : Int) : (behindT T id).length ≤ T.length := by
  have := len_of_sub _ (idsK T) (beh_nodup T id) fun x hx => reach_sub hx
  rwa [idsK_len] at this
theorem canc_nodup (T : List Tk) (id : Int) : (setL (id :: behindT T id)).Nodup := (setL_ris _).nodup
theorem canc_len (T : List Tk) (id : Int) : (setL (id :: behindT T id)).length ≤ T.length + 1 := Nat.le_trans (setL_le _) (Nat.succ_le_succ (beh_len T id))
theorem freed_len (T : List Tk) : (freedT T).length ≤ T.length := by
  unfold freedT
  rw [idsK_len]
  exact List.length_filter_le _ _
theorem setsT_aft8 {T : List Tk} {ids : List Int} {s : Int} (h : ∀ t ∈ T, t.sp.aft.length ≤ 8) : ∀ t ∈ setsT T ids s, t.sp.aft.length ≤ 8 := fun t ht => by
  obtain ⟨u, hu, rfl⟩ := setsT_mem.1 ht
  have := h u hu
  split <;> exact this
theorem setsT_ints {T : List Tk} {ids : List Int} {s : Int} {w : World} (h : ∀ t ∈ T, IntsAt w t.sp.v t.sp.aft) : ∀ t ∈ setsT T ids s, IntsAt w t.sp.v t.sp.aft := fun t ht => by
  obtain ⟨u, hu, rfl⟩ := setsT_mem.1 ht
  have := h u hu
  split <;> exact this
theorem OwnI.one24 (w : World) (n : Int) : OwnI (w.alloc (.cells #[.int .i64 n] 3)) w.heap.size (.slice (some ⟨w.heap.size, 0, none⟩) 1 1) [n] :=
  ⟨by simp [flats, csI], .inr ⟨w.heap.size, 1, #[.int .i64 n], rfl, Nat.le_refl _, heap_alloc_new w _, Nat.le_refl _, by simp [maxLen], by simp, by simp [flats, csI]⟩⟩
/-- what End hands back -/
def EndRes (va : Value) (W : World) (r : List Tk × List Int × Int) (e : Ending) (w' : World) : Prop := ∃ v u, e = .returned (.tuple #[v, u, .int .i64 r.2.2]) ∧ RowsAt w' 14 csTk v r.1 ∧ IntsAt w' u r.2.1 ∧ Below W.heap.size W w' ∧ FromT va v W.heap.size

section
variable (va : Value) (T : List Tk) (id : Int) (W : World)
set_option maxHeartbeats 16000000 in
set_option maxRecDepth 100000 in
theorem refEnd24_no (how : Int) (ha : RowsAt W 14 csTk va T) (hl : T.length ≤ 100) (hno : id ∉ idsK T) :
    Calls Tryz.prog 9 #[va, .int .i64 id, .int .i64 how] W (EndRes va W (endDg T id how)) := by
  obtain ⟨a, c, rfl⟩ := RowsAt.form ha
  rw [endDg_no hno]
  have GF := Lib.hid (refFind23_any (.slice a T.length c) T id W ha (by omega))
  have hu : plcL (idsK T) id < 0 := by
    have h1 : ¬ 0 ≤ plcL (idsK T) id := fun h => hno (plc_ge.1 h)
    omega
  generalize plcL (idsK T) id = u at *
  have HA := Lib.hid ha
  clear hno ha
  go_enter Tryz.func9, Tryz.ntmps9
  go_wp2_with (go_at_call 17; (with_reducible refine GF.out.mono ?_); rintro e w1 ⟨rfl, rfl⟩)
  exact bodyPost_ret (v := .tuple #[.slice a T.length c, .slice none 0 0, .int .i64 7]) (by simp [results, Tryz.results9, go_sem]) rfl ⟨_, _, rfl, HA.out, IntsAt.nil _, Below.refl _ _, fun k h => .inl h⟩
theorem sg_plc {T : List Tk} {id : Int} (h : id ∈ idsK T) : ∃ (q : Nat) (hq : q < T.length), plcL (idsK T) id = (q : Int) ∧ sgT T id = (T[q]'hq).st := by
  have hu := plc_ge.2 h
  obtain ⟨q, hq⟩ : ∃ q : Nat, plcL (idsK T) id = (q : Int) := ⟨(plcL (idsK T) id).toNat, by omega⟩
  obtain ⟨hqT, hst⟩ := stO_plc hq
  exact ⟨q, hqT, hq, by unfold sgT; rw [hst]; rfl⟩
set_option maxHeartbeats 16000000 in
set_option maxRecDepth 100000 in
theorem refEnd24_st (how : Int) (ha : RowsAt W 14 csTk va T) (hl : T.length ≤ 100) (hid : id ∈ idsK T) (h2 : (how < 3 ∧ sgT T id ≠ 2) ∨ endS (sgT T id) = true) :
    Calls Tryz.prog 9 #[va, .int .i64 id, .int .i64 how] W (EndRes va W (endDg T id how)) := by
  obtain ⟨a, c, rfl⟩ := RowsAt.form ha
  rw [endDg_st hid h2]
  obtain ⟨q, hqT, hq, hsg⟩ := sg_plc hid
  have GF0 := refFind23_any (.slice a T.length c) T id W ha (by omega)
  rw [hq] at GF0
  rw [hsg] at h2
  obtain ⟨ga, ok, ck, e, -, -, hx⟩ := RowsAt.spot ha q hqT
  simp only [Value.slice.injEq] at e
  obtain ⟨rfl, -, rfl⟩ := e
  have s9 : W.cell? ⟨ga, ok + q * 14 + 9, none⟩ = some (.int .i64 (T[q]'hqT).st) := hx 9 _ rfl
  have q1 : (q : Int) < (T.length : Int) := by omega
  have q2 : (0 : Int) ≤ (q : Int) := by omega
  have qn : ¬ (q : Int) < 0 := by omega
  generalize (T[q]'hqT).st = s at *
  have GE := Lib.hid (refEnded24_any s W)
  have GF := Lib.hid GF0
  have HA := Lib.hid ha
  generalize endS s = β at *
  clear hid hx hq hsg hqT ha GF0
  by_cases h3 : how < 3
  · by_cases hs : s = 2
    · have hb : β = true := by
        rcases h2 with h | h
        · exact absurd hs h.2
        · exact h
      subst hb
      subst hs
      clear h2
      go_enter Tryz.func9, Tryz.ntmps9
      go_wp2_with (first
        | (go_at_call 17; (with_reducible refine GF.out.mono ?_); rintro e w1 ⟨rfl, rfl⟩)
        | (go_at_call 24; (with_reducible refine GE.out.mono ?_); rintro e w1 ⟨rfl, rfl⟩))
      exact bodyPost_ret (v := .tuple #[.slice (some ⟨ga, ok, none⟩) T.length c, .slice none 0 0, .int .i64 12]) (by simp [results, Tryz.results9, go_sem]) rfl ⟨_, _, rfl, HA.out, IntsAt.nil _, Below.refl _ _, fun k h => .inl h⟩
    · have e2 : (s != 2) = true := by simp [hs]
      clear h2 hs
      go_enter Tryz.func9, Tryz.ntmps9
      go_wp2_with (first
        | (go_at_call 17; (with_reducible refine GF.out.mono ?_); rintro e w1 ⟨rfl, rfl⟩)
        | (go_at_call 24; (with_reducible refine GE.out.mono ?_); rintro e w1 ⟨rfl, rfl⟩))
      exact bodyPost_ret (v := .tuple #[.slice (some ⟨ga, ok, none⟩) T.length c, .slice none 0 0, .int .i64 12]) (by simp [results, Tryz.results9, go_sem]) rfl ⟨_, _, rfl, HA.out, IntsAt.nil _, Below.refl _ _, fun k h => .inl h⟩
  · have hb : β = true := by
      rcases h2 with h | h
      · exact absurd h.1 h3
      · exact h
    subst hb
    clear h2
    go_enter Tryz.func9, Tryz.ntmps9
    go_wp2_with (first
      | (go_at_call 17; (with_reducible refine GF.out.mono ?_); rintro e w1 ⟨rfl, rfl⟩)
      | (go_at_call 24; (with_reducible refine GE.out.mono ?_); rintro e w1 ⟨rfl, rfl⟩))
    exact bodyPost_ret (v := .tuple #[.slice (some ⟨ga, ok, none⟩) T.length c, .slice none 0 0, .int .i64 12]) (by simp [results, Tryz.results9, go_sem]) rfl ⟨_, _, rfl, HA.out, IntsAt.nil _, Below.refl _ _, fun k h => .inl h⟩

set_option maxHeartbeats 16000000 in
set_option maxRecDepth 100000 in
theorem refEnd24_1 (ha : RowsAt W 14 csTk va T) (hI : ∀ t ∈ T, IntsAt W t.sp.v t.sp.aft) (hl : T.length ≤ 100) (h8 : ∀ t ∈ T, t.sp.aft.length ≤ 8) (hid : id ∈ idsK T) (h2 : sgT T id = 2) :
    Calls Tryz.prog 9 #[va, .int .i64 id, .int .i64 1] W (EndRes va W (endDg T id 1)) := by
  obtain ⟨a, c, rfl⟩ := RowsAt.form ha
  rw [endDg_1 hid h2]
  obtain ⟨q, hqT, hq, hsg⟩ := sg_plc hid
  have GF0 := refFind23_any (.slice a T.length c) T id W ha (by omega)
  rw [hq] at GF0
  rw [h2] at hsg
  obtain ⟨ga, ok, ck, e, -, -, hx⟩ := RowsAt.spot ha q hqT
  simp only [Value.slice.injEq] at e
  obtain ⟨rfl, -, rfl⟩ := e
  have s9 : W.cell? ⟨ga, ok + q * 14 + 9, none⟩ = some (.int .i64 (T[q]'hqT).st) := hx 9 _ rfl
  rw [← hsg] at s9
  have q1 : (q : Int) < (T.length : Int) := by omega
  have q2 : (0 : Int) ≤ (q : Int) := by omega
  have qn : ¬ (q : Int) < 0 := by omega
  have GE := Lib.hid (show Calls Tryz.prog 24 #[.int .i64 2] W fun e w' => e = .returned (.bool false) ∧ W = w' from refEnded24_any 2 W)
  have GF := Lib.hid GF0
  have GS := Lib.hid (refSet24_any (.slice (some ⟨ga, ok, none⟩) T.length c) T id 4 W ha (by omega))
  have GFR := Lib.hid fun w' v' (hb : Below W.heap.size W w') (hr : RowsAt w' 14 csTk v' (setsT T [id] 4)) => refFreed24_any v' (setsT T [id] 4) w' hr (setsT_ints fun t ht => (hI t ht).below hb) (by rw [setsT_len]; omega) (setsT_aft8 h8)
  have hfl : (freedT (setsT T [id] 4)).length ≤ 100 := by have := freed_len (setsT T [id] 4); rw [setsT_len] at this; omega
  have h1l : (setsT T [id] 4).length ≤ 100 := by rw [setsT_len]; exact hl
  unfold doneDg
  generalize setsT T [id] 4 = T1 at *
  generalize freedT T1 = free at *
  have HFL := Lib.hid hfl
  have H1L := Lib.hid h1l
  clear hid hx hq hsg hqT ha GF0 h2 hI h8 hfl h1l
  go_enter Tryz.func9, Tryz.ntmps9
  go_wp2_with (first
    | (go_at_call 17; (with_reducible refine GF.out.mono ?_); rintro e w1 ⟨rfl, rfl⟩)
    | (go_at_call 24; (with_reducible refine GE.out.mono ?_); rintro e w1 ⟨rfl, rfl⟩)
    | (go_at_call 25; (with_reducible refine GS.out.mono ?_); rintro e w2 ⟨v2, rfl, h, hb⟩; have HS := Lib.hid (OwnR.rows csTk_len h); have HM2 := Lib.hid (show FromT (.slice (some ⟨ga, ok, none⟩) T.length c) v2 W.heap.size from fun b hb => .inr (World.ownsRow.lt h b hb).1); have HB2 := Lib.hid hb; clear h hb)
    | (go_at_call 26; (with_reducible refine (GFR.out _ _ HB2.out HS.out).mono ?_); rintro e w3 ⟨v3, rfl, h, hb⟩; have HF := Lib.hid h; have HS3 := Lib.hid (RowsAt.kept HS.out hb); have HB3 := Lib.hid (HB2.out.trans (hb.mono HB2.out.size)); clear h hb))
  obtain ⟨fa, fc, e⟩ := (OwnI.ints HF.out).form
  subst e
  clear HS HB2 s9
  have l2 : (free.length : Int) ≤ 100 := by have := HFL.out; omega
  go_loopg [0, 11] free.length (fun kx lv iv ws => ∃ k : Nat, k ≤ free.length ∧ free.length - k ≤ kx ∧ iv = .int .i64 k ∧ Hid (RowsAt ws 14 csTk lv (setsT T1 (free.take k) 2)) ∧ Hid (FromT (.slice (some ⟨ga, ok, none⟩) T.length c) lv W.heap.size) ∧ Hid (Below w3.heap.size w3 ws))
  case atStart => exact ⟨0, Nat.zero_le _, Nat.le_refl _, rfl, by rw [List.take_zero, setsT_nil]; exact HS3.out, HM2.out, Below.refl _ _⟩
  case round =>
    obtain ⟨k, hk, hkx, rfl, HR, HM, HB⟩ := hrel
    obtain ⟨al, cl, e⟩ := RowsAt.form HR.out
    subst e
    by_cases hlt : k < free.length
    · obtain ⟨g5, o5, c5, e, -, -, q0⟩ := ((OwnI.ints HF.out).below HB.out).spot k hlt
      simp only [Value.slice.injEq] at e
      obtain ⟨rfl, -, rfl⟩ := e
      have HLT := Lib.hid (And.intro hlt hkx)
      have k0 : (0 : Int) ≤ (k : Int) := by omega
      have k1 : (k : Int) < (free.length : Int) := by omega
      have htk : setsT (setsT T1 (free.take k) 2) [free[k]'hlt] 2 = setsT T1 (free.take (k + 1)) 2 := by rw [setsT_snoc, List.take_succ_eq_append_getElem hlt]
      have hlen : (setsT T1 (free.take k) 2).length ≤ 1000 := by rw [setsT_len]; have := H1L.out; omega
      generalize free[k]'hlt = n at *
      generalize setsT T1 (free.take k) 2 = Tk1 at *
      have GS2 := Lib.hid (refSet24_any (.slice al Tk1.length cl) Tk1 n 2 wr HR.out hlen)
      rw [htk] at GS2
      clear htk hlen hlt hkx hk
      go_wp2_with (go_at_call 25; (with_reducible refine GS2.out.mono ?_); rintro e w7 ⟨v7, rfl, h, hb⟩; have H7 := Lib.hid (OwnR.rows csTk_len h); have HM7 := Lib.hid (show FromT (.slice (some ⟨ga, ok, none⟩) T.length c) v7 W.heap.size from fun b hb => .inr (Nat.le_trans (Nat.le_trans HB3.out.size HB.out.size) (World.ownsRow.lt h b hb).1)); have HB7 := Lib.hid (HB.out.trans (hb.mono HB.out.size)); clear h hb)
      go_roundg (free.length - (k + 1))
      case measure => have := HLT.out; omega
      case rel => exact ⟨k + 1, by have := HLT.out; omega, Nat.le_refl _, by go_num, H7.out, HM7.out, HB7.out⟩
    · have hke : k = free.length := by omega
      subst hke
      have hr := HR.out
      have hm := HM.out
      rw [List.take_length] at hr hm ⊢
      have HR2 := Lib.hid hr
      have HM9 := Lib.hid hm
      clear hm hr hlt hkx hk HR
      go_wp2
      exact bodyPost_ret (v := .tuple #[.slice al (setsT T1 free 2).length cl, .slice fa free.length fc, .int .i64 0]) (by simp [results, Tryz.results9, go_sem]) rfl ⟨_, _, rfl, HR2.out, (OwnI.ints HF.out).below HB.out, HB3.out.trans (HB.out.mono HB3.out.size), HM9.out⟩
end
end Go.Proofs.YthchkhgimnchcaaGreat
/- Stage 22: the document's Same and SameRules. -/
namespace Go.Proofs.YthchkhgimnchcaaGreat
open Go.RowKit

set_option maxHeartbeats 8000000 in
set_option maxRecDepth 100000 in
theorem refSame22_any (x y : Sp) (w : World) (ha : IntsAt w x.v x.aft) (hb : IntsAt w y.v y.aft) (hl : x.aft.length ≤ 1000) (hl' : y.aft.length ≤ 1000) :
    Calls Tryz.prog 34 #[spv x, spv y] w fun e w' => e = .returned (.bool (sameS x y)) ∧ Below w.heap.size w w' := by
  have hws := plain_ways x y
  unfold sameS
  generalize plainB x y = pb at *
  obtain ⟨id, prio, sk, ge, fx, fy, tx, ty, a, c, l⟩ := x
  obtain ⟨id', prio', sk', ge', fx', fy', tx', ty', a', c', l'⟩ := y
  dsimp only [Sp.v, spv] at *
  have hal1 := (Below.refl w.heap.size w).alloc (Nat.le_refl _) (.cells #[.int .i64 id, .int .i64 prio, .int .u64 sk, .int .u64 ge, .int .i64 fx, .int .i64 fy, .int .i64 tx, .int .i64 ty, .slice a l.length c] 49)
  have hX := boxS w id prio sk ge fx fy tx ty (.slice a l.length c)
  have hI := ha.below hal1
  have hJ := hb.below hal1
  obtain ⟨W1, hW1⟩ : ∃ W1, w.alloc (.cells #[.int .i64 id, .int .i64 prio, .int .u64 sk, .int .u64 ge, .int .i64 fx, .int .i64 fy, .int .i64 tx, .int .i64 ty, .slice a l.length c] 49) = W1 := ⟨_, rfl⟩
  have hsz : W1.heap.size = w.heap.size + 1 := by rw [← hW1]; simp
  rw [hW1] at hal1 hX hI hJ
  have hal2 := (Below.refl W1.heap.size W1).alloc (Nat.le_refl _) (.cells #[.int .i64 id', .int .i64 prio', .int .u64 sk', .int .u64 ge', .int .i64 fx', .int .i64 fy', .int .i64 tx', .int .i64 ty', .slice a' l'.length c'] 49)
  have hY := boxS W1 id' prio' sk' ge' fx' fy' tx' ty' (.slice a' l'.length c')
  rw [hsz] at hY
  have HX := Lib.hid (hX.kept hal2)
  have HY := Lib.hid hY
  have HI := Lib.hid (hI.below hal2)
  have HJ := Lib.hid (hJ.below hal2)
  have HB := Lib.hid (hal1.trans (hal2.mono hal1.size))
  rw [← hW1] at HX HY HI HJ HB
  clear hal1 hX hI hJ hal2 hY hsz hW1 ha hb
  have G := Lib.hid fun w h h2 => refInts_any (.slice a l.length c) (.slice a' l'.length c') l l' w h h2 (by omega) (by omega)
  obtain ⟨t, ht⟩ : ∃ t, decide (l = l') = t := ⟨_, rfl⟩
  rw [ht] at G ⊢
  have c0 := HX.out.cell 0 rfl
  have d0 := HY.out.cell 0 rfl
  have c1 := HX.out.cell 1 rfl
  have d1 := HY.out.cell 1 rfl
  have c2 := HX.out.cell 2 rfl
  have d2 := HY.out.cell 2 rfl
  have c3 := HX.out.cell 3 rfl
  have d3 := HY.out.cell 3 rfl
  have c4 := HX.out.cell 4 rfl
  have d4 := HY.out.cell 4 rfl
  have c5 := HX.out.cell 5 rfl
  have d5 := HY.out.cell 5 rfl
  have c6 := HX.out.cell 6 rfl
  have d6 := HY.out.cell 6 rfl
  have c7 := HX.out.cell 7 rfl
  have d7 := HY.out.cell 7 rfl
  have c8 := HX.out.cell 8 rfl
  have d8 := HY.out.cell 8 rfl
  clear ht
  rcases hws with ⟨rfl, hws⟩ | ⟨rfl, rfl, rfl, rfl, rfl, rfl, rfl, rfl, rfl⟩
  · rcases hws with hne | ⟨rfl, hne⟩ | ⟨rfl, rfl, hne⟩ | ⟨rfl, rfl, rfl, hne⟩ | ⟨rfl, rfl, rfl, rfl, hne⟩ | ⟨rfl, rfl, rfl, rfl, rfl, hne⟩ | ⟨rfl, rfl, rfl, rfl, rfl, rfl, hne⟩ | ⟨rfl, rfl, rfl, rfl, rfl, rfl, rfl, hne⟩
    all_goals
      go_enter Tryz.func34, Tryz.ntmps34
      go_wp2
      go_ret
      exact ⟨rfl, HB.out⟩
  · go_enter Tryz.func34, Tryz.ntmps34
    go_wp2_with (go_at_call 11; (with_reducible refine (G.out _ HI.out HJ.out).mono ?_); rintro e w1 ⟨rfl, hb1⟩; have HB1 := Lib.hid (HB.out.trans (hb1.mono HB.out.size)); clear hb1)
    go_ret
    exact ⟨ret_b (by simp), HB1.out⟩

end Go.Proofs.YthchkhgimnchcaaGreat
/- Stage 24: the document's End, by failing and by calling off; Same. -/
namespace Go.Proofs.YthchkhgimnchcaaGreat
open Go.RowKit

section
variable (va : Value) (T : List Tk) (id : Int) (W : World)
set_option maxHeartbeats 16000000 in
set_option maxRecDepth 100000 in
theorem refEnd24_2 (ha : RowsAt W 14 csTk va T) (hI : ∀ t ∈ T, IntsAt W t.sp.v t.sp.aft) (hl : T.length ≤ 100) (h8 : ∀ t ∈ T, t.sp.aft.length ≤ 8) (hid : id ∈ idsK T) (h2 : sgT T id = 2) :
    Calls Tryz.prog 9 #[va, .int .i64 id, .int .i64 2] W (EndRes va W (endDg T id 2)) := by
  obtain ⟨a, c, rfl⟩ := RowsAt.form ha
  rw [endDg_2 hid h2]
  obtain ⟨q, hqT, hq, hsg⟩ := sg_plc hid
  have GF0 := refFind23_any (.slice a T.length c) T id W ha (by omega)
  rw [hq] at GF0
  rw [h2] at hsg
  obtain ⟨ga, ok, ck, e, -, -, hx⟩ := RowsAt.spot ha q hqT
  simp only [Value.slice.injEq] at e
  obtain ⟨rfl, -, rfl⟩ := e
  have s9 : W.cell? ⟨ga, ok + q * 14 + 9, none⟩ = some (.int .i64 (T[q]'hqT).st) := hx 9 _ rfl
  rw [← hsg] at s9
  have q1 : (q : Int) < (T.length : Int) := by omega
  have q2 : (0 : Int) ≤ (q : Int) := by omega
  have qn : ¬ (q : Int) < 0 := by omega
  have GE := Lib.hid (show Calls Tryz.prog 24 #[.int .i64 2] W fun e w' => e = .returned (.bool false) ∧ W = w' from refEnded24_any 2 W)
  have GF := Lib.hid GF0
  have GS := Lib.hid (refSet24_any (.slice (some ⟨ga, ok, none⟩) T.length c) T id 5 W ha (by omega))
  have GB := Lib.hid fun w' (hb : Below W.heap.size W w') => refBehind24_any (.slice (some ⟨ga, ok, none⟩) T.length c) T id w' (RowsAt.kept ha hb) (fun t ht => (hI t ht).below hb) hl h8
  have GD := Lib.hid fun w' v' u' (hr : RowsAt w' 14 csTk v' (setsT T [id] 5)) (hu : IntsAt w' u' (behindT T id)) => refDrop24_any v' u' (setsT T [id] 5) (behindT T id) w' hr hu (beh_nodup T id) (by rw [setsT_len]; omega) (by have := beh_len T id; omega)
  unfold failDg dropDg
  generalize setsT T [id] 5 = T1 at *
  generalize behindT T id = bh at *
  generalize goneT T1 bh = gn at *
  generalize setsT T1 gn 6 = T2 at *
  clear hid hx hq hsg hqT ha GF0 h2 hI h8
  go_enter Tryz.func9, Tryz.ntmps9
  go_wp2_with (first
    | (go_at_call 17; (with_reducible refine GF.out.mono ?_); rintro e w1 ⟨rfl, rfl⟩)
    | (go_at_call 24; (with_reducible refine GE.out.mono ?_); rintro e w1 ⟨rfl, rfl⟩)
    | (go_at_call 25; (with_reducible refine GS.out.mono ?_); rintro e w2 ⟨v2, rfl, h, hb⟩; have HS := Lib.hid (OwnR.rows csTk_len h); have HM2 := Lib.hid (show FromT (.slice (some ⟨ga, ok, none⟩) T.length c) v2 W.heap.size from fun b hb => .inr (World.ownsRow.lt h b hb).1); have HB2 := Lib.hid hb; clear h hb)
    | (go_at_call 28; (with_reducible refine (GB.out _ HB2.out).mono ?_); rintro e w3 ⟨v3, rfl, h, hb⟩; have HF := Lib.hid h; have HS3 := Lib.hid (RowsAt.kept HS.out hb); have HB3 := Lib.hid (HB2.out.trans (hb.mono HB2.out.size)); clear h hb)
    | (go_at_call 27; (with_reducible refine (GD.out _ _ _ HS3.out (OwnI.ints HF.out)).mono ?_); rintro e w4 ⟨v4, u4, rfl, h, hu, hb, hf⟩; have HR4 := Lib.hid h; have HM4 := Lib.hid (show FromT (.slice (some ⟨ga, ok, none⟩) T.length c) v4 W.heap.size from fun b h1 => (hf b h1).elim (fun h2 => HM2.out b h2) (fun h2 => .inr (Nat.le_trans HB3.out.size h2))); have HU4 := Lib.hid (OwnI.ints hu); have HB4 := Lib.hid (HB3.out.trans (hb.mono HB3.out.size)); clear h hu hb hf))
  exact bodyPost_ret (v := .tuple #[v4, u4, .int .i64 0]) (by simp [results, Tryz.results9, go_sem]) rfl ⟨_, _, rfl, HR4.out, HU4.out, HB4.out, HM4.out⟩
set_option maxHeartbeats 16000000 in
set_option maxRecDepth 100000 in
theorem refEnd24_3 (ha : RowsAt W 14 csTk va T) (hI : ∀ t ∈ T, IntsAt W t.sp.v t.sp.aft) (hl : T.length ≤ 100) (h8 : ∀ t ∈ T, t.sp.aft.length ≤ 8) (hid : id ∈ idsK T) (h2 : endS (sgT T id) = false) :
    Calls Tryz.prog 9 #[va, .int .i64 id, .int .i64 3] W (EndRes va W (endDg T id 3)) := by
  obtain ⟨a, c, rfl⟩ := RowsAt.form ha
  rw [endDg_3 hid h2]
  obtain ⟨q, hqT, hq, hsg⟩ := sg_plc hid
  have GF0 := refFind23_any (.slice a T.length c) T id W ha (by omega)
  rw [hq] at GF0
  rw [hsg] at h2
  obtain ⟨ga, ok, ck, e, -, -, hx⟩ := RowsAt.spot ha q hqT
  simp only [Value.slice.injEq] at e
  obtain ⟨rfl, -, rfl⟩ := e
  have s9 : W.cell? ⟨ga, ok + q * 14 + 9, none⟩ = some (.int .i64 (T[q]'hqT).st) := hx 9 _ rfl
  have q1 : (q : Int) < (T.length : Int) := by omega
  have q2 : (0 : Int) ≤ (q : Int) := by omega
  have qn : ¬ (q : Int) < 0 := by omega
  have GE0 := refEnded24_any (T[q]'hqT).st W
  rw [h2] at GE0
  have GE := Lib.hid GE0
  generalize (T[q]'hqT).st = s at *
  have GF := Lib.hid GF0
  have GB := Lib.hid fun w' (hb : Below W.heap.size W w') => refBehind24_any (.slice (some ⟨ga, ok, none⟩) T.length c) T id w' (RowsAt.kept ha hb) (fun t ht => (hI t ht).below hb) hl h8
  have hbl : (id :: behindT T id).length ≤ 101 := by have := beh_len T id; rw [List.length_cons]; omega
  have GT := Lib.hid fun w' v' (h : IntsAt w' v' (id :: behindT T id)) => refSet_any v' (id :: behindT T id) w' h (by omega)
  have GD := Lib.hid fun w' u' (hb : Below W.heap.size W w') (hu : IntsAt w' u' (setL (id :: behindT T id))) => refDrop24_any (.slice (some ⟨ga, ok, none⟩) T.length c) u' T (setL (id :: behindT T id)) w' (RowsAt.kept ha hb) hu (canc_nodup T id) (by omega) (by have := canc_len T id; omega)
  have hone := OwnI.one24 W id
  have hal := (Below.refl W.heap.size W).alloc (Nat.le_refl _) (.cells #[.int .i64 id] 3)
  have HONE := Lib.hid hone
  have HAL := Lib.hid hal
  have HBL := Lib.hid hbl
  unfold cancDg dropDg
  generalize hbh : behindT T id = bh at *
  generalize hids : setL (id :: bh) = ids at *
  generalize goneT T ids = gn at *
  generalize setsT T gn 6 = T2 at *
  obtain ⟨i0, hi, hz0, hz1, hz2⟩ := info_parts info_int
  clear hid hx hq hsg hqT ha GF0 GE0 h2 hI h8 hone hal hbl hbh hids
  go_enter Tryz.func9, Tryz.ntmps9
  go_wp2_with (first
    | (go_at_call 17; (with_reducible refine GF.out.mono ?_); rintro e w1 ⟨rfl, rfl⟩)
    | (go_at_call 24; (with_reducible refine GE.out.mono ?_); rintro e w1 ⟨rfl, rfl⟩)
    | (go_at_call 28; (with_reducible refine (GB.out _ HAL.out).mono ?_); rintro e w3 ⟨v3, rfl, h, hb⟩; have HF := Lib.hid h; have HO3 := Lib.hid (OwnR.kept HONE.out hb); have HB3 := Lib.hid (HAL.out.trans (hb.mono HAL.out.size)); clear h hb)
    | (at_builtin; refine wpList_append_rows csI_len (by decide) csI_one13 rfl _ _ 32 rfl W.heap.size 3 i0 (.int .i64 0) 8 Tryz.underlying32 hi hz0 hz1 hz2 rfl (.slice (some ⟨W.heap.size, 0, none⟩) 1 1) [id] rfl HO3.out _ bh rfl (OwnR.rows csI_len HF.out) (by have := HBL.out; unfold maxLen; simp at this ⊢; omega) (by have := HBL.out; simp at this ⊢; omega) HB3.out.size ?_; intro v6 w6 o6 g6; have HO6 := Lib.hid (OwnI.ints (show OwnI w6 W.heap.size v6 (id :: bh) from o6)); have HB6 := Lib.hid (OwnR.below HO3.out HB3.out HB3.out.size g6); clear o6 g6)
    | (go_at_call 29; (with_reducible refine (GT.out _ _ HO6.out).mono ?_); rintro e w7 ⟨v7, rfl, h, hb⟩; have H7 := Lib.hid (OwnI.ints h); have HB7 := Lib.hid (HB6.out.trans (hb.mono HB6.out.size)); clear h hb)
    | (go_at_call 27; (with_reducible refine (GD.out _ _ HB7.out H7.out).mono ?_); rintro e w8 ⟨v8, u8, rfl, h, hu, hb, hf⟩; have HR8 := Lib.hid h; have HM8 := Lib.hid (show FromT (.slice (some ⟨ga, ok, none⟩) T.length c) v8 W.heap.size from fun b h1 => (hf b h1).elim .inl (fun h2 => .inr (Nat.le_trans HB7.out.size h2))); have HU8 := Lib.hid (OwnI.ints hu); have HB8 := Lib.hid (HB7.out.trans (hb.mono HB7.out.size)); clear h hu hb hf))
  exact bodyPost_ret (v := .tuple #[v8, u8, .int .i64 0]) (by simp [results, Tryz.results9, go_sem]) rfl ⟨_, _, rfl, HR8.out, HU8.out, HB8.out, HM8.out⟩
theorem refEnd24_any (how : Int) (hk : how = 1 ∨ how = 2 ∨ how = 3) (ha : RowsAt W 14 csTk va T) (hI : ∀ t ∈ T, IntsAt W t.sp.v t.sp.aft) (hl : T.length ≤ 100) (h8 : ∀ t ∈ T, t.sp.aft.length ≤ 8) :
    Calls Tryz.prog 9 #[va, .int .i64 id, .int .i64 how] W (EndRes va W (endDg T id how)) := by
  by_cases hid : id ∈ idsK T
  · by_cases h2 : (how < 3 ∧ sgT T id ≠ 2) ∨ endS (sgT T id) = true
    · exact refEnd24_st va T id W how ha hl hid h2
    · have h3 : endS (sgT T id) = false := by
        cases h : endS (sgT T id)
        · rfl
        · exact absurd (.inr h) h2
      have h4 : how < 3 → sgT T id = 2 := fun hl => Decidable.byContradiction fun h => h2 (.inl ⟨hl, h⟩)
      rcases hk with rfl | rfl | rfl
      · exact refEnd24_1 va T id W ha hI hl h8 hid (h4 (by omega))
      · exact refEnd24_2 va T id W ha hI hl h8 hid (h4 (by omega))
      · exact refEnd24_3 va T id W ha hI hl h8 hid h3
  · exact refEnd24_no va T id W how ha hl hid
end
end Go.Proofs.YthchkhgimnchcaaGreat
/- Stage 24: the document's Same, where both rows are the same. -/
namespace Go.Proofs.YthchkhgimnchcaaGreat
open Go.RowKit

set_option maxHeartbeats 16000000 in
set_option maxRecDepth 100000 in
theorem refSame24_any (va vb : Value) (V T : List Tk) (W : World) (hV : RowsAt W 14 csTk va V) (hT : RowsAt W 14 csTk vb T) (hVI : ∀ t ∈ V, IntsAt W t.sp.v t.sp.aft) (hTI : ∀ t ∈ T, IntsAt W t.sp.v t.sp.aft) (hp : V.map plK = T.map plK) (hl : T.length ≤ 1000) (h8 : ∀ t ∈ T, t.sp.aft.length ≤ 8) :
    Calls Tryz.prog 12 #[va, vb] W fun e w' => e = .returned (.bool true) ∧ Below W.heap.size W w' := by
  have hlen := plK_len hp
  obtain ⟨a, c, rfl⟩ := RowsAt.form hV
  obtain ⟨b, d, rfl⟩ := RowsAt.form hT
  have HV := Lib.hid hV
  have HT := Lib.hid hT
  have HVI := Lib.hid hVI
  have HTI := Lib.hid hTI
  have HP := Lib.hid hp
  have H8 := Lib.hid h8
  rw [hlen]
  have HLEN := Lib.hid hlen
  have l2 : (T.length : Int) ≤ 1000 := by omega
  clear hV hT hVI hTI hp h8 hl hlen
  go_enter Tryz.func12, Tryz.ntmps12
  go_wp2
  go_loopg [5] T.length (fun kx iv ws => ∃ k : Nat, k ≤ T.length ∧ T.length - k ≤ kx ∧ iv = .int .i64 k ∧ Hid (Below W.heap.size W ws))
  case atStart => exact ⟨0, Nat.zero_le _, Nat.le_refl _, rfl, Below.refl _ _⟩
  case round =>
    obtain ⟨k, hk, hkx, rfl, HB⟩ := hrel
    by_cases hlt : k < T.length
    · have hltV : k < V.length := by have := HLEN.out; omega
      obtain ⟨g, o, cc, id, prio, sk, ge, fx, fy, tx, ty, xa, xc, l, s, q1, q2, q3, q4, q5, q6, he, e, -, p0, p1, p2, p3, p4, p5, p6, p7, p8, p9, -, -, -, -⟩ := tks_spot (RowsAt.kept HV.out HB.out) k hltV
      simp only [Value.slice.injEq] at e
      obtain ⟨rfl, -, rfl⟩ := e
      obtain ⟨g', o', cc', id', prio', sk', ge', fx', fy', tx', ty', ya, yc, l', s', z1, z2, z3, z4, z5, z6, he', e, -, r0, r1, r2, r3, r4, r5, r6, r7, r8, r9, -, -, -, -⟩ := tks_spot (RowsAt.kept HT.out HB.out) k hlt
      simp only [Value.slice.injEq] at e
      obtain ⟨rfl, -, rfl⟩ := e
      have hpl : plK V[k] = plK T[k] := by
        have h1 : (V.map plK)[k]'(by rw [List.length_map]; exact hltV) = (T.map plK)[k]'(by rw [List.length_map]; exact hlt) := by simp only [HP.out]
        simpa using h1
      have hi1 := HVI.out _ (List.getElem_mem hltV)
      have hi2 := HTI.out _ (List.getElem_mem hlt)
      have hl8 := H8.out _ (List.getElem_mem hlt)
      rw [he] at hi1
      rw [he'] at hi2 hl8
      rw [he, he'] at hpl
      simp only [plK, mkK, Tk.mk.injEq, Sp.mk.injEq, true_and, and_true] at hpl
      dsimp only [Sp.v] at hi1 hi2 hl8
      obtain ⟨⟨rfl, rfl, rfl, rfl, rfl, rfl, rfl, rfl, rfl⟩, rfl⟩ := hpl
      have GS := Lib.hid (show ∀ w', Below wr.heap.size wr w' → Calls Tryz.prog 34 #[.agg #[.int .i64 id, .int .i64 prio, .int .u64 sk, .int .u64 ge, .int .i64 fx, .int .i64 fy, .int .i64 tx, .int .i64 ty, .slice xa l.length xc], .agg #[.int .i64 id, .int .i64 prio, .int .u64 sk, .int .u64 ge, .int .i64 fx, .int .i64 fy, .int .i64 tx, .int .i64 ty, .slice ya l.length yc]] w' fun e w'' => e = .returned (.bool true) ∧ Below w'.heap.size w' w'' from fun w' hb => by
        have h1 := refSame22_any ⟨id, prio, sk, ge, fx, fy, tx, ty, xa, xc, l⟩ ⟨id, prio, sk, ge, fx, fy, tx, ty, ya, yc, l⟩ w' ((hi1.below HB.out).below hb) ((hi2.below HB.out).below hb) (by show l.length ≤ 1000; omega) (by show l.length ≤ 1000; omega)
        rw [show sameS ⟨id, prio, sk, ge, fx, fy, tx, ty, xa, xc, l⟩ ⟨id, prio, sk, ge, fx, fy, tx, ty, ya, yc, l⟩ = true from by simp [sameS, plainB]] at h1
        exact h1)
      have HLT := Lib.hid (And.intro hlt hkx)
      have k0 : (0 : Int) ≤ (k : Int) := by omega
      have k1 : (k : Int) < (T.length : Int) := by omega
      clear hi1 hi2 hl8 he he' hlt hkx hk hltV
      go_upto_region 6 with fail
      refine wp_region_calm0 (by kernel_rfl) (by kernel_rfl) fun M => ?_
      have m0 := fun n : In M.w => n.cell (M.cell p0)
      have m1 := fun n : In M.w => n.cell (M.cell p1)
      have m2 := fun n : In M.w => n.cell (M.cell p2)
      have m3 := fun n : In M.w => n.cell (M.cell p3)
      have m4 := fun n : In M.w => n.cell (M.cell p4)
      have m5 := fun n : In M.w => n.cell (M.cell p5)
      have m6 := fun n : In M.w => n.cell (M.cell p6)
      have m7 := fun n : In M.w => n.cell (M.cell p7)
      have m8 := fun n : In M.w => n.cell (M.cell p8)
      have m9 := fun n : In M.w => n.cell (M.cell p9)
      have n0 := fun n : In M.w => n.cell (M.cell r0)
      have n1 := fun n : In M.w => n.cell (M.cell r1)
      have n2 := fun n : In M.w => n.cell (M.cell r2)
      have n3 := fun n : In M.w => n.cell (M.cell r3)
      have n4 := fun n : In M.w => n.cell (M.cell r4)
      have n5 := fun n : In M.w => n.cell (M.cell r5)
      have n6 := fun n : In M.w => n.cell (M.cell r6)
      have n7 := fun n : In M.w => n.cell (M.cell r7)
      have n8 := fun n : In M.w => n.cell (M.cell r8)
      have n9 := fun n : In M.w => n.cell (M.cell r9)
      have mS := fun n : In M.w => GS.out n.w (M.h.trans (n.h.mono M.h.size))
      repeat (go_big_quiet_step ((go_at_call 34; with_reducible exact In.call (mS _))))
      refine wpQuiet_nil ?_
      intro w5 hb5
      have HB5 := Lib.hid (HB.out.trans (hb5.mono HB.out.size))
      clear m0 m1 m2 m3 m4 m5 m6 m7 m8 m9 n0 n1 n2 n3 n4 n5 n6 n7 n8 n9 mS M hb5 p0 p1 p2 p3 p4 p5 p6 p7 p8 p9 r0 r1 r2 r3 r4 r5 r6 r7 r8 r9 GS HB
      go_wp2
      go_roundg (T.length - (k + 1))
      case measure => have := HLT.out; omega
      case rel => exact ⟨k + 1, by have := HLT.out; omega, Nat.le_refl _, by go_num, HB5.out⟩
    · have hke : k = T.length := by omega
      subst hke
      clear hlt hkx hk
      go_wp2
      go_ret
      exact ⟨rfl, HB.out⟩

/-! ### What an act keeps -/
theorem setsT_P {P : Sp → Prop} {T : List Tk} (h : ∀ t ∈ T, P t.sp) (ids : List Int) (s : Int) : ∀ t ∈ setsT T ids s, P t.sp := fun t ht => by
  obtain ⟨u, hu, rfl⟩ := setsT_mem.1 ht
  have := h u hu
  split <;> exact this
theorem end_P {P : Sp → Prop} {T : List Tk} (h : ∀ t ∈ T, P t.sp) (id how : Int) : ∀ t ∈ (endDg T id how).1, P t.sp := by
  unfold endDg
  split
  · split
    · exact h
    · split
      · exact setsT_P (setsT_P h _ _) _ _
      · split
        · exact setsT_P (setsT_P h _ _) _ _
        · exact setsT_P h _ _
  · exact h
theorem adm_P {P : Sp → Prop} {T : List Tk} (h : ∀ t ∈ T, P t.sp) (room : Int) {L : List Sp} (hL : ∀ x ∈ L, P x) : ∀ t ∈ (admDg room T L).1, P t.sp := by
  unfold admDg
  split
  · intro t ht
    rcases admT_mem.1 ht with h1 | ⟨x, hx, rfl⟩
    · exact h t h1
    · exact hL x hx
  · exact h
theorem gone_len (T : List Tk) (ids : List Int) : (goneT T ids).length ≤ ids.length := List.length_filter_le _ _
theorem end_len (T : List Tk) (id how : Int) : (endDg T id how).2.1.length ≤ T.length + 1 := by
  unfold endDg
  split
  · split
    · exact Nat.zero_le _
    · split
      · have := freed_len (setsT T [id] 4)
        rw [setsT_len] at this
        exact Nat.le_succ_of_le this
      · split
        · exact Nat.le_succ_of_le (Nat.le_trans (gone_len _ _) (beh_len T id))
        · exact Nat.le_trans (gone_len _ _) (canc_len T id)
  · exact Nat.zero_le _
theorem adm_len (room : Int) (T : List Tk) (L : List Sp) : (admDg room T L).2.1.length ≤ L.length := by
  unfold admDg
  split
  · exact freeO_len T L
  · exact Nat.zero_le _
end Go.Proofs.YthchkhgimnchcaaGreat
/- Lists of specs, lists of tasks that come in, opened. FOR ALL LATER STAGES. -/
namespace Go.Proofs.YthchkhgimnchcaaGreat
open Go.RowKit Go.ChangeShapes Go.WideShapes Go.Joins Go.Deep

set_option maxRecDepth 100000 in
theorem open_specs {H : Type} {enc : TypeId × Value → H} {w : World} {base : Nat} {v : Value} {d : DataW H} {p : List MemPlace} (hok : Value.okWide Tryz.prog w .any base 29 v) (h : DataW.Trod enc Tryz.prog w 0 (fun _ => true) true 29 v d p) :
    ∃ l : List Sp, SpsAt w v l ∧ l.length ≤ 9223372036854775807 ∧ ∀ x ∈ l, x.In := by
  obtain ⟨l, h1, h2, h3⟩ := open_rows csSp (fun x => IntsAt w x.v x.aft ∧ x.In) Tryz.underlying29 cells_spec (by decide) (fun _ _ _ hl h => trod_spec hl h) hok h
  exact ⟨l, ⟨h1, fun x hx => (h3 x hx).1⟩, h2, fun x hx => (h3 x hx).2⟩

theorem trod_six {P : Program} {H : Type} {enc : TypeId × Value → H} {w : World} {base : Nat} {spare : Nat → Bool} {held : Bool} {t : TypeId} {f0 f1 f2 f3 f4 f5 : Field} {fuel : Nat} {cs : List Value} {x : DataW H × List MemPlace} (ht : P.underlying t = some (.struct #[f0, f1, f2, f3, f4, f5])) (h : DataW.trod enc P w base spare held fuel t cs = some x) :
    ∃ y0 y1 y2 y3 y4 y5 n, DataW.trod enc P w base spare held n f0.type ((cs.drop f0.offset).take (P.cellsOf f0.type)) = some y0 ∧
      DataW.trod enc P w base spare held n f1.type ((cs.drop f1.offset).take (P.cellsOf f1.type)) = some y1 ∧
      DataW.trod enc P w base spare held n f2.type ((cs.drop f2.offset).take (P.cellsOf f2.type)) = some y2 ∧
      DataW.trod enc P w base spare held n f3.type ((cs.drop f3.offset).take (P.cellsOf f3.type)) = some y3 ∧
      DataW.trod enc P w base spare held n f4.type ((cs.drop f4.offset).take (P.cellsOf f4.type)) = some y4 ∧
      DataW.trod enc P w base spare held n f5.type ((cs.drop f5.offset).take (P.cellsOf f5.type)) = some y5 := by
  obtain ⟨xs, n, _, rfl, hl, hlen, hf⟩ := DataW.trod_struct ht h
  match xs, hlen with
  | [y0, y1, y2, y3, y4, y5], _ => exact ⟨y0, y1, y2, y3, y4, y5, n, by simpa using hf 0 f0 rfl, by simpa using hf 1 f1 rfl, by simpa using hf 2 f2 rfl, by simpa using hf 3 f3 rfl, by simpa using hf 4 f4 rfl, by simpa using hf 5 f5 rfl⟩
theorem list14 {α : Type} {l : List α} (h : l.length = 14) : ∃ m a b c d e, m.length = 9 ∧ l = m ++ [a, b, c, d, e] := by
  match l, h with
  | [x0, x1, x2, x3, x4, x5, x6, x7, x8, a, b, c, d, e], _ => exact ⟨[x0, x1, x2, x3, x4, x5, x6, x7, x8], a, b, c, d, e, rfl, rfl⟩
theorem cells_task : Tryz.prog.cellsOf 51 = 14 := by kernel_rfl
structure Tk.In (x : Tk) : Prop where
  sp : x.sp.In
  st : In64 x.st
  seq : In64 x.seq
  since : In64 x.since
  lost : In64 x.lost
  len : x.burnt.length ≤ 9223372036854775807
  burnt : ∀ n ∈ x.burnt, In64 n
set_option maxRecDepth 100000 in
theorem trod_task {H : Type} {enc : TypeId × Value → H} {w : World} {fuel : Nat} {cs : List Value} {x : DataW H × List MemPlace} (hl : cs.length = 14) (h : DataW.trod enc Tryz.prog w 0 (fun _ => true) true fuel 51 cs = some x) : ∃ a : Tk, cs = csTk a ∧ IntsAt w a.sp.v a.sp.aft ∧ IntsAt w (.slice a.ba a.burnt.length a.bc) a.burnt ∧ a.In := by
  obtain ⟨m, c9, c10, c11, c12, c13, hm, rfl⟩ := list14 hl
  obtain ⟨y0, y1, y2, y3, y4, y5, k, h0, h1, h2, h3, h4, h5⟩ := trod_six Tryz.underlying51 h
  obtain ⟨d0, d1, d2, d3, d4, d5, d6, d7, d8, rfl⟩ := list9 hm
  simp only [cells_spec, cells_int_pt, cells_ints, List.cons_append, List.nil_append, List.drop_zero, List.take_succ_cons, List.take_zero, List.drop_succ_cons] at h0 h1 h2 h3 h4 h5
  obtain ⟨sp, e0, hi, hin⟩ := trod_spec rfl h0
  obtain ⟨b, e1, _, w1⟩ := DataW.trod_int Tryz.underlying3 h1
  obtain ⟨c, e2, _, w2⟩ := DataW.trod_int Tryz.underlying3 h2
  obtain ⟨d, e3, _, w3⟩ := DataW.trod_int Tryz.underlying3 h3
  obtain ⟨e, e4, _, w4⟩ := DataW.trod_int Tryz.underlying3 h4
  obtain ⟨s, len, cap, l, e5, hr, hlen, hw⟩ := open_rows_good csI In64 Tryz.underlying32 cells_int_pt (by decide) (by
    intro n xs x _ hx
    obtain ⟨a, e0, _, wa⟩ := DataW.trod_int Tryz.underlying3 hx
    exact ⟨a, e0, in64_of_wf wa⟩) h5
  simp at e1 e2 e3 e4 e5
  subst e1 e2 e3 e4 e5
  obtain ⟨s', c', e9⟩ := RowsAt.form hr
  cases e9
  refine ⟨⟨sp, b, c, d, e, s, cap, l⟩, ?_, hi, RowsAt.ints hr, hin, in64_of_wf w1, in64_of_wf w2, in64_of_wf w3, in64_of_wf w4, hlen, hw⟩
  rw [e0]
  rfl
set_option maxRecDepth 100000 in
theorem open_tasks {H : Type} {enc : TypeId × Value → H} {w : World} {base : Nat} {v : Value} {d : DataW H} {p : List MemPlace} (hok : Value.okWide Tryz.prog w .any base 28 v) (h : DataW.Trod enc Tryz.prog w 0 (fun _ => true) true 28 v d p) :
    ∃ l : List Tk, RowsAt w 14 csTk v l ∧ l.length ≤ 9223372036854775807 ∧ ∀ x ∈ l, (IntsAt w x.sp.v x.sp.aft ∧ IntsAt w (.slice x.ba x.burnt.length x.bc) x.burnt) ∧ x.In := by
  obtain ⟨l, h1, h2, h3⟩ := open_rows csTk (fun x => (IntsAt w x.sp.v x.sp.aft ∧ IntsAt w (.slice x.ba x.burnt.length x.bc) x.burnt) ∧ x.In) Tryz.underlying28 cells_task (by decide) (fun _ _ _ hl h => by
    obtain ⟨a, e, g1, g2, g3⟩ := trod_task hl h
    exact ⟨a, e, ⟨g1, g2⟩, g3⟩) hok h
  exact ⟨l, h1, h2, h3⟩
end Go.Proofs.YthchkhgimnchcaaGreat
/- Acts of layer 24 that come in, opened: each with a list of specs, each with a list of numbers. -/
namespace Go.Proofs.YthchkhgimnchcaaGreat
open Go.RowKit Go.ChangeShapes Go.WideShapes Go.Joins Go.Deep

theorem cells_act24 : Tryz.prog.cellsOf 31 = 3 := by kernel_rfl
theorem cells_int_a24 : Tryz.prog.cellsOf 3 = 1 := by kernel_rfl
theorem cells_specs_a24 : Tryz.prog.cellsOf 29 = 1 := by kernel_rfl
theorem list3_a24 {α : Type} {l : List α} (h : l.length = 3) : ∃ a b c, l = [a, b, c] := by
  match l, h with
  | [a, b, c], _ => exact ⟨a, b, c, rfl⟩
set_option maxRecDepth 100000 in
theorem trod_act24 {H : Type} {enc : TypeId × Value → H} {w : World} {fuel : Nat} {cs : List Value} {x : DataW H × List MemPlace} (hl : cs.length = 3) (h : DataW.trod enc Tryz.prog w 0 (fun _ => true) true fuel 31 cs = some x) : ∃ a : Da, cs = csDa a ∧ SpsAt w a.v a.batch ∧ In64 a.id ∧ ∀ y ∈ a.batch, y.In := by
  obtain ⟨c0, c1, c2, rfl⟩ := list3_a24 hl
  obtain ⟨y0, y1, y2, k, _, _, h0, h1, h2⟩ := trod_struct3 Tryz.underlying31 h
  simp only [cells_int_a24, cells_specs_a24, List.drop_zero, List.take_succ_cons, List.take_zero, List.drop_succ_cons] at h0 h1 h2
  obtain ⟨a, e0, _, wa⟩ := DataW.trod_int Tryz.underlying3 h0
  obtain ⟨b, e1, _, wb⟩ := DataW.trod_int Tryz.underlying3 h1
  obtain ⟨s, len, cap, l, e2, hr, hlen, hw⟩ := open_rows_good csSp (fun x => IntsAt w x.v x.aft ∧ x.In) Tryz.underlying29 cells_spec (by decide) (by
    intro n xs x hl hx
    obtain ⟨a, e0, hi, hin⟩ := trod_spec hl hx
    exact ⟨a, e0, hi, hin⟩) h2
  simp at e0 e1 e2
  subst e0 e1 e2
  obtain ⟨s', c', e3⟩ := RowsAt.form hr
  cases e3
  exact ⟨⟨a, b, s, cap, l⟩, rfl, ⟨hr, fun x hx => (hw x hx).1⟩, in64_of_wf wb, fun y hy => (hw y hy).2⟩
set_option maxRecDepth 100000 in
theorem open_acts24 {H : Type} {enc : TypeId × Value → H} {w : World} {base : Nat} {v : Value} {d : DataW H} {p : List MemPlace} (hok : Value.okWide Tryz.prog w .any base 22 v) (h : DataW.Trod enc Tryz.prog w 0 (fun _ => true) true 22 v d p) :
    ∃ l : List Da, DasAt w v l ∧ l.length ≤ 9223372036854775807 ∧ ∀ a ∈ l, I64 a.id ∧ ∀ y ∈ a.batch, y.In := by
  obtain ⟨l, h1, h2, h3⟩ := open_rows csDa (fun a => SpsAt w a.v a.batch ∧ In64 a.id ∧ ∀ y ∈ a.batch, y.In) Tryz.underlying22 cells_act24 (by decide) (fun _ _ _ hl h => trod_act24 hl h) hok h
  exact ⟨l, ⟨h1, fun a ha => (h3 a ha).1⟩, h2, fun a ha => (h3 a ha).2⟩
end Go.Proofs.YthchkhgimnchcaaGreat
/- Stage 24: what DagDoes' walk and frame stand on. -/
