/- Stage 25's program: slices.Insert at entries; New, Add. -/
import Derived.Test.YtlgemfgikdaelaaRsA
import Derived.Test.YtlgemfgikdaelaaInsK
import Derived.Lib.MinMax
import Derived.Shelf.RegionOpenPlain
namespace Go.Proofs.Ytlgemfgikdaelaa
open Go.RowKit Go.ChangeShapes Go.WideShapes Go.Joins Go.Deep

theorem info_entry : (Try.prog.info? 68).map (fun i => (i.zero, i.size, i.bytes)) = some (some (.agg #[.int .i64 0, .int .u64 0, .bool false, .bool false]), 4, 32) := by kernel_rfl
theorem min_r {a b : Nat} (h : b ≤ a) : Nat.min a b = b := Nat.min_eq_right h
theorem min_l {a b : Nat} (h : a ≤ b) : Nat.min a b = a := Nat.min_eq_left h
/-- what slices.Insert hands back -/
def InsR (w : World) (v : Value) (L' : List En) (e : Ending) (w' : World) : Prop :=
  ∃ v', e = .returned v' ∧ OwnO w' 4 csEn v' L' ∧ w.grownBy w' v.ownBlock ∧ (v'.ownBlock = v.ownBlock ∨ v'.ownBlock = some w.heap.size)

set_option maxHeartbeats 4000000 in
set_option maxRecDepth 100000 in
theorem rIns_end {w : World} {v : Value} {L : List En} (h : OwnO w 4 csEn v L) (x : En) (hl : L.length ≤ 1000) (vx : Value) (hx : RowsAt w 4 csEn vx [x]) :
    Calls Try.prog 37 #[v, .int .i64 (L.length : Int), vx] w (InsR w v (L ++ [x])) := by
  obtain ⟨i0, hi0, hz0, hz1, hz2⟩ := info_parts info_entry
  have HO := Lib.hid h
  have HX := Lib.hid hx
  have hcap : ∃ a c, v = .slice a L.length c ∧ L.length ≤ c := by
    rcases h with ⟨rfl, rfl⟩ | ⟨g, o, c, rfl, _, hc, _⟩
    · exact ⟨_, _, rfl, Nat.le_refl _⟩
    · exact ⟨_, _, rfl, hc⟩
  obtain ⟨a, c, rfl, hc⟩ := hcap
  obtain ⟨xa, xc, rfl⟩ := RowsAt.form hx
  have HLL := Lib.hid hl
  have c1 : (L.length : Int) ≤ (c : Int) := by omega
  have c2 : (L.length : Int) ≤ 1000 := by omega
  clear h hx hl
  by_cases hcl : c = L.length
  all_goals (try subst hcl)
  all_goals
   go_enter Try.func37, Try.ntmps37
   go_wp2_with (at_builtin; refine wpList_append_o rfl _ _ _ _ rfl csEn_len (by decide) csEn_one 68 68 i0 (.agg #[.int .i64 0, .int .u64 0, .bool false, .bool false]) Try.underlying62 Try.underlying62 hi0 hz0 hz1 rfl rfl HO.out _ [x] rfl HX.out (by have := HLL.out; unfold maxLen; simp; omega) (by have := HLL.out; rw [hz2]; simp; omega) ?_; intro v7 w7 h1 h2 h3; have K1 := Lib.hid h1; have K2 := Lib.hid (show w.grownBy w7 (Value.slice a L.length _).ownBlock from h2); have K3 := Lib.hid (show v7.ownBlock = (Value.slice a L.length _).ownBlock ∨ v7.ownBlock = some w.heap.size from h3); clear h1 h2 h3)
   all_goals (go_ret; exact ⟨_, rfl, K1.out, K2.out, K3.out⟩)

set_option maxHeartbeats 4000000 in
set_option maxRecDepth 100000 in
theorem rIns_room {w : World} {g o c : Nat} {L : List En} (x : En) (i : Nat) (hi : i < L.length) (hl : L.length ≤ 1000) (hg : g < w.heap.size) (hc : L.length + 1 ≤ c) (hcm : c ≤ maxLen)
    (h1 : ∀ j, j < L.length * 4 → w.cell? ⟨g, o + j, none⟩ = (flats csEn L)[j]?) (h2 : ∀ j, j < c * 4 → (w.cell? ⟨g, o + j, none⟩).isSome = true ∧ w.frozen? ⟨g, o + j, none⟩ = false)
    (vb : Nat) (t : TypeId) (hvb : w.heap[vb]? = some (.cells (csEn x).toArray t (0, 0))) (hne : vb ≠ g) :
    Calls Try.prog 37 #[.slice (some ⟨g, o, none⟩) L.length c, .int .i64 (i : Int), .slice (some ⟨vb, 0, none⟩) 1 1] w
      (InsR w (.slice (some ⟨g, o, none⟩) L.length c) (L.take i ++ x :: L.drop i)) := by
  obtain ⟨i0, hi0, hz0, hz1, hz2⟩ := info_parts info_entry
  have hfl := flats_length csEn_len L
  have hdl : (flats csEn (L.drop i)).length = (L.length - i) * 4 := by rw [flats_length csEn_len, List.length_drop]
  obtain ⟨tB, kB, hsb, hkB, _⟩ := World.shape?_of_cell? (a := ⟨g, o, none⟩) (Option.isSome_iff_exists.1 (h2 0 (by omega)).1).choose_spec
  have hxc : ∀ j u, (csEn x)[j]? = some u → w.cell? ⟨vb, 0 + j, none⟩ = some u := fun j u hu => by
    rw [Nat.zero_add]
    simp [World.cell?, hvb, hu]
  have hsa : w.shape? vb = some (t, 4) := by simp [World.shape?, hvb, csEn]
  have hfz : ∀ j, w.frozen? ⟨vb, j, none⟩ = false := fun j => by simp [World.frozen?, hvb]
  have hov : ∀ lb cb, (callFunc 42 #[.slice (some ⟨vb, 0, none⟩) 1 1, .slice (some ⟨g, o + (i + 1) * 4, none⟩) lb cb]).run Try.prog w = .ok (.value (.bool false)) w := fun lb cb => by
    rw [run_callFunc_extern Try.func42 (by kernel_rfl) (by kernel_rfl) (by kernel_rfl) (e := Extern.SlicesOverlaps.overlaps #[62, 62] #[4]) (by kernel_rfl),
      Lib.run_overlaps_apart w 62 4 68 Try.underlying62 4 (fun w => by simp [sizeOf, typeInfo, hi0, hz1]) ⟨vb, 0, none⟩ ⟨g, o + (i + 1) * 4, none⟩ 1 1 lb cb hne t tB 4 kB hsa hsb (by have : o < kB := hkB; omega) (hfz 0) (hfz 4)]
    rfl
  have hcp1 : ∀ ty dc sc, (Builtin.copy_ #[62, 62] ty #[.slice (some ⟨g, o + (i + 1) * 4, none⟩) (L.length - i) dc, .slice (some ⟨g, o + i * 4, none⟩) (L.length + 1 - i) sc]).run Try.prog w.drew =
      .ok (goInt (Nat.min (L.length + 1 - i) (L.length - i))) (w.drew.setCells g (o + (i + 1) * 4) (flats csEn (L.drop i))) := fun ty dc sc =>
    run_copy_k w.drew _ _ ty 68 i0 g (o + (i + 1) * 4) _ dc ⟨g, o + i * 4, none⟩ _ sc _ Try.underlying62 hi0 (by rw [hdl, hz1, min_r (show L.length - i ≤ L.length + 1 - i by omega)])
      (fun j u hj => by
        rw [add_plain, Nat.add_assoc]
        have hlt := (List.getElem?_eq_some_iff.1 hj).1
        refine (h1 (i * 4 + j) (by omega)).trans ?_
        rw [flats_split L i, List.getElem?_append_right (by rw [flats_length csEn_len, List.length_take]; omega), flats_length csEn_len, List.length_take, Nat.min_eq_left (by omega)]
        rw [show i * 4 + j - i * 4 = j by omega]
        exact hj)
      (fun j hj => by rw [Nat.add_assoc]; exact (h2 _ (by omega)).1) (fun j hj => by rw [Nat.add_assoc]; exact (h2 _ (by omega)).2)
      (fun u hu => by
        obtain ⟨y, _, hy⟩ := List.mem_flatMap.1 hu
        exact csEn_one y u hy)
  obtain ⟨W1, hW1⟩ : ∃ W1, W1 = w.drew.setCells g (o + (i + 1) * 4) (flats csEn (L.drop i)) := ⟨_, rfl⟩
  have s1 : ∀ j, j < (flats csEn (L.drop i)).length → (w.drew.cell? ⟨g, o + (i + 1) * 4 + j, none⟩).isSome = true := fun j hj => by rw [Nat.add_assoc]; exact (h2 _ (by omega)).1
  have hcp2 : ∀ (W : World), (∀ a, W.cell? a = W1.cell? a) → (∀ a, W.frozen? a = W1.frozen? a) → ∀ ty dc, (Builtin.copy_ #[62, 62] ty #[.slice (some ⟨g, o + i * 4, none⟩) (L.length + 1 - i) dc, .slice (some ⟨vb, 0, none⟩) 1 1]).run Try.prog W = .ok (goInt (Nat.min 1 (L.length + 1 - i))) (W.setCells g (o + i * 4) (csEn x)) := fun W hWc hWf ty dc =>
    run_copy_k W _ _ ty 68 i0 g (o + i * 4) _ dc ⟨vb, 0, none⟩ _ 1 _ Try.underlying62 hi0 (by rw [csEn_len, hz1, min_l (show 1 ≤ L.length + 1 - i by omega)])
      (fun j u hj => by
        rw [add_plain, hWc, hW1, World.cell?_setCells_out g _ _ _ _ (fun h _ => absurd h hne)]
        exact hxc j u hj)
      (fun j hj => by
        rw [csEn_len] at hj
        rw [hWc, hW1, Nat.add_assoc]
        exact isSome_set s1 _ (h2 _ (by omega)).1)
      (fun j hj => by
        rw [csEn_len] at hj
        rw [hWf, hW1, World.frozen?_setCells, Nat.add_assoc]
        exact (h2 _ (by omega)).2) (csEn_one x)
  have HO := Lib.hid (own_ins_rest (hK := csEn_len) (W := w.drew) (g := g) (o := o) (c := c) (Nat.le_of_lt hi) x hg hc hcm (fun j hj => h1 j (by omega)) h2)
  rw [← hW1] at hcp1 HO
  have HG := Lib.hid (show w.grownBy (W1.setCells g (o + i * 4) (csEn x)) (some g) by
    rw [hW1]
    exact ⟨(os_setCells _ _ _ _).trans (os_setCells _ _ _ _), (tape_setCells _ _ _ _).trans (tape_setCells _ _ _ _), (output_setCells _ _ _ _).trans (output_setCells _ _ _ _), by rw [size_setCells, size_setCells]; exact Nat.le_refl _,
      fun k _ hk => (heap_setCells g (fun e => hk (by rw [e])) _ _ _).trans (heap_setCells g (fun e => hk (by rw [e])) _ _ _)⟩)
  have n0 : (i : Int) < (L.length : Int) := by omega
  have n1 : ((L.length : Int) == (i : Int)) = false := by simp; omega
  have n2 : ((i : Int) == (L.length : Int)) = false := by simp; omega
  have n3 : (L.length : Int) + 1 ≤ (c : Int) := by omega
  have n4 : (L.length : Int) ≤ 1000 := by omega
  have n5 : (i : Int) + 1 ≤ (c : Int) := by omega
  have n6 : ((i : Int) + 1).toNat = i + 1 := by omega
  have hw1 : IntKind.i64.wrap ((i : Int) + 1) = (i : Int) + 1 := by rw [IntKind.wrap_i64]; omega
  have hb1 : (0 : Int) ≤ (i : Int) + 1 := by omega
  have hb3 : (i : Int) ≤ (L.length : Int) + 1 := by omega
  have hin : i ≤ L.length := by omega
  have mixed : Try.prog.follows Departure.mixedOrders = true := by kernel_rfl
  have n7 : ¬ (c = i + 1) := by omega
  have n8 : ¬ (c = i) := by omega
  have n9 : (c : Int) ≤ 9223372036854775807 := by unfold maxLen at hcm; omega
  have n10 : ((L.length : Int) + 1).toNat = L.length + 1 := by omega
  clear hW1 s1 hfl hdl hfz hsa hxc h1 h2
  go_enter Try.func37, Try.ntmps37
  go_wp2_with (simp only [hov])
  go_region_law_o (refine step_copy_k rfl _ _ 62 62 rfl _ _ (by simp [Act.eval, Act.put]) (by simp [Act.eval, Act.put]) (hcp1 _ _ _) ?_)
  go_wp2_with (at_builtin; refine wpList_copy_k _ rfl _ _ 62 62 rfl _ _ rfl rfl (hcp2 _ (fun _ => rfl) (fun _ => rfl) _ _) ?_)
  go_ret
  exact ⟨_, rfl, HO.out, HG.out, .inl rfl⟩
end Go.Proofs.Ytlgemfgikdaelaa
