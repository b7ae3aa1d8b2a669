/- Stage 25's program: slices.Insert at entries, in the middle of a row without room. -/
import Derived.Test.YtlgemfgikdaelaaRsB
namespace Go.Proofs.Ytlgemfgikdaelaa
open Go.RowKit Go.ChangeShapes Go.WideShapes Go.Joins Go.Deep

theorem drew_sets (b : Nat) : ∀ (vs : List Value) (o : Nat) (w : World), (w.setCells b o vs).drew = w.drew.setCells b o vs
  | [], _, _ => rfl
  | v :: r, o, w => by rw [World.setCells, World.setCells, drew_sets b r]; rfl
set_option maxHeartbeats 4000000 in
set_option maxRecDepth 100000 in
theorem rIns_grow {w : World} {g o c : Nat} {L : List En} (x : En) (i : Nat) (hi : i < L.length) (hl : L.length ≤ 1000) (hg : g < w.heap.size) (hlc : L.length ≤ c) (hc : c < L.length + 1)
    (h1 : ∀ j, j < L.length * 4 → w.cell? ⟨g, o + j, none⟩ = (flats csEn L)[j]?)
    (vb : Nat) (t : TypeId) (hvb : w.heap[vb]? = some (.cells (csEn x).toArray t (0, 0))) :
    Calls Try.prog 37 #[.slice (some ⟨g, o, none⟩) L.length c, .int .i64 (i : Int), .slice (some ⟨vb, 0, none⟩) 1 1] w
      (InsR w (.slice (some ⟨g, o, none⟩) L.length c) (L.take i ++ x :: L.drop i)) := by
  obtain ⟨i0, hi0, hz0, hz1, hz2⟩ := info_parts info_entry
  have hfl := flats_length csEn_len L
  have htl : (flats csEn (L.take i)).length = i * 4 := by rw [flats_length csEn_len, List.length_take, Nat.min_eq_left (by omega)]
  have hdl : (flats csEn (L.drop i)).length = (L.length - i) * 4 := by rw [flats_length csEn_len, List.length_drop]
  have hvw : vb < w.heap.size := lt_of_block hvb
  have hxc : ∀ j u, (csEn x)[j]? = some u → w.cell? ⟨vb, j, none⟩ = some u := fun j u hu => by simp [World.cell?, hvb, hu]
  have hold : (Builtin.firstCells i0.size i (.slice (some ⟨g, o, none⟩) i c)).run Try.prog w.drew = .ok (flats csEn (L.take i)).toArray w.drew := by
    rw [hz1]
    refine run_firstCells_some w.drew 4 i ⟨g, o, none⟩ i c (flats csEn (L.take i)) htl fun j u hj => ?_
    rw [add_plain]
    have hlt := (List.getElem?_eq_some_iff.1 hj).1
    refine (h1 j (by omega)).trans ?_
    rw [flats_split L i, List.getElem?_append_left hlt]
    exact hj
  have hkk : (L.length : Int) + 1 - (i : Int) = ((L.length + 1 - i : Nat) : Int) := by omega
  have hik : i + (L.length + 1 - i) = L.length + 1 := by omega
  have hrz : ∀ ty, (Builtin.append_ #[62, 3] ty #[.slice (some ⟨g, o, none⟩) i c, .int .i64 ((L.length : Int) + 1 - (i : Int))]).run Try.prog w =
      .ok (.slice (some ⟨w.heap.size, 0, none⟩) (L.length + 1) (grownCap w (L.length + 1) c 68)) (w.drew.alloc (.cells ((flats csEn (L.take i)).toArray ++ Builtin.zeroCells (Value.agg #[.int .i64 0, .int .u64 0, .bool false, .bool false]).cells (L.length + 1 - i) ++ Builtin.zeroCells (Value.agg #[.int .i64 0, .int .u64 0, .bool false, .bool false]).cells (grownCap w (L.length + 1) c 68 - (L.length + 1))) 68)) := fun ty => by
    have h := Lib.run_append_grow_zeros w 62 3 ty 68 i0 _ .i64 .i64 Try.underlying62 Try.underlying3 hi0 hz0 (some ⟨g, o, none⟩) i c _ hold (L.length + 1 - i) (by omega) (by omega) (by omega) (by omega) (by rw [hz2]; omega)
      (by rw [hz2, hik]; exact growslice_fits hc (by omega))
    rw [hik] at h
    rw [hkk]
    exact h
  obtain ⟨G, hG⟩ : ∃ G, G = grownCap w (L.length + 1) c 68 := ⟨_, rfl⟩
  have hGn : L.length + 1 ≤ G := by rw [hG]; exact grownCap_ge w _ _ _
  have hGm : G ≤ maxLen := by rw [hG]; exact grownCap_le_maxLen w (L.length + 1) c 68 (by unfold maxLen; omega)
  obtain ⟨ROW, hROW⟩ : ∃ ROW : Array Value, ROW = (flats csEn (L.take i)).toArray ++ Builtin.zeroCells (Value.agg #[.int .i64 0, .int .u64 0, .bool false, .bool false]).cells (L.length + 1 - i) ++ Builtin.zeroCells (Value.agg #[.int .i64 0, .int .u64 0, .bool false, .bool false]).cells (G - (L.length + 1)) := ⟨_, rfl⟩
  rw [← hG] at hrz
  rw [← hROW] at hrz
  have hzc : (Value.agg #[.int .i64 0, .int .u64 0, .bool false, .bool false]).cells.size = 4 := rfl
  have hRl : ROW.size = G * 4 := by
    rw [hROW, Array.size_append, Array.size_append, List.size_toArray, htl, size_zeroCells, size_zeroCells, hzc]
    omega
  have hRt : ∀ j, j < i * 4 → ROW[j]? = (flats csEn L)[j]? := fun j hj => by
    rw [hROW, Array.getElem?_append_left (by rw [Array.size_append, List.size_toArray, htl]; omega), Array.getElem?_append_left (by rw [List.size_toArray, htl]; omega), List.getElem?_toArray, flats_split L i, List.getElem?_append_left (by omega)]
  obtain ⟨W1, hW1⟩ : ∃ W1, W1 = w.drew.alloc (.cells ROW 68) := ⟨_, rfl⟩
  rw [← hW1] at hrz
  have hN0 : ∀ j, W1.cell? ⟨w.heap.size, j, none⟩ = ROW[j]? := fun j => by rw [hW1]; exact World.cell?_alloc_new w.drew ROW _ j
  have hN : ∀ j, j < G * 4 → (W1.cell? ⟨w.heap.size, 0 + j, none⟩).isSome = true ∧ W1.frozen? ⟨w.heap.size, 0 + j, none⟩ = false := fun j hj => by
    rw [Nat.zero_add, hN0, Array.getElem?_eq_getElem (by omega)]
    exact ⟨rfl, by rw [hW1]; exact World.frozen?_alloc_new w.drew ROW _ j⟩
  have hOb : ∀ b j, b < w.heap.size → W1.cell? ⟨b, j, none⟩ = w.cell? ⟨b, j, none⟩ := fun b j hb => by rw [hW1]; exact World.cell?_of_block (a := ⟨b, j, none⟩) (Below.heap_alloc w.drew _ b hb)
  have s1 : ∀ j, j < (csEn x).length → (W1.cell? ⟨w.heap.size, i * 4 + j, none⟩).isSome = true := fun j hj => by
    rw [csEn_len] at hj
    have := (hN (i * 4 + j) (by omega)).1
    rwa [Nat.zero_add] at this
  have hcpA : ∀ (W : World), (∀ a, W.cell? a = W1.cell? a) → (∀ a, W.frozen? a = W1.frozen? a) → ∀ ty dc, (Builtin.copy_ #[62, 62] ty #[.slice (some ⟨w.heap.size, i * 4, none⟩) (L.length + 1 - i) dc, .slice (some ⟨vb, 0, none⟩) 1 1]).run Try.prog W = .ok (goInt (Nat.min 1 (L.length + 1 - i))) (W.setCells w.heap.size (i * 4) (csEn x)) := fun W hWc hWf ty dc =>
    run_copy_k W _ _ ty 68 i0 w.heap.size (i * 4) _ dc ⟨vb, 0, none⟩ _ 1 _ Try.underlying62 hi0 (by rw [csEn_len, hz1, min_l (show 1 ≤ L.length + 1 - i by omega)])
      (fun j u hj => by rw [add_plain, hWc, Nat.zero_add, hOb vb j hvw]; exact hxc j u hj)
      (fun j hj => by rw [hWc]; exact s1 j hj)
      (fun j hj => by
        rw [csEn_len] at hj
        rw [hWf]
        have := (hN (i * 4 + j) (by omega)).2
        rwa [Nat.zero_add] at this) (csEn_one x)
  have hbN : g ≠ w.heap.size := by omega
  have hcpB : ∀ (W : World), (∀ a, W.cell? a = (W1.setCells w.heap.size (i * 4) (csEn x)).cell? a) → (∀ a, W.frozen? a = (W1.setCells w.heap.size (i * 4) (csEn x)).frozen? a) → ∀ ty dc sc, (Builtin.copy_ #[62, 62] ty #[.slice (some ⟨w.heap.size, (i + 1) * 4, none⟩) (L.length - i) dc, .slice (some ⟨g, o + i * 4, none⟩) (L.length - i) sc]).run Try.prog W = .ok (goInt (Nat.min (L.length - i) (L.length - i))) (W.setCells w.heap.size ((i + 1) * 4) (flats csEn (L.drop i))) := fun W hWc hWf ty dc sc =>
    run_copy_k W _ _ ty 68 i0 w.heap.size ((i + 1) * 4) _ dc ⟨g, o + i * 4, none⟩ _ sc _ Try.underlying62 hi0 (by rw [hdl, hz1, min_r (Nat.le_refl _)])
      (fun j u hj => by
        rw [add_plain, hWc, World.cell?_setCells_out _ _ _ _ _ (fun h _ => absurd h hbN), hOb g _ hg, Nat.add_assoc]
        have hlt := (List.getElem?_eq_some_iff.1 hj).1
        refine (h1 (i * 4 + j) (by omega)).trans ?_
        rw [flats_split L i, List.getElem?_append_right (by omega), htl]
        rw [show i * 4 + j - i * 4 = j by omega]
        exact hj)
      (fun j hj => by
        have := (hN ((i + 1) * 4 + j) (by omega)).1
        rw [Nat.zero_add] at this
        rw [hWc]
        exact isSome_set s1 _ this)
      (fun j hj => by
        rw [hWf, World.frozen?_setCells]
        have := (hN ((i + 1) * 4 + j) (by omega)).2
        rwa [Nat.zero_add] at this)
      (fun u hu => by
        obtain ⟨y, _, hy⟩ := List.mem_flatMap.1 hu
        exact csEn_one y u hy)
  have hNs : w.heap.size < W1.heap.size := by rw [hW1]; simp
  have HO := Lib.hid (own_ins_new (hK := csEn_len) (W := W1.drew) (g := w.heap.size) (o := 0) (c := G) (Nat.le_of_lt hi) x hNs hGn hGm (fun j hj => by rw [Nat.zero_add]; exact (hN0 j).trans (hRt j hj)) hN)
  simp only [Nat.zero_add] at HO
  have HG := Lib.hid (show ∀ ow, w.grownBy ((W1.drew.setCells w.heap.size (i * 4) (csEn x)).setCells w.heap.size ((i + 1) * 4) (flats csEn (L.drop i))) ow from fun ow => by
    rw [hW1]
    exact ⟨(os_setCells _ _ _ _).trans (os_setCells _ _ _ _), (tape_setCells _ _ _ _).trans (tape_setCells _ _ _ _), (output_setCells _ _ _ _).trans (output_setCells _ _ _ _), by rw [size_setCells, size_setCells]; simp,
      fun k hk _ => (heap_setCells _ (by omega) _ _ _).trans ((heap_setCells _ (by omega) _ _ _).trans (Below.heap_alloc w.drew _ k hk))⟩)
  subst hW1
  have hE1 : ∀ a, ((w.alloc (.cells ROW 68)).drew).cell? a = (w.drew.alloc (.cells ROW 68)).cell? a := fun a => rfl
  have hE2 : ∀ a, ((w.alloc (.cells ROW 68)).drew).frozen? a = (w.drew.alloc (.cells ROW 68)).frozen? a := fun a => rfl
  have hF1 : ∀ a, (((w.alloc (.cells ROW 68)).drew.setCells w.heap.size (i * 4) (csEn x)).drew).cell? a = ((w.drew.alloc (.cells ROW 68)).setCells w.heap.size (i * 4) (csEn x)).cell? a := fun a => rfl
  have hF2 : ∀ a, (((w.alloc (.cells ROW 68)).drew.setCells w.heap.size (i * 4) (csEn x)).drew).frozen? a = ((w.drew.alloc (.cells ROW 68)).setCells w.heap.size (i * 4) (csEn x)).frozen? a := fun a => rfl
  have n1 : ((L.length : Int) == (i : Int)) = false := by simp; omega
  have n2 : ((i : Int) == (L.length : Int)) = false := by simp; omega
  have n3 : (c : Int) < (L.length : Int) + 1 := by omega
  have n4 : (L.length : Int) ≤ 1000 := by omega
  have n6 : ((i : Int) + 1).toNat = i + 1 := by omega
  have hw1 : IntKind.i64.wrap ((i : Int) + 1) = (i : Int) + 1 := by rw [IntKind.wrap_i64]; omega
  have hb1 : (0 : Int) ≤ (i : Int) + 1 := by omega
  have hin : i ≤ L.length := by omega
  have hb3 : (i : Int) ≤ (L.length : Int) := by omega
  have hic : i ≤ c := by omega
  have mixed : Try.prog.follows Departure.mixedOrders = true := by kernel_rfl
  have hGi : ¬ (G = i) := by omega
  have hGim : ¬ (G = i + 1) := by omega
  have hci : ¬ (c = i) := by omega
  have g1 : (L.length : Int) + 1 ≤ (G : Int) := by omega
  clear hkk hik hold hROW hG hRl hRt hN0 hN hOb s1 h1 hxc hvw hfl htl hdl hNs hzc hGm
  go_enter Try.func37, Try.ntmps37
  go_wp2_with (first
    | (at_builtin; refine Lib.wpList_append_run _ rfl _ _ _ _ rfl _ _ rfl rfl _ _ (hrz _) ?_)
    | (at_builtin; refine wpList_copy_k _ rfl _ _ 62 62 rfl _ _ rfl rfl (hcpA _ hE1 hE2 _ _) ?_))
  go_region_law_o (refine step_copy_k rfl _ _ 62 62 rfl (.slice (some ⟨w.heap.size, (i + 1) * 4, none⟩) (L.length - i) (G - (i + 1))) (.slice (some ⟨g, o + i * 4, none⟩) (L.length - i) (c - i)) (by simp [Act.eval, Act.put]) (by simp [Act.eval, Act.put]) (hcpB _ hF1 hF2 3 (G - (i + 1)) (c - i)) ?_)
  go_wp2
  go_ret
  rw [drew_sets]
  exact ⟨_, rfl, HO.out, HG.out _, .inr rfl⟩
end Go.Proofs.Ytlgemfgikdaelaa
