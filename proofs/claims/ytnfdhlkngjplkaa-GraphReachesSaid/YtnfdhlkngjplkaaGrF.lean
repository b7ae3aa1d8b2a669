/- Stage 16's program: levelsOfTold, Order, Left, Levels. -/
import Derived.Test.YtnfdhlkngjplkaaGrE
import Derived.Test.YtnfdhlkngjplkaaGraphLaw
namespace Go.Proofs.Ytnfdhlkngjplkaa
open Go.RowKit

set_option maxHeartbeats 2000000 in
set_option maxRecDepth 100000 in
theorem gLot_any {R : Nat → Prop} (w : World) (a : Option Addr) (c hb hm ab : Nat) (gh : Int → Option Hd) (nodes : List Int) (arcs : List Arc16) (hri : risL nodes) (hN : nodes.length ≤ 30) (hA : arcs.length ≤ 60) (hBN : ∀ n ∈ nodes, I64 n)
    (hG : GrAt R w (.slice a nodes.length c) hb hm gh nodes (hdL nodes arcs)) (hI : MapI w ab nodes.length (gA nodes (awL nodes arcs []))) (hRl : ∀ k, R k → k < w.heap.size) (hRa : ¬ R ab) :
    Calls Try.prog 24 #[grv a nodes.length c hb ab] w fun e w' => ∃ tb m, e = .returned (.map (some tb)) ∧ MapI w' tb m (gT arcs (ordG nodes arcs nodes.length [])) ∧ Only (fun k => k = ab) w w' := by
  have hmk2 : ∀ w : World, (Instr.makeMap 37 none).run Try.prog w = .ok (.map (some w.heap.size)) (w.alloc (.map #[] 0)) := fun w => by kernel_rfl
  have hmf : ∀ (fn : Fn) (first cap : Array Value) (w : World), (Instr.makeFunc fn first cap).run Try.prog w = .ok (.func fn first cap) w := fun _ _ _ _ => rfl
  have hal := (Below.refl w.heap.size w).alloc (Nat.le_refl _) (.cells #[.slice a nodes.length c, .map (some hb), .map (some ab)] 39)
  have hX := Blk.new w [.slice a nodes.length c, .map (some hb), .map (some ab)] 39
  have hsz : (w.alloc (.cells #[.slice a nodes.length c, .map (some hb), .map (some ab)] 39)).heap.size = w.heap.size + 1 := by simp
  have HAL := Lib.hid hal
  have HX := Lib.hid hX
  have HSZ := Lib.hid hsz
  have HG := Lib.hid hG
  have HI := Lib.hid hI
  have HRL := Lib.hid hRl
  have HRA := Lib.hid hRa
  have HRI := Lib.hid hri
  have HBN := Lib.hid hBN
  obtain ⟨O, hO⟩ : ∃ O, ordG nodes arcs nodes.length [] = O := ⟨_, rfl⟩
  rw [hO]
  have HO := Lib.hid hO
  clear hal hX hsz hG hI hRl hRa hri hBN hO
  go_enter Try.func24, Try.ntmps24
  go_upto_region 2 with (fail)
  generalize w.alloc (.cells #[.slice a nodes.length c, .map (some hb), .map (some ab)] 39) = w1 at *
  have hz1 := HSZ.out
  have m1 := MapI.new w1
  rw [hz1] at m1
  have b1 := (Below.refl w1.heap.size w1).alloc (Nat.le_refl _) (.map #[] 0)
  have b2 := (Below.refl (w1.alloc (.map #[] 0)).heap.size (w1.alloc (.map #[] 0))).alloc (Nat.le_refl _) (.cells #[.map (some (w.heap.size + 1))] 37)
  have hz : (w1.alloc (.map #[] 0)).heap.size = w.heap.size + 1 + 1 := by simp [hz1]
  have hq2 := heap_alloc_new (w1.alloc (.map #[] 0)) (.cells #[.map (some (w.heap.size + 1))] 37)
  have m2 := m1.kept b2
  have hb12 := b1.trans (b2.mono b1.size)
  rw [hz] at hq2
  generalize ((w1.alloc (.map #[] 0)).alloc (.cells #[.map (some (w.heap.size + 1))] 37)) = w2 at *
  have hB := HAL.out.trans (hb12.mono HAL.out.size)
  have hJ : JL arcs (w.heap.size + 1 + 1) (w.heap.size + 1) [] (fun k => k = w.heap.size + 1 + 1 ∨ k = w.heap.size + 1) w2 := ⟨hq2, by rw [gT_nil]; exact m2, fun k => Iff.rfl⟩
  have hba := HI.out.lt
  have hE := gEach_L (.pointer (some ⟨w.heap.size + 1 + 1, 0, none⟩)) (jl_tell arcs (w.heap.size + 1 + 1) (w.heap.size + 1)) w2 a c hb hm ab gh nodes arcs HRI.out hN hA HBN.out (HG.out.kept hB) (HI.out.kept hB)
    (fun k hk => Nat.lt_of_lt_of_le (HRL.out k hk) hB.size) HRA.out (fun k hk hr => by have := HRL.out k hr; rcases hk with h | h <;> omega) (fun h => by rcases h with h | h <;> omega) hJ
    (fun t F' w' x hj hx hxt ht => gLt1_any arcs _ _ t F' w' x hj hxt (HBN.out x hx) ht)
  rw [HO.out] at hE
  have HE := Lib.hid hE
  have hx2 := HX.out.kept hb12
  have g0 := hx2.cell 0 rfl
  have g1 := hx2.cell 1 rfl
  have g2 := hx2.cell 2 rfl
  have HB := Lib.hid hB
  have HBA := Lib.hid hba
  clear hE hx2 hB hJ hba m1 b1 b2 hz hq2 m2 hb12 hz1 HSZ
  go_wp2_with (go_at_call 20; (with_reducible refine HE.out.mono ?_); rintro e w3 ⟨rfl, F', hj, hf, ho⟩; have hc : w3.cell? ⟨w.heap.size + 1 + 1, 0, none⟩ = some (.map (some (w.heap.size + 1))) := (by simp [World.cell?, hj.1]); have HJ := Lib.hid hj; have HO3 := Lib.hid ho; clear hj hf ho g0 g1 g2)
  go_ret
  refine ⟨_, _, rfl, HJ.out.2.1, ?_⟩
  have h1 := (Only.of_below (F := fun k => k = ab) HB.out)
  refine ⟨HO3.out.os.trans h1.os, HO3.out.tape.trans h1.tape, HO3.out.output.trans h1.output, Nat.le_trans h1.size HO3.out.size, fun k hk hf => (HO3.out.block k (Nat.lt_of_lt_of_le hk h1.size) fun h => ?_).trans (h1.block k hk hf)⟩
  rcases h with (h | h) | h
  · omega
  · omega
  · exact hf h

set_option maxHeartbeats 2000000 in
set_option maxRecDepth 100000 in
theorem gOrder_any (va vb : Value) (l : List Int) (arcs : List Arc16) (w : World) (ha : IntsAt w va l) (hb : ArcsAt w vb arcs) (hl : l.length ≤ 30) (hal : arcs.length ≤ 60) (hB : B64 l) (hBa : B64a arcs) :
    Calls Try.prog 8 #[va, vb] w fun e w' => ∃ v, e = .returned (.tuple #[v, .bool (decide ((ordL l arcs).length = (setL l).length))]) ∧ IntsAt w' v (ordL l arcs) ∧ Below w.heap.size w w' := by
  have hmf : ∀ (fn : Fn) (first cap : Array Value) (w : World), (Instr.makeFunc fn first cap).run Try.prog w = .ok (.func fn first cap) w := fun _ _ _ _ => rfl
  have hN : (setL l).length ≤ 30 := Nat.le_trans (setL_le l) hl
  have hBN : ∀ n ∈ setL l, I64 n := fun n hn => hB n ((setL_mem l n).1 hn)
  have GO := Lib.hid (gOf_any va vb l arcs w ha hb hl hal hB hBa)
  have HRI := Lib.hid (setL_ris l)
  have HBN := Lib.hid hBN
  have HOL := Lib.hid (show ordG (setL l) arcs (setL l).length [] = ordL l arcs from rfl)
  generalize ordL l arcs = O at *
  generalize setL l = N at *
  obtain ⟨t, ht⟩ : ∃ t, decide (O.length = N.length) = t := ⟨_, rfl⟩
  have he : ((O.length : Int) == (N.length : Int)) = t := by
    rw [← ht]
    by_cases e : O.length = N.length
    · simp [e]
    · rw [decide_eq_false e, beq_noI (by omega)]
  have HEE := Lib.hid he
  rw [ht]
  clear ha hb hB hBa hBN ht he
  go_enter Try.func8, Try.ntmps8
  go_upto_region 3 with (go_at_call 19; (with_reducible refine GO.out.mono ?_); rintro e w1 ⟨a, c, mb, ab, hm, gh, rfl, hab, hG, hI, hb1⟩; have HAB := Lib.hid hab; have HG := Lib.hid hG; have HI := Lib.hid hI; have HB1 := Lib.hid hb1; clear hab hG hI hb1)
  have b1 := (Below.refl w1.heap.size w1).alloc (Nat.le_refl _) (.cells #[.slice a N.length c, .map (some mb), .map (some ab)] 39)
  have hX := Blk.new w1 [.slice a N.length c, .map (some mb), .map (some ab)] 39
  have hz : (w1.alloc (.cells #[.slice a N.length c, .map (some mb), .map (some ab)] 39)).heap.size = w1.heap.size + 1 := by simp
  have b2 := (Below.refl _ (w1.alloc (.cells #[.slice a N.length c, .map (some mb), .map (some ab)] 39))).alloc (Nat.le_refl _) (.cells #[.slice none 0 0] 22)
  have hq := heap_alloc_new (w1.alloc (.cells #[.slice a N.length c, .map (some mb), .map (some ab)] 39)) (.cells #[.slice none 0 0] 22)
  rw [hz] at hq
  have hx2 := hX.kept b2
  have hB := b1.trans (b2.mono b1.size)
  generalize (w1.alloc (.cells #[.slice a N.length c, .map (some mb), .map (some ab)] 39)).alloc (.cells #[.slice none 0 0] 22) = w2 at *
  have hJ : JO (w1.heap.size + 1) [] (fun k => k = w1.heap.size + 1) w2 := ⟨_, hq, OwnR.nil _ _ _ _ _, fun k => by simp [Value.ownBlock]⟩
  have hba := HI.out.lt
  have hw1 := HB1.out.size
  have hE := gEach_O (.pointer (some ⟨w1.heap.size + 1, 0, none⟩)) (jo_tell (w1.heap.size + 1)) w2 a c mb hm ab gh N arcs HRI.out hN hal HBN.out (HG.out.kept hB) (HI.out.kept hB)
    (fun k hk => Nat.lt_of_lt_of_le hk.2.1 hB.size) (fun h => h.2.2 rfl) (fun k hk hr => by have := hr.2.1; omega) (fun h => by omega) hJ
    (fun t F' w' x hj hx hxt ht => gOrd1_any _ t F' w' x _ hj (by omega))
  rw [HOL.out] at hE
  have HE := Lib.hid hE
  have HX2 := Lib.hid hx2
  have g0 := hx2.cell 0 rfl
  have g1 := hx2.cell 1 rfl
  have g2 := hx2.cell 2 rfl
  have HBB := Lib.hid (HB1.out.trans (hB.mono hw1))
  have HBA := Lib.hid (And.intro hba hw1)
  clear hE hx2 hB hJ hba b1 b2 hz hq hX hw1 GO
  go_wp2_with (go_at_call 20; (with_reducible refine HE.out.mono ?_); rintro e w3 ⟨rfl, F', ⟨v, hj1, hj2, hj3⟩, hf, ho⟩; have hx3 := HX2.out.only ho (by rintro (h | h) <;> (have := HBA.out; omega)); have k0 := hx3.cell 0 rfl; have hc : w3.cell? ⟨w1.heap.size + 1, 0, none⟩ = some v := (by simp [World.cell?, hj1]); have HJ2 := Lib.hid hj2; have HO3 := Lib.hid ho; clear hj1 hj2 hj3 hf ho g0 g1 g2 hx3)
  obtain ⟨av, cv, ev⟩ := (OwnI.ints HJ2.out).form
  subst ev
  have HB3 : Hid (Below w.heap.size w w3) := Lib.hid (HBB.out.trans (HO3.out.below (fun k hk => by rcases hk with h | h <;> (have := HBA.out; have := HAB.out; omega)) HBB.out.size))
  have he := HEE.out
  refine wp_region_calm0 (by kernel_rfl) (by kernel_rfl) fun M => ?_
  have e0 := fun n : In M.w => n.cell (M.cell hc)
  have e1 := fun n : In M.w => n.cell (M.cell k0)
  repeat (go_big_quiet_step (fail))
  refine wpQuiet_nil ?_
  intro w4 hb4
  have HB4 := Lib.hid (HB3.out.trans (hb4.mono HB3.out.size))
  have HI4 := Lib.hid ((OwnI.ints HJ2.out).below hb4)
  clear e0 e1 M hb4 hc k0
  go_wp2
  exact bodyPost_ret (v := .tuple #[.slice av O.length cv, .bool t]) (by simp [results, Try.results8, go_sem]) rfl ⟨_, rfl, HI4.out, HB4.out⟩
end Go.Proofs.Ytnfdhlkngjplkaa
