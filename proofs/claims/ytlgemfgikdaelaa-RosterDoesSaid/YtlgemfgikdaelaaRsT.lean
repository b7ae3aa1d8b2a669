/- Stage 25: the roster, and the document's, side by side between two calls. -/
import Derived.Test.YtlgemfgikdaelaaRsRF
import Derived.Test.YtlgemfgikdaelaaRsI
import Derived.Test.YtlgemfgikdaelaaRsJ
namespace Go.Proofs.Ytlgemfgikdaelaa
open Go.RowKit

theorem view_take (L : List En) (n : Int) : viewE (takeE L n).1 = viewE L := by
  have key : ∀ (k : Nat) (x : En), x.hd = (L.getD k default).hd → viewE (L.set k x) = viewE L := fun k x hx => by
    unfold viewE
    rw [List.map_set, hx]
    refine List.ext_getElem (by simp) fun i h1 h2 => ?_
    rw [List.getElem_set]
    split
    · rename_i e
      subst e
      rw [List.getD_eq_getElem?_getD, List.getElem?_eq_getElem (by simpa using h2), List.getElem_map]
      rfl
    · rfl
  unfold takeE
  split
  · split
    · exact key _ _ rfl
    · rfl
  · rfl
theorem view_give (L : List En) (n : Int) : viewE (giveE L n).1 = viewE L := by
  have key : ∀ (k : Nat) (x : En), x.hd = (L.getD k default).hd → viewE (L.set k x) = viewE L := fun k x hx => by
    unfold viewE
    rw [List.map_set, hx]
    refine List.ext_getElem (by simp) fun i h1 h2 => ?_
    rw [List.getElem_set]
    split
    · rename_i e
      subst e
      rw [List.getD_eq_getElem?_getD, List.getElem?_eq_getElem (by simpa using h2), List.getElem_map]
      rfl
    · rfl
  unfold giveE
  split
  · exact key _ _ rfl
  · rfl

/-- the roster L, and the document's of M -/
structure DsF (F : Nat → Prop) (w0 w : World) (p q : Nat) (room : Int) (L M : List En) (hv bv : Value) (B : List Int) (m : Nat) : Prop where
  r : RsAt F w p room L
  ge : ∀ k, F k → w0.heap.size ≤ k
  b : Below w0.heap.size w0 w
  box : Blk w q [.int .i64 room, hv, bv]
  nq : ¬ F q
  qge : w0.heap.size ≤ q
  h : RowsAt w 3 csHd hv (viewE M)
  ho : OffV (fun k => F k ∨ k = q) hv (viewE M).length
  i : IntsAt w bv B
  io : OffV (fun k => F k ∨ k = q) bv B.length
  ok : RsOk M
  br : BusyR M B
  bl : B.length ≤ m
  lm : M.length ≤ 16
def DsW (w0 w : World) (p q : Nat) (room : Int) (L M : List En) (hv bv : Value) (B : List Int) (m : Nat) : Prop := ∃ F, DsF F w0 w p q room L M hv bv B m
section
variable {F : Nat → Prop} {w0 w w' : World} {p q : Nat} {room : Int} {L M : List En} {hv bv : Value} {B : List Int} {m : Nat}
theorem DsF.kept (h : DsF F w0 w p q room L M hv bv B m) (hb : Below w.heap.size w w') : DsF F w0 w' p q room L M hv bv B m :=
  { h with r := h.r.kept hb, b := h.b.trans (hb.mono h.b.size), box := h.box.kept hb, h := h.h.kept hb, i := h.i.below hb }
theorem DsW.kept (h : DsW w0 w p q room L M hv bv B m) (hb : Below w.heap.size w w') : DsW w0 w' p q room L M hv bv B m := by
  obtain ⟨F, h⟩ := h
  exact ⟨F, h.kept hb⟩
theorem DsW.below (h : DsW w0 w p q room L M hv bv B m) : Below w0.heap.size w0 w := by
  obtain ⟨F, h⟩ := h
  exact h.b
theorem DsW.box (h : DsW w0 w p q room L M hv bv B m) : Blk w q [.int .i64 room, hv, bv] := by
  obtain ⟨F, h⟩ := h
  exact h.box
theorem DsW.rows (h : DsW w0 w p q room L M hv bv B m) : RowsAt w 3 csHd hv (viewE M) := by
  obtain ⟨F, h⟩ := h
  exact h.h
theorem DsW.ints (h : DsW w0 w p q room L M hv bv B m) : IntsAt w bv B := by
  obtain ⟨F, h⟩ := h
  exact h.i
theorem DsW.more (h : DsW w0 w p q room L M hv bv B m) {m' : Nat} (hm : m ≤ m') : DsW w0 w p q room L M hv bv B m' := by
  obtain ⟨F, h⟩ := h
  exact ⟨F, { h with bl := Nat.le_trans h.bl hm }⟩
/-- an act -/
theorem DsW.act (h : DsW w0 w p q room L M hv bv B m) (a : Ra) (hb : a.bits < 2 ^ 64) (t : TypeId) :
    Calls Try.prog 8 #[ptr25 p, rav a] (w.alloc (.cells #[.int .i64 a.kind, .int .i64 a.id, .int .u64 (a.bits : Int), .bool a.on] t)) fun e w' =>
      e = .returned (.tuple #[.int .i64 (actE room L a).2.1, .bool (actE room L a).2.2]) ∧ DsW w0 w' p q room (actE room L a).1 M hv bv B m ∧ Blk w' w.heap.size [.int .i64 a.kind, .int .i64 a.id, .int .u64 (a.bits : Int), .bool a.on] ∧ q ≠ w.heap.size := by
  obtain ⟨F, h⟩ := h
  have hal := (Below.refl w.heap.size w).alloc (Nat.le_refl _) (.cells #[.int .i64 a.kind, .int .i64 a.id, .int .u64 (a.bits : Int), .bool a.on] t)
  have hX := Blk.new w [.int .i64 a.kind, .int .i64 a.id, .int .u64 (a.bits : Int), .bool a.on] t
  change Blk (w.alloc (.cells #[.int .i64 a.kind, .int .i64 a.id, .int .u64 (a.bits : Int), .bool a.on] t)) _ _ at hX
  have hlt := h.r.lt
  have hql := h.box.lt
  have hk := h.kept hal
  generalize w.alloc (.cells #[.int .i64 a.kind, .int .i64 a.id, .int .u64 (a.bits : Int), .bool a.on] t) = W1 at *
  have hnx : ¬ F w.heap.size := fun e => by have := hlt _ e; omega
  refine (rDo_any hk.r a hb).mono ?_
  rintro e w' ⟨rfl, F', h6, h7⟩
  have hq := h7.only
  refine ⟨rfl, ⟨F', { hk with
    r := h6
    ge := h7.from_ hk.ge hk.b.size
    b := hk.b.trans (hq.below hk.ge hk.b.size)
    box := hk.box.same (hq.block q hk.box.lt hk.nq)
    nq := h7.off hk.box.lt hk.nq
    h := hk.h.only hq (hk.ho.mono fun k h => .inl h)
    ho := fun h0 k hk2 hf => ?_
    i := RowsAt.ints (RowsAt.only (IntsAt.rows hk.i) hq (hk.io.mono fun k h => .inl h))
    io := fun h0 k hk2 hf => ?_ }⟩, hX.same (hq.block _ hX.lt hnx), by omega⟩
  · rcases hf with hf | hf
    · exact (h7.off (hk.h.lt h0 k hk2) (fun h => hk.ho h0 k hk2 (.inl h))) hf
    · exact hk.ho h0 k hk2 (.inr hf)
  · rcases hf with hf | hf
    · exact (h7.off ((IntsAt.rows hk.i).lt h0 k hk2) (fun h => hk.io h0 k hk2 (.inl h))) hf
    · exact hk.io h0 k hk2 (.inr hf)
/-- the document's answer written into its box -/
theorem DsF.store (h : DsF F w0 w p q room L M hv bv B m) (hb : Below w.heap.size w w') {hv' bv' : Value} {B' : List Int} {m' : Nat} (hr : RowsAt w' 3 csHd hv' (viewE L)) (hf : FromV hv hv' (viewE M).length (viewE L).length w.heap.size) (hi : IntsAt w' bv' B') (hg : FromV bv bv' B.length B'.length w.heap.size)
    (hbr : BusyR L B') (hbl : B'.length ≤ m') : DsF F w0 (((w'.setCell ⟨q, 0, none⟩ (.int .i64 room)).setCell ⟨q, 1, none⟩ hv').setCell ⟨q, 2, none⟩ bv') p q room L L hv' bv' B' m' := by
  have hk := h.kept hb
  have hql := h.box.lt
  have hlt := h.r.lt
  have oh : OffV (fun k => F k ∨ k = q) hv' (viewE L).length := fun h0 k hk2 hfk => by
    rcases hf h0 k hk2 with h1 | h1
    · exact h.ho h1.2 k h1.1 hfk
    · rcases hfk with h2 | h2
      · have := hlt k h2
        omega
      · omega
  have oi : OffV (fun k => F k ∨ k = q) bv' B'.length := fun h0 k hk2 hfk => by
    rcases hg h0 k hk2 with h1 | h1
    · exact h.io h1.2 k h1.1 hfk
    · rcases hfk with h2 | h2
      · have := hlt k h2
        omega
      · omega
  have hq := (((Only.refl (fun k => k = q) w').set ⟨q, 0, none⟩ (.int .i64 room) rfl).set ⟨q, 1, none⟩ hv' rfl).set ⟨q, 2, none⟩ bv' rfl
  exact { r := hk.r.same hq.size (fun k hk2 => hq.block k (hk.r.lt k hk2) fun e => h.nq (e ▸ hk2))
          ge := h.ge
          b := hk.b.trans (hq.below (fun k e => by have := h.qge; omega) hk.b.size)
          box := ((hk.box.set 0 (.int .i64 room)).set 1 hv').set 2 bv'
          nq := h.nq
          qge := h.qge
          h := hr.only hq (oh.mono fun k h => .inr h)
          ho := oh
          i := RowsAt.ints (RowsAt.only (IntsAt.rows hi) hq (oi.mono fun k h => .inr h))
          io := oi
          ok := h.r.ok
          br := hbr
          bl := hbl
          lm := by have := h.r.fit; omega }
/-- what a call of the document's leaves to be written -/
def DsN (w0 w w' : World) (p q : Nat) (room : Int) (L : List En) (hv' bv' : Value) (m : Nat) : Prop :=
  (∃ a i c, hv' = .slice a i c) ∧ (∃ a i c, bv' = .slice a i c) ∧ Below w.heap.size w w' ∧ ∃ B', DsW w0 (((w'.setCell ⟨q, 0, none⟩ (.int .i64 room)).setCell ⟨q, 1, none⟩ hv').setCell ⟨q, 2, none⟩ bv') p q room L L hv' bv' B' m
theorem FrH.from_ {w : World} {hv hv' : Value} {L L' : List En} (h : FrH w hv L hv' L') : FromV hv hv' (viewE L).length (viewE L').length w.heap.size := by
  rcases h with ⟨rfl, rfl⟩ | h
  · exact FromV.self _ _ _
  · exact fun _ k hk => .inr (h k hk)
theorem FrB.from_ {w : World} {bv bv' : Value} {B B' : List Int} (h : FrB w bv B bv' B') : FromV bv bv' B.length B'.length w.heap.size := by
  rcases h with ⟨rfl, rfl⟩ | h
  · exact FromV.self _ _ _
  · exact fun _ k hk => .inr (h k hk)
theorem DsW.add (n : Int) (b : Nat) (hb64 : b < 2 ^ 64) (h : DsW w0 w p q room (addE room L n b).1 L hv bv B m) :
    Calls Try.prog 9 #[ruv room hv bv, .int .i64 n, .int .u64 (b : Int)] w fun e w' => ∃ hv' bv', e = .returned (.tuple #[ruv room hv' bv', .int .i64 (addE room L n b).2]) ∧ DsN w0 w w' p q room (addE room L n b).1 hv' bv' m := by
  obtain ⟨F, h⟩ := h
  obtain ⟨a, c, hbv⟩ := h.i.form
  refine (refAdd25_any hv bv room L n b w h.h ⟨a, _, c, hbv⟩ h.ok h.lm).mono ?_
  rintro e w' ⟨hv', rfl, h1, h2, h3⟩
  obtain ⟨a', c', e'⟩ := RowsAt.form h1
  have hb := h3
  exact ⟨hv', bv, rfl, ⟨a', _, c', e'⟩, ⟨a, _, c, hbv⟩, hb, B, F, h.store hb h1 h2.from_ (h.i.below hb) (FromV.self _ _ _) (h.br.add h.ok room n b hb64) h.bl⟩
theorem DsW.set (n : Int) (on : Bool) (h : DsW w0 w p q room (setE L n on).1 L hv bv B m) :
    Calls Try.prog 10 #[ruv room hv bv, .int .i64 n, .bool on] w fun e w' => ∃ hv' bv', e = .returned (.tuple #[ruv room hv' bv', .int .i64 (setE L n on).2]) ∧ DsN w0 w w' p q room (setE L n on).1 hv' bv' m := by
  obtain ⟨F, h⟩ := h
  obtain ⟨a, c, hbv⟩ := h.i.form
  refine (refSet25_any hv bv room L n on w h.h ⟨a, _, c, hbv⟩ h.ok h.lm).mono ?_
  rintro e w' ⟨hv', rfl, h1, h2, h3⟩
  obtain ⟨a', c', e'⟩ := RowsAt.form h1
  have hb := h3
  exact ⟨hv', bv, rfl, ⟨a', _, c', e'⟩, ⟨a, _, c, hbv⟩, hb, B, F, h.store hb h1 h2.from_ (h.i.below hb) (FromV.self _ _ _) (h.br.set h.ok n on) h.bl⟩
theorem DsW.take (n : Int) (hm : m ≤ 999) (h : DsW w0 w p q room (takeE L n).1 L hv bv B m) :
    Calls Try.prog 11 #[ruv room hv bv, .int .i64 n] w fun e w' => ∃ hv' bv', e = .returned (.tuple #[ruv room hv' bv', .int .i64 (takeE L n).2]) ∧ DsN w0 w w' p q room (takeE L n).1 hv' bv' (m + 1) := by
  obtain ⟨F, h⟩ := h
  obtain ⟨a, c, hhv⟩ := RowsAt.form h.h
  have hbl := h.bl
  refine (refTake25_any hv bv room L B n w h.h h.i h.ok h.lm (by omega) h.br).mono ?_
  rintro e w' ⟨bv', rfl, h1, h2, h3⟩
  obtain ⟨a', c', e'⟩ := h1.form
  have hb := h3
  have hlen := takeB_len L B n
  exact ⟨hv, bv', rfl, ⟨a, _, c, hhv⟩, ⟨a', _, c', e'⟩, hb, takeB L B n, F, h.store hb (by rw [view_take]; exact h.h.kept hb) (by rw [view_take]; exact FromV.self _ _ _) h1 h2.from_ (h.br.take h.ok n) (by omega)⟩
theorem DsW.give (n : Int) (hm : m ≤ 999) (h : DsW w0 w p q room (giveE L n).1 L hv bv B m) :
    Calls Try.prog 12 #[ruv room hv bv, .int .i64 n] w fun e w' => ∃ hv' bv', e = .returned (.tuple #[ruv room hv' bv', .bool (giveE L n).2]) ∧ DsN w0 w w' p q room (giveE L n).1 hv' bv' m := by
  obtain ⟨F, h⟩ := h
  obtain ⟨a, c, hhv⟩ := RowsAt.form h.h
  have hbl := h.bl
  rw [giveE_was h.br n]
  refine (refGive25_any hv bv room B n w ⟨a, _, c, hhv⟩ h.i (by omega)).mono ?_
  rintro e w' ⟨bv', rfl, h1, h2, h3⟩
  obtain ⟨a', c', e'⟩ := h1.form
  have hb := h3
  have hlen := dropF_len B n
  exact ⟨hv, bv', rfl, ⟨a, _, c, hhv⟩, ⟨a', _, c', e'⟩, hb, dropF B n, F, h.store hb (by rw [view_give]; exact h.h.kept hb) (by rw [view_give]; exact FromV.self _ _ _) h1 (fun _ k hk => .inr (h2 k hk)) (h.br.give h.ok n) (by omega)⟩
/-- what is asked of both -/
theorem DsW.free (h : DsW w0 w p q room L L hv bv B m) (hm : m ≤ 1000) : Calls Try.prog 15 #[ruv room hv bv] w fun e w' => ∃ v, e = .returned v ∧ RowsAt w' 3 csHd v (freeE L) ∧ Below w.heap.size w w' := by
  obtain ⟨F, h⟩ := h
  have hbl := h.bl
  refine (refFree25_any hv bv room L B w h.h h.i h.ok h.lm (by omega) h.br).mono ?_
  rintro e w' ⟨v, rfl, h1, h2⟩
  exact ⟨v, rfl, OwnR.rows csHd_len h1, h2⟩
theorem DsW.rfree (h : DsW w0 w p q room L M hv bv B m) : Calls Try.prog 18 #[ptr25 p] w fun e w' => ∃ v, e = .returned v ∧ RowsAt w' 3 csHd v (freeE L) ∧ Below w.heap.size w w' := by
  obtain ⟨F, h⟩ := h
  refine (rFree_any h.r).mono ?_
  rintro e w' ⟨v, rfl, h1, h2⟩
  exact ⟨v, rfl, OwnR.rows csHd_len h1, h2⟩
theorem DsW.rview (h : DsW w0 w p q room L M hv bv B m) : Calls Try.prog 17 #[ptr25 p] w fun e w' => ∃ v, e = .returned v ∧ RowsAt w' 3 csHd v (viewE L) ∧ Below w.heap.size w w' := by
  obtain ⟨F, h⟩ := h
  refine (rView_any h.r).mono ?_
  rintro e w' ⟨v, rfl, h1, h2⟩
  exact ⟨v, rfl, OwnR.rows csHd_len h1, h2⟩
theorem DsW.rpick (h : DsW w0 w p q room L M hv bv B m) (need : Nat) (hn : need < 2 ^ 64) (vn : Value) (nt : List Int) (hnt : IntsAt w0 vn nt) (hl : nt.length ≤ 1000) :
    Calls Try.prog 13 #[ptr25 p, .int .u64 (need : Int), vn] w fun e w' => e = .returned (.tuple #[.int .i64 (pickE L need nt).1, .bool (pickE L need nt).2]) ∧ Below w.heap.size w w' := by
  obtain ⟨F, h⟩ := h
  exact rPick_any h.r need hn vn nt (hnt.below h.b) hl
theorem DsW.rbusy (h : DsW w0 w p q room L M hv bv B m) (n : Int) : Calls Try.prog 19 #[ptr25 p, .int .i64 n] w fun e w' => e = .returned (.bool (busyE L n)) ∧ Below w.heap.size w w' := by
  obtain ⟨F, h⟩ := h
  exact rBusy_any h.r n
theorem DsW.in_ (h : DsW w0 w p q room L L hv bv B m) (hm : m ≤ 1000) (n : Int) : Calls Try.prog 20 #[bv, .int .i64 n] w fun e w' => e = .returned (.bool (busyE L n)) ∧ w = w' := by
  obtain ⟨F, h⟩ := h
  have hbl := h.bl
  have := refIn_any bv B n w h.i (by omega)
  rwa [h.br.inL] at this
theorem DsW.rfind (h : DsW w0 w p q room L M hv bv B m) (n : Int) : Calls Try.prog 21 #[ptr25 p, .int .i64 n] w fun e w' => e = .returned (.tuple #[hdv (findE L n).1, .bool (findE L n).2]) ∧ Below w.heap.size w w' := by
  obtain ⟨F, h⟩ := h
  exact rFindR_any h.r n
theorem DsW.find (h : DsW w0 w p q room L L hv bv B m) (n : Int) : Calls Try.prog 22 #[hv, .int .i64 n] w fun e w' => e = .returned (.int .i64 (plcE L n)) ∧ w = w' := by
  obtain ⟨F, h⟩ := h
  exact refFind25_any hv L n w h.h h.ok h.lm
end
end Go.Proofs.Ytlgemfgikdaelaa
