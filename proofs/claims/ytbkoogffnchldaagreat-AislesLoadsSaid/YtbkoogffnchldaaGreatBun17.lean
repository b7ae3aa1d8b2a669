/- Texts of this proof, joined: AisLoadM; AisLoadA; AisLoadB. -/
import Derived.Test.YtbkoogffnchldaaGreatBun16
import Derived.Deep.DeepCutAuto
/- Stage 20: Load: the table of any locks and leases as mathematics; when there is one. -/
namespace Go.Proofs.YtbkoogffnchldaaGreat
open Go.RowKit

/-- a lease in a list -/
structure Le where
  token : Int
  task : Int
  worker : Int
  unit : Int
  due : Int
  got : Int
  a : Option Addr
  c : Nat
  want : List Int
deriving Inhabited
abbrev Le.v (x : Le) : Value := .slice x.a x.want.length x.c
def csLe (x : Le) : List Value := [.int .i64 x.token, .int .i64 x.task, .int .i64 x.worker, .int .i64 x.unit, .int .i64 x.due, .int .i64 x.got, x.v]
theorem csLe_len (x : Le) : (csLe x).length = 7 := rfl
structure LeasesAt (w : World) (v : Value) (l : List Le) : Prop where
  rows : RowsAt w 7 csLe v l
  each : ∀ x ∈ l, IntsAt w x.v x.want
/-- who holds an aisle, who waits for it -/
def hdL (Ls : List Lr) (id : Int) : Int := ((Ls.find? fun x => x.id == id).map Lr.holder).getD 0
def wtL (Ls : List Lr) (id : Int) : List Int := ((Ls.find? fun x => x.id == id).map Lr.wait).getD []
def goL (Xs : List Le) (t : Int) : Nat := ((Xs.find? fun x => x.token == t).map fun x => x.got.toNat).getD 0
def waL (Xs : List Le) (t : Int) : List Int := ((Xs.find? fun x => x.token == t).map Le.want).getD []
def mkT (Ls : List Lr) (Xs : List Le) : Tb := ⟨idsL Ls, hdL Ls, wtL Ls, Xs.map Le.token, goL Xs, waL Xs⟩
/-- leases that a table may have, behind the token last -/
def lesB (ids : List Int) : Int → List Le → Bool
  | _, [] => true
  | last, x :: r => decide (last < x.token) && (rightB x.want && (decide (0 ≤ x.got) && (decide (x.got ≤ (x.want.length : Int)) && (x.want.all (fun a => inL ids a) && lesB ids x.token r))))
/-- does a token hold, and wait for, just what it must -/
def seatB (T : Tb) (t : Int) : Bool := ((T.want t).take (T.got t)).all (fun id => T.hd id == t) && (decide (T.got t = (T.want t).length) || inL (T.wt ((T.want t)[T.got t]?.getD 0)) t)
/-- has a lock just those that hold it, and wait for it -/
def holdB (T : Tb) (id h : Int) : Bool := (h == 0) || (inL T.toks h && inL ((T.want h).take (T.got h)) id)
def waitB (T : Tb) (id : Int) : List Int → List Int → Bool
  | _, [] => true
  | pre, t :: r => inL T.toks t && (!inL pre t && (decide (T.nx t = some id) && waitB T id (pre ++ [t]) r))
def lockB (T : Tb) (l : Lr) : Bool := holdB T l.id l.holder && waitB T l.id [] l.wait
def loadB (Ls : List Lr) (Xs : List Le) : Bool := (mayB (idsL Ls) && decide (Xs.length ≤ 64)) && (lesB (idsL Ls) 0 Xs && (((Xs.map Le.token).all fun t => seatB (mkT Ls Xs) t) && Ls.all fun l => lockB (mkT Ls Xs) l))

theorem inL_iff20 {l : List Int} {n : Int} : inL l n = true ↔ n ∈ l := by unfold inL; exact decide_eq_true_iff
theorem find_tok {Xs : List Le} (hn : (Xs.map Le.token).Nodup) {x : Le} (hx : x ∈ Xs) : Xs.find? (fun y => y.token == x.token) = some x := by
  induction Xs with
  | nil => cases hx
  | cons y r ih =>
    rw [List.map_cons, List.nodup_cons] at hn
    by_cases e : y.token = x.token
    · rcases List.mem_cons.1 hx with rfl | hx
      · simp
      · exact (hn.1 (e ▸ List.mem_map_of_mem hx)).elim
    · rcases List.mem_cons.1 hx with rfl | hx
      · exact (e rfl).elim
      · rw [List.find?_cons_of_neg (by simpa using e)]
        exact ih hn.2 hx
theorem find_id {Ls : List Lr} (hn : (idsL Ls).Nodup) {x : Lr} (hx : x ∈ Ls) : Ls.find? (fun y => y.id == x.id) = some x := by
  induction Ls with
  | nil => cases hx
  | cons y r ih =>
    unfold idsL at hn ih
    rw [List.map_cons, List.nodup_cons] at hn
    by_cases e : y.id = x.id
    · rcases List.mem_cons.1 hx with rfl | hx
      · simp
      · exact (hn.1 (e ▸ List.mem_map_of_mem hx)).elim
    · rcases List.mem_cons.1 hx with rfl | hx
      · exact (e rfl).elim
      · rw [List.find?_cons_of_neg (by simpa using e)]
        exact ih hn.2 hx
theorem mk_seat {Ls : List Lr} {Xs : List Le} (hn : (Xs.map Le.token).Nodup) {x : Le} (hx : x ∈ Xs) : (mkT Ls Xs).got x.token = x.got.toNat ∧ (mkT Ls Xs).want x.token = x.want := by
  have h := find_tok hn hx
  refine ⟨?_, ?_⟩
  · show goL Xs x.token = _
    unfold goL
    rw [h]; rfl
  · show waL Xs x.token = _
    unfold waL
    rw [h]; rfl
theorem mk_lock {Ls : List Lr} {Xs : List Le} (hn : (idsL Ls).Nodup) {x : Lr} (hx : x ∈ Ls) : (mkT Ls Xs).hd x.id = x.holder ∧ (mkT Ls Xs).wt x.id = x.wait := by
  have h := find_id hn hx
  refine ⟨?_, ?_⟩
  · show hdL Ls x.id = _
    unfold hdL
    rw [h]; rfl
  · show wtL Ls x.id = _
    unfold wtL
    rw [h]; rfl
theorem mk_lks {Ls : List Lr} {Xs : List Le} (hn : (idsL Ls).Nodup) : Ls.map lkp = (mkT Ls Xs).lks := by
  unfold Tb.lks
  show _ = (Ls.map Lr.id).map _
  rw [List.map_map]
  refine List.map_congr_left fun x hx => ?_
  have h := mk_lock (Xs := Xs) hn hx
  simp only [lkp, Function.comp_apply, h.1, h.2]
theorem lesB_cons {ids : List Int} {last : Int} {x : Le} {r : List Le} : lesB ids last (x :: r) = true ↔ last < x.token ∧ rightB x.want = true ∧ 0 ≤ x.got ∧ x.got ≤ (x.want.length : Int) ∧ (∀ a ∈ x.want, a ∈ ids) ∧ lesB ids x.token r = true := by
  show (decide (last < x.token) && (rightB x.want && (decide (0 ≤ x.got) && (decide (x.got ≤ (x.want.length : Int)) && (x.want.all (fun a => inL ids a) && lesB ids x.token r))))) = true ↔ _
  simp only [Bool.and_eq_true, decide_eq_true_eq, List.all_eq_true, inL_iff20]
theorem lesB_ris {ids : List Int} : ∀ (Xs : List Le) (last : Int), lesB ids last Xs = true → (∀ t ∈ Xs.map Le.token, last < t) ∧ risL (Xs.map Le.token)
  | [], _, _ => ⟨fun _ h => (by cases h), List.Pairwise.nil⟩
  | x :: r, last, h => by
    obtain ⟨h1, _, _, _, _, h6⟩ := lesB_cons.1 h
    obtain ⟨i1, i2⟩ := lesB_ris r x.token h6
    refine ⟨fun t ht => ?_, ?_⟩
    · rw [List.map_cons] at ht
      rcases List.mem_cons.1 ht with rfl | ht
      · exact h1
      · have := i1 t ht; omega
    · rw [List.map_cons]
      exact List.pairwise_cons.2 ⟨i1, i2⟩
theorem lesB_each {ids : List Int} : ∀ (Xs : List Le) (last : Int), lesB ids last Xs = true → ∀ x ∈ Xs, rightB x.want = true ∧ 0 ≤ x.got ∧ x.got ≤ (x.want.length : Int) ∧ ∀ a ∈ x.want, a ∈ ids
  | [], _, _, _, h => (by cases h)
  | x :: r, last, h, y, hy => by
    obtain ⟨_, h2, h3, h4, h5, h6⟩ := lesB_cons.1 h
    rcases List.mem_cons.1 hy with rfl | hy
    · exact ⟨h2, h3, h4, h5⟩
    · exact lesB_each r _ h6 y hy
theorem waitB_iff {T : Tb} {id : Int} : ∀ (L pre : List Int), waitB T id pre L = true ↔ (∀ t ∈ L, t ∈ T.toks ∧ t ∉ pre ∧ T.nx t = some id) ∧ L.Nodup
  | [], pre => by simp [waitB]
  | t :: r, pre => by
    show (inL T.toks t && (!inL pre t && (decide (T.nx t = some id) && waitB T id (pre ++ [t]) r))) = true ↔ _
    simp only [Bool.and_eq_true, Bool.not_eq_true', decide_eq_true_eq, inL_iff20, waitB_iff r (pre ++ [t]), List.nodup_cons]
    have hpre : inL pre t = false ↔ t ∉ pre := by unfold inL; exact decide_eq_false_iff_not
    rw [hpre]
    constructor
    · rintro ⟨h1, h2, h3, h4, h5⟩
      refine ⟨fun u hu => ?_, fun hu => ?_, h5⟩
      · rcases List.mem_cons.1 hu with rfl | hu
        · exact ⟨h1, h2, h3⟩
        · obtain ⟨k1, k2, k3⟩ := h4 u hu
          exact ⟨k1, fun h => k2 (by simp [h]), k3⟩
      · exact (h4 t hu).2.1 (by simp)
    · rintro ⟨h1, h2, h3⟩
      have ht := h1 t (by simp)
      refine ⟨ht.1, ht.2.1, ht.2.2, fun u hu => ?_, h3⟩
      obtain ⟨k1, k2, k3⟩ := h1 u (by simp [hu])
      refine ⟨k1, fun h => ?_, k3⟩
      rcases List.mem_append.1 h with h | h
      · exact k2 h
      · rw [List.mem_singleton.1 h] at hu
        exact h2 hu
/-- what may be loaded is right -/
theorem load_ok {Ls : List Lr} {Xs : List Le} (h : loadB Ls Xs = true) (hr : ∀ x ∈ Xs, In18 x.token) : (mkT Ls Xs).Ok := by
  unfold loadB at h
  simp only [Bool.and_eq_true, decide_eq_true_eq, List.all_eq_true] at h
  obtain ⟨⟨hm, h64⟩, hle, hse, hlo⟩ := h
  have hidn : (idsL Ls).Nodup := ris_nodup (may_ris hm)
  obtain ⟨hlt, hris⟩ := lesB_ris Xs 0 hle
  have htn := ris_nodup hris
  have heach := lesB_each Xs 0 hle
  have hseat : ∀ t ∈ Xs.map Le.token, ∃ x ∈ Xs, x.token = t ∧ (mkT Ls Xs).got t = x.got.toNat ∧ (mkT Ls Xs).want t = x.want := fun t ht => by
    obtain ⟨x, hx, rfl⟩ := List.mem_map.1 ht
    exact ⟨x, hx, rfl, mk_seat htn hx⟩
  have hlock : ∀ id ∈ idsL Ls, ∃ x ∈ Ls, x.id = id ∧ (mkT Ls Xs).hd id = x.holder ∧ (mkT Ls Xs).wt id = x.wait := fun id hid => by
    obtain ⟨x, hx, rfl⟩ := List.mem_map.1 hid
    exact ⟨x, hx, rfl, mk_lock hidn hx⟩
  have hwin : ∀ t ∈ Xs.map Le.token, ∀ a ∈ (mkT Ls Xs).want t, a ∈ idsL Ls := fun t ht a ha => by
    obtain ⟨x, hx, _, _, h2⟩ := hseat t ht
    rw [h2] at ha
    exact (heach x hx).2.2.2 a ha
  have hS := fun t ht => hse t ht
  have hL : ∀ x ∈ Ls, (x.holder ≠ 0 → x.holder ∈ Xs.map Le.token ∧ x.id ∈ ((mkT Ls Xs).want x.holder).take ((mkT Ls Xs).got x.holder)) ∧ (∀ t ∈ x.wait, t ∈ Xs.map Le.token ∧ (mkT Ls Xs).nx t = some x.id) ∧ x.wait.Nodup := fun x hx => by
    have h1 := hlo x hx
    unfold lockB holdB at h1
    simp only [Bool.and_eq_true, Bool.or_eq_true, beq_iff_eq, inL_iff20] at h1
    obtain ⟨h2, h3⟩ := h1
    obtain ⟨h4, h5⟩ := (waitB_iff x.wait []).1 h3
    exact ⟨fun hne => h2.resolve_left hne, fun t ht => ⟨(h4 t ht).1, (h4 t ht).2.2⟩, h5⟩
  refine { may := hm, ris := hris, pos := fun t ht => ?_, few := by show (Xs.map Le.token).length ≤ 64; rw [List.length_map]; exact h64, wr := fun t ht => ?_, win := hwin, gl := fun t ht => ?_, hold := fun id hid hne => ?_, held := fun t ht id hid => ?_, wait := fun id hid t ht => ?_, nd := fun id hid => ?_, waits := fun t ht _ id hn => ?_, off := fun _ h => (by cases h) }
  · obtain ⟨x, hx, rfl, _⟩ := hseat t ht
    have := hlt _ ht
    exact ⟨by omega, hr x hx⟩
  · obtain ⟨x, hx, _, _, h2⟩ := hseat t ht
    rw [h2]
    exact of_decide_eq_true (heach x hx).1
  · obtain ⟨x, hx, _, h1, h2⟩ := hseat t ht
    rw [h1, h2]
    have := (heach x hx).2.2.1
    omega
  · obtain ⟨x, hx, rfl, h1, _⟩ := hlock id hid
    rw [h1] at hne ⊢
    exact (hL x hx).1 hne
  · have h1 := hS t ht
    unfold seatB at h1
    simp only [Bool.and_eq_true, List.all_eq_true, beq_iff_eq] at h1
    exact h1.1 id hid
  · obtain ⟨x, hx, rfl, _, h2⟩ := hlock id hid
    rw [h2] at ht
    exact (hL x hx).2.1 t ht
  · obtain ⟨x, hx, rfl, _, h2⟩ := hlock id hid
    rw [h2]
    exact (hL x hx).2.2
  · have h1 := hS t ht
    unfold seatB at h1
    simp only [Bool.and_eq_true, Bool.or_eq_true, decide_eq_true_eq, inL_iff20] at h1
    obtain ⟨hg, hgid⟩ := nx_at hn
    have hn2 : ((mkT Ls Xs).want t)[(mkT Ls Xs).got t]? = some id := hn
    rcases h1.2 with h2 | h2
    · omega
    · rw [hn2] at h2
      exact h2
end Go.Proofs.YtbkoogffnchldaaGreat
/- Stage 20: the document's seat: does a token hold, and wait for, just what it must. -/
namespace Go.Proofs.YtbkoogffnchldaaGreat
open Go.RowKit

theorem lock_spot {w : World} {v : Value} {Ls : List Lr} (h : LocksAt w v Ls) (hn : (idsL Ls).Nodup) {id : Int} (hi : id ∈ idsL Ls) :
    ∃ (q g o c : Nat) (a : Option Addr) (cc : Nat), plcL (idsL Ls) id = (q : Int) ∧ q < Ls.length ∧ v = .slice (some ⟨g, o, none⟩) Ls.length c ∧ w.cell? ⟨g, o + q * 3 + 1, none⟩ = some (.int .i64 (hdL Ls id)) ∧ w.cell? ⟨g, o + q * 3 + 2, none⟩ = some (.slice a (wtL Ls id).length cc) ∧ IntsAt w (.slice a (wtL Ls id).length cc) (wtL Ls id) := by
  obtain ⟨h1, h2, h3⟩ := plc_at hi
  have hl : (idsL Ls).idxOf id < Ls.length := by simpa [idsL] using h2
  obtain ⟨g, o, c, e, _, _, q0, q1, q2⟩ := h.rows.atL _ hl
  have hid : Ls[(idsL Ls).idxOf id].id = id := by
    have : (idsL Ls)[(idsL Ls).idxOf id]? = (Ls[(idsL Ls).idxOf id]?).map Lr.id := by unfold idsL; exact List.getElem?_map ..
    rw [this, List.getElem?_eq_getElem hl] at h3
    exact Option.some.inj h3
  have hf := find_id hn (List.getElem_mem hl)
  rw [hid] at hf
  have e1 : hdL Ls id = Ls[(idsL Ls).idxOf id].holder := by unfold hdL; rw [hf]; rfl
  have e2 : wtL Ls id = Ls[(idsL Ls).idxOf id].wait := by unfold wtL; rw [hf]; rfl
  have hea := h.each _ (List.getElem_mem hl)
  rw [e1, e2]
  exact ⟨_, g, o, c, _, _, h1, hl, e, q1, q2, hea⟩
/-- what seat tells of a token -/
def seatV (Ls : List Lr) (t : Int) (j : Nat) (l : List Int) : Bool := (l.take j).all (fun id => hdL Ls id == t) && (decide (j = l.length) || inL (wtL Ls (l[j]?.getD 0)) t)
theorem all_take_not {l : List Int} {p : Int → Bool} {k j : Nat} (hk : k < j) (hl : k < l.length) (hp : p l[k] = false) : (l.take j).all p = false := by
  rw [List.all_eq_false]
  refine ⟨l[k], ?_, by rw [hp]; simp⟩
  rw [List.mem_iff_getElem]
  exact ⟨k, by rw [List.length_take]; omega, by rw [List.getElem_take]⟩
set_option maxHeartbeats 8000000 in
set_option maxRecDepth 100000 in
theorem refSeat20_any (vl : Value) (az : Option Addr) (ns cs : Nat) (Ls : List Lr) (t : Int) (j : Nat) (aw : Option Addr) (cw : Nat) (l : List Int) (W : World) (ha : LocksAt W vl Ls) (hn : (idsL Ls).Nodup) (hl : Ls.length ≤ 1000) (hw : ∀ x ∈ Ls, x.wait.length ≤ 1000000)
    (hi : IntsAt W (.slice aw l.length cw) l) (hj : j ≤ l.length) (hll : l.length ≤ 1000) (hin : ∀ a ∈ l, a ∈ idsL Ls) :
    Calls Tryz.prog 27 #[tbv vl (.slice az ns cs), .agg #[.int .i64 t, .int .i64 (j : Int), .slice aw l.length cw]] W fun e w' => e = .returned (.bool (seatV Ls t j l)) ∧ Below W.heap.size W w' := by
  obtain ⟨r, hr⟩ : ∃ r, seatV Ls t j l = r := ⟨_, rfl⟩
  rw [hr]
  have HR := Lib.hid hr
  obtain ⟨a, c, rfl⟩ := RowsAt.form ha.rows
  obtain ⟨n, hnn⟩ : ∃ n, l.length = n := ⟨_, rfl⟩
  have HNN := Lib.hid hnn
  rw [hnn] at hi hj hll
  rw [hnn]
  have b1 := (Below.refl W.heap.size W).alloc (Nat.le_refl _) (.cells #[.slice a Ls.length c, .slice az ns cs] 38)
  have X1 := Blk.new W [.slice a Ls.length c, .slice az ns cs] 38
  obtain ⟨w1, hw1⟩ : ∃ w1, W.alloc (.cells #[.slice a Ls.length c, .slice az ns cs] 38) = w1 := ⟨_, rfl⟩
  have z1 : w1.heap.size = W.heap.size + 1 := by rw [← hw1]; simp
  have b2 := (Below.refl w1.heap.size w1).alloc (Nat.le_refl _) (.cells #[.int .i64 t, .int .i64 (j : Int), .slice aw n cw] 68)
  have X2 := Blk.new w1 [.int .i64 t, .int .i64 (j : Int), .slice aw n cw] 68
  rw [hw1] at b1
  rw [show W.alloc (Obj.cells ([.slice a Ls.length c, .slice az ns cs] : List Value).toArray 38) = w1 from hw1] at X1
  replace X1 := X1.kept b2
  have hB := b1.trans (b2.mono b1.size)
  have HA := Lib.hid (ha.below hB)
  have HI := Lib.hid (hi.below hB)
  have HB := Lib.hid hB
  have HBW := Lib.hid hB.size
  have HN := Lib.hid hn
  have HW := Lib.hid hw
  have HIN := Lib.hid hin
  have HL := Lib.hid hl
  subst hw1
  clear hr ha hi hnn hn hw hin hl b1 b2
  rw [z1] at X2
  clear z1
  go_enter Tryz.func27, Tryz.ntmps27
  go_wp2
  generalize (W.alloc (.cells #[.slice a Ls.length c, .slice az ns cs] 38)).alloc (.cells #[.int .i64 t, .int .i64 (j : Int), .slice aw n cw] 68) = W0 at *
  generalize hBe : W.heap.size = B at *
  have HBE := Lib.hid hBe
  clear hBe
  have HLK := Lib.hid fun w' (hb : Below W0.heap.size W0 w') id => refLock20_any (.slice a Ls.length c) az ns cs Ls id w' (RowsAt.kept HA.out.rows hb) (by have := HL.out; omega)
  have hb0 := Below.refl W0.heap.size W0
  have T0 := X1.cell 0 rfl
  have T1 := X1.cell 1 rfl
  have S0 := X2.cell 0 rfl
  have S1 := X2.cell 1 rfl
  have S2 := X2.cell 2 rfl
  clear X1 X2
  go_loopg [5] j (fun kx iv ws => ∃ k : Nat, k ≤ j ∧ j - k ≤ kx ∧ iv = .int .i64 k ∧ Hid ((l.take k).all (fun id => hdL Ls id == t) = true) ∧ Below W0.heap.size W0 ws)
  case atStart => exact ⟨0, Nat.zero_le _, Nat.le_refl _, rfl, (by show _ = _; simp), hb0⟩
  case round =>
    obtain ⟨k, hk, hkx, rfl, hall, hbr⟩ := hrel
    by_cases hlt : k < j
    · have k0 : (0 : Int) ≤ (k : Int) := by omega
      have k1 : (k : Int) < (j : Int) := by omega
      have k2 : (k : Int) < (n : Int) := by omega
      have k3 : (k : Int) ≤ 1000 := by omega
      have hkl : k < l.length := by rw [HNN.out]; omega
      obtain ⟨g2, o2, c2, e2, _, _, m0⟩ := (HI.out.below hbr).spot k hkl
      rw [HNN.out] at e2
      cases e2
      obtain ⟨id, hid⟩ : ∃ id, l[k]'hkl = id := ⟨_, rfl⟩
      rw [hid] at m0
      obtain ⟨q, g, o, c', a3, cc, h1, h2, h3, h4, _, _⟩ := lock_spot (HA.out.below hbr) HN.out (id := id) (HIN.out id (by rw [← hid]; exact List.getElem_mem hkl))
      cases h3
      have GL := Lib.hid fun w' (hb : Below W0.heap.size W0 w') => HLK.out w' hb id
      rw [h1] at GL
      have q0 : (0 : Int) ≤ (q : Int) := by omega
      have q1 : (q : Int) < (Ls.length : Int) := by omega
      have q2 : (q : Int) ≤ 1000 := by have := HL.out; omega
      have t0 := (hbr.cell (World.block_lt_of_cell? _ _ T0)).trans T0
      have t1 := (hbr.cell (World.block_lt_of_cell? _ _ T1)).trans T1
      have s0 := (hbr.cell (World.block_lt_of_cell? _ _ S0)).trans S0
      have s1 := (hbr.cell (World.block_lt_of_cell? _ _ S1)).trans S1
      have s2 := (hbr.cell (World.block_lt_of_cell? _ _ S2)).trans S2
      have HBR := Lib.hid hbr
      by_cases he : hdL Ls id = t
      · have HALL := Lib.hid (show (l.take (k + 1)).all (fun id => hdL Ls id == t) = true by
          rw [List.take_succ_eq_append_getElem hkl, List.all_append, hall.out, hid]
          simp [he])
        rw [he] at h4
        have HK := Lib.hid (And.intro hlt hkx)
        clear hk hkx hlt hkl hid h1 h2 hall hbr he
        go_upto_region 4 with fail
        refine wp_region_calm0 (by kernel_rfl) (by kernel_rfl) fun M => ?_
        have e0 := fun n : In M.w => n.cell (M.cell s0)
        have e2 := fun n : In M.w => n.cell (M.cell s2)
        have f0 := fun n : In M.w => n.cell (M.cell t0)
        have f1 := fun n : In M.w => n.cell (M.cell t1)
        have e3 := fun n : In M.w => n.cell (M.cell m0)
        have e4 := fun n : In M.w => n.cell (M.cell h4)
        have GL2 := fun n : In M.w => GL.out n.w (HBR.out.trans ((M.h.trans (n.h.mono M.h.size)).mono HBR.out.size))
        repeat (go_big_quiet_step ((go_at_call 37; with_reducible exact In.call (GL2 _))))
        refine wpQuiet_nil ?_
        intro w3 hb3
        have HB3 := Lib.hid (HBR.out.trans (hb3.mono HBR.out.size))
        clear e0 e2 f0 f1 e3 e4 GL2 M hb3 t0 t1 s0 s1 s2 m0 h4
        go_wp2
        go_roundg (j - (k + 1))
        case measure => have := HK.out; omega
        case rel => exact ⟨k + 1, by have := HK.out; omega, Nat.le_refl _, by go_num, HALL.out, HB3.out⟩
      · have HF := Lib.hid (show false = r by
          rw [← HR.out]
          unfold seatV
          rw [all_take_not (k := k) hlt hkl (by rw [hid]; exact beq_noI he), Bool.false_and])
        have hne : (hdL Ls id == t) = false := beq_noI he
        generalize hdL Ls id = hh at *
        clear hk hkx hlt hkl hid h1 h2 hall hbr
        go_upto_region 4 with fail
        refine wp_region_calm0 (by kernel_rfl) (by kernel_rfl) fun M => ?_
        have e0 := fun n : In M.w => n.cell (M.cell s0)
        have e2 := fun n : In M.w => n.cell (M.cell s2)
        have f0 := fun n : In M.w => n.cell (M.cell t0)
        have f1 := fun n : In M.w => n.cell (M.cell t1)
        have e3 := fun n : In M.w => n.cell (M.cell m0)
        have e4 := fun n : In M.w => n.cell (M.cell h4)
        have GL2 := fun n : In M.w => GL.out n.w (HBR.out.trans ((M.h.trans (n.h.mono M.h.size)).mono HBR.out.size))
        repeat (go_big_quiet_step ((go_at_call 37; with_reducible exact In.call (GL2 _))))
        refine wpQuiet_nil ?_
        intro w3 hb3
        have HB3 := Lib.hid (HBR.out.trans (hb3.mono HBR.out.size))
        clear e0 e2 f0 f1 e3 e4 GL2 M hb3 t0 t1 s0 s1 s2 m0 h4
        go_wp2
        go_ret
        exact ⟨ret_b HF.out, (by rw [HBE.out]; exact HB.out.trans (HB3.out.mono HBW.out))⟩
    · have hkj : k = j := by omega
      subst hkj
      have t0 := (hbr.cell (World.block_lt_of_cell? _ _ T0)).trans T0
      have t1 := (hbr.cell (World.block_lt_of_cell? _ _ T1)).trans T1
      have s0 := (hbr.cell (World.block_lt_of_cell? _ _ S0)).trans S0
      have s1 := (hbr.cell (World.block_lt_of_cell? _ _ S1)).trans S1
      have s2 := (hbr.cell (World.block_lt_of_cell? _ _ S2)).trans S2
      have HBR := Lib.hid hbr
      have k1 : ¬ (k : Int) < (k : Int) := by omega
      by_cases hkn : k = n
      · have HF := Lib.hid (show true = r by
          rw [← HR.out]
          unfold seatV
          rw [hall.out, decide_eq_true (hkn.trans HNN.out.symm)]; rfl)
        subst hkn
        clear hk hkx hlt hall hbr
        go_upto_region 6 with fail
        refine wp_region_calm0 (by kernel_rfl) (by kernel_rfl) fun M => ?_
        have e0 := fun n : In M.w => n.cell (M.cell s0)
        have e1 := fun n : In M.w => n.cell (M.cell s1)
        have e2 := fun n : In M.w => n.cell (M.cell s2)
        repeat (go_big_quiet_step (fail))
        refine wpQuiet_nil ?_
        intro w3 hb3
        have HB3 := Lib.hid (HBR.out.trans (hb3.mono HBR.out.size))
        clear e0 e1 e2 M hb3 t0 t1 s0 s1 s2
        go_wp2
        go_ret
        exact ⟨ret_b HF.out, (by rw [HBE.out]; exact HB.out.trans (HB3.out.mono HBW.out))⟩
      · have hkl : k < l.length := by rw [HNN.out]; omega
        obtain ⟨g2, o2, c2, e2, _, _, m0⟩ := (HI.out.below hbr).spot k hkl
        rw [HNN.out] at e2
        cases e2
        obtain ⟨id, hid⟩ : ∃ id, l[k]'hkl = id := ⟨_, rfl⟩
        rw [hid] at m0
        obtain ⟨q, g, o, c', a3, cc, h1, h2, h3, _, h5, h6⟩ := lock_spot (HA.out.below hbr) HN.out (id := id) (HIN.out id (by rw [← hid]; exact List.getElem_mem hkl))
        cases h3
        have GL := Lib.hid fun w' (hb : Below W0.heap.size W0 w') => HLK.out w' hb id
        rw [h1] at GL
        have q0 : (0 : Int) ≤ (q : Int) := by omega
        have q1 : (q : Int) < (Ls.length : Int) := by omega
        have q2 : (q : Int) ≤ 1000 := by have := HL.out; omega
        have k0 : (0 : Int) ≤ (k : Int) := by omega
        have k2 : (k : Int) < (n : Int) := by omega
        have k3 : (k : Int) ≤ 1000 := by omega
        have kn : ((k : Int) == (n : Int)) = false := beq_noI (by omega)
        have HF := Lib.hid (show inL (wtL Ls id) t = r by
          rw [← HR.out]
          unfold seatV
          rw [hall.out, decide_eq_false (by rw [HNN.out]; exact hkn), List.getElem?_eq_getElem hkl, hid]; rfl)
        have hwl : (wtL Ls id).length ≤ 1000000 := by
          unfold wtL
          cases hf : Ls.find? (fun x => x.id == id) with
          | none => simp
          | some x => exact HW.out x (List.mem_of_find?_eq_some hf)
        have GI := Lib.hid fun w' (hb : Below wr.heap.size wr w') => refIn_any _ (wtL Ls id) t w' (h6.below hb) hwl
        rw [HF.out] at GI
        generalize (wtL Ls id).length = wn at *
        clear hk hkx hlt hkl hid h1 h2 hall hbr hkn h6 hwl
        go_upto_region 6 with fail
        refine wp_region_calm0 (by kernel_rfl) (by kernel_rfl) fun M => ?_
        have e0 := fun n : In M.w => n.cell (M.cell s0)
        have e1 := fun n : In M.w => n.cell (M.cell s1)
        have e2 := fun n : In M.w => n.cell (M.cell s2)
        have f0 := fun n : In M.w => n.cell (M.cell t0)
        have f1 := fun n : In M.w => n.cell (M.cell t1)
        have e3 := fun n : In M.w => n.cell (M.cell m0)
        have e4 := fun n : In M.w => n.cell (M.cell h5)
        have GL2 := fun n : In M.w => GL.out n.w (HBR.out.trans ((M.h.trans (n.h.mono M.h.size)).mono HBR.out.size))
        have GI2 := fun n : In M.w => GI.out n.w (M.h.trans (n.h.mono M.h.size))
        repeat (go_big_quiet_step (first
          | (go_at_call 37; with_reducible exact In.call (GL2 _))
          | (go_at_call 26; with_reducible exact In.call_same (GI2 _))))
        refine wpQuiet_nil ?_
        intro w3 hb3
        have HB3 := Lib.hid (HBR.out.trans (hb3.mono HBR.out.size))
        clear e0 e1 e2 e3 e4 f0 f1 GL2 GI2 M hb3 t0 t1 s0 s1 s2 m0 h5
        go_wp2
        go_ret
        exact ⟨rfl, (by rw [HBE.out]; exact HB.out.trans (HB3.out.mono HBW.out))⟩
end Go.Proofs.YtbkoogffnchldaaGreat
/- Stage 20: the document's held: has a lock just those that hold it, and wait for it. -/
namespace Go.Proofs.YtbkoogffnchldaaGreat
open Go.RowKit

theorem hasL_T {Ss : List Sr} {T : Tb} (h : Ss.map stp = T.sts) (t n : Int) : hasL Ss t n = (inL T.toks t && inL ((T.want t).take (T.got t)) n) := by
  have e := sts_toks h
  by_cases hm : t ∈ T.toks
  · obtain ⟨k, hk, h1, h2, h3⟩ := seatL_some (S := Ss) (t := t) (by rw [e]; exact hm)
    have hl := sts_len h
    have hs := sts_at h k hk (by omega)
    simp only [stp, Prod.mk.injEq] at hs
    have ht : T.toks[k]'(by omega) = t := by rw [← hs.1]; exact h2
    rw [ht] at hs
    unfold hasL
    rw [h3]
    show inL (Ss[k].want.take Ss[k].got.toNat) n = _
    rw [hs.2.1, hs.2.2, Int.toNat_natCast, inL_iff20.2 hm, Bool.true_and]
  · have h3 : seatL Ss t = none := seatL_none (by rw [e]; exact hm)
    unfold hasL
    rw [h3]
    have : inL T.toks t = false := by unfold inL; exact decide_eq_false hm
    rw [this]
    rfl
theorem seat_spot {w : World} {v : Value} {Ss : List Sr} {T : Tb} (ha : SeatsAt w v Ss) (h : Ss.map stp = T.sts) {t : Int} (hm : t ∈ T.toks) :
    ∃ (k g o c : Nat) (a : Option Addr) (cc : Nat), plcL T.toks t = (k : Int) ∧ k < Ss.length ∧ v = .slice (some ⟨g, o, none⟩) Ss.length c ∧ w.cell? ⟨g, o + k * 3 + 1, none⟩ = some (.int .i64 (T.got t : Int)) ∧ w.cell? ⟨g, o + k * 3 + 2, none⟩ = some (.slice a (T.want t).length cc) ∧ IntsAt w (.slice a (T.want t).length cc) (T.want t) := by
  obtain ⟨h1, h2, h3⟩ := plc_at hm
  have hl := sts_len h
  have hk : T.toks.idxOf t < Ss.length := by omega
  obtain ⟨g, o, c, e, _, _, q0, q1, q2⟩ := ha.rows.atS _ hk
  have hs := sts_at h _ hk h2
  rw [List.getElem?_eq_getElem h2] at h3
  rw [Option.some.inj h3] at hs
  simp only [stp, Prod.mk.injEq] at hs
  have hea := ha.each _ (List.getElem_mem hk)
  rw [hs.2.1] at q1
  refine ⟨_, g, o, c, Ss[T.toks.idxOf t].a, Ss[T.toks.idxOf t].c, h1, hk, e, q1, ?_, ?_⟩
  · rw [← hs.2.2]; exact q2
  · rw [← hs.2.2]; exact hea
theorem seatOK {Ss : List Sr} {T : Tb} (h : Ss.map stp = T.sts) (hok : ∀ x ∈ Ss, SrOk x) {t : Int} (hm : t ∈ T.toks) : T.got t ≤ (T.want t).length ∧ (T.want t).length ≤ 1000 ∧ True := by
  have h1 : (t, (T.got t : Int), T.want t) ∈ Ss.map stp := by rw [h]; exact List.mem_map.2 ⟨t, hm, rfl⟩
  obtain ⟨x, hx, e⟩ := List.mem_map.1 h1
  obtain ⟨o1, o2, o3⟩ := hok x hx
  simp only [stp, Prod.mk.injEq] at e
  rw [e.2.2] at o2 o3
  rw [e.2.1] at o2
  exact ⟨by omega, o3, trivial⟩
theorem waitB_step {T : Tb} {id : Int} {L : List Int} {i : Nat} (hi : i < L.length) : waitB T id (L.take i) (L.drop i) = (inL T.toks L[i] && (!inL (L.take i) L[i] && (decide (T.nx L[i] = some id) && waitB T id (L.take (i + 1)) (L.drop (i + 1))))) := by
  rw [List.drop_eq_getElem_cons hi, ← List.take_append_getElem hi]
  rfl
set_option maxHeartbeats 16000000 in
set_option maxRecDepth 100000 in
theorem refHeld20_any (al : Option Addr) (nl cl : Nat) (vs : Value) (Ss : List Sr) (T : Tb) (id h : Int) (va : Value) (L : List Int) (W : World) (ha : SeatsAt W vs Ss) (hse : Ss.map stp = T.sts) (hl : Ss.length ≤ 1000) (hok : ∀ x ∈ Ss, SrOk x) (hi : IntsAt W va L) (hL : L.length ≤ 1000) :
    Calls Tryz.prog 28 #[tbv (.slice al nl cl) vs, lkv id h va] W fun e w' => e = .returned (.bool (holdB T id h && waitB T id [] L)) ∧ Below W.heap.size W w' := by
  obtain ⟨r, hr⟩ : ∃ r, (holdB T id h && waitB T id [] L) = r := ⟨_, rfl⟩
  rw [hr]
  have HR := Lib.hid hr
  have htl := sts_len hse
  obtain ⟨a, c, rfl⟩ := RowsAt.form ha.rows
  obtain ⟨b, d, rfl⟩ := hi.form
  obtain ⟨sn, hsn⟩ : ∃ n, Ss.length = n := ⟨_, rfl⟩
  obtain ⟨ln, hln⟩ : ∃ n, L.length = n := ⟨_, rfl⟩
  have HSN := Lib.hid hsn
  have HLN := Lib.hid hln
  rw [hsn] at ha
  rw [hln] at hi hL
  rw [hsn, hln]
  have b1 := (Below.refl W.heap.size W).alloc (Nat.le_refl _) (.cells #[.slice al nl cl, .slice a sn c] 38)
  have X1 := Blk.new W [.slice al nl cl, .slice a sn c] 38
  obtain ⟨w1, hw1⟩ : ∃ w1, W.alloc (.cells #[.slice al nl cl, .slice a sn c] 38) = w1 := ⟨_, rfl⟩
  have z1 : w1.heap.size = W.heap.size + 1 := by rw [← hw1]; simp
  have b2 := (Below.refl w1.heap.size w1).alloc (Nat.le_refl _) (.cells #[.int .i64 id, .int .i64 h, .slice b ln d] 31)
  have X2 := Blk.new w1 [.int .i64 id, .int .i64 h, .slice b ln d] 31
  rw [hw1] at b1
  rw [show W.alloc (Obj.cells ([.slice al nl cl, .slice a sn c] : List Value).toArray 38) = w1 from hw1] at X1
  replace X1 := X1.kept b2
  have hB := b1.trans (b2.mono b1.size)
  have HA := Lib.hid (ha.below hB)
  have HI := Lib.hid (hi.below hB)
  have HB := Lib.hid hB
  have HBW := Lib.hid hB.size
  have HSE := Lib.hid hse
  have HOK := Lib.hid hok
  have HL := Lib.hid hl
  have HLL := Lib.hid hL
  have HTL := Lib.hid htl
  subst hw1
  clear hr ha hi hse hok hl hL b1 b2 hsn hln htl
  rw [z1] at X2
  clear z1
  go_enter Tryz.func28, Tryz.ntmps28
  go_upto_region 1 with fail
  generalize (W.alloc (.cells #[.slice al nl cl, .slice a sn c] 38)).alloc (.cells #[.int .i64 id, .int .i64 h, .slice b ln d] 31) = W0 at *
  generalize hBe : W.heap.size = B at *
  have HBE := Lib.hid hBe
  clear hBe
  have HHS := Lib.hid fun w' (hb : Below W0.heap.size W0 w') => refHas20_any al nl cl (.slice a sn c) Ss h id w' (HA.out.below hb) HL.out HOK.out
  rw [hasL_T HSE.out] at HHS
  have HST := Lib.hid fun w' (hb : Below W0.heap.size W0 w') u => refSeated20_any al nl cl (.slice a sn c) Ss u w' (RowsAt.kept HA.out.rows hb) (by have := HL.out; omega)
  rw [sts_toks HSE.out] at HST
  have hb0 := Below.refl W0.heap.size W0
  have T0 := X1.cell 0 rfl
  have T1 := X1.cell 1 rfl
  have S0 := X2.cell 0 rfl
  have S1 := X2.cell 1 rfl
  have S2 := X2.cell 2 rfl
  clear X1 X2
  cases hh : holdB T id h with
  | false =>
    rw [hh, Bool.false_and] at HR
    unfold holdB at hh
    simp only [Bool.or_eq_false_iff] at hh
    obtain ⟨hz, hh2⟩ := hh
    rw [hh2] at HHS
    have hz2 : ¬ h = 0 := by simpa using hz
    clear hh2
    go_wp2_with (go_at_call 60; (with_reducible refine (HHS.out _ hb0).mono ?_); rintro e w3 ⟨rfl, hb⟩; have HB3 := Lib.hid hb; clear hb)
    go_ret
    exact ⟨ret_b HR.out, by rw [HBE.out]; exact HB.out.trans (HB3.out.mono HBW.out)⟩
  | true =>
    rw [hh, Bool.true_and] at HR
    unfold holdB at hh
    simp only [Bool.or_eq_true, beq_iff_eq] at hh
    have HHH := Lib.hid hh
    clear hh
    go_cut [18] (fun c wx => c = .bool false ∧ Below W0.heap.size W0 wx)
    case first =>
      by_cases hz : h = 0
      · subst hz
        go_wp2
        go_meet
        exact ⟨rfl, hb0⟩
      · have hh2 := HHH.out.resolve_left hz
        rw [hh2] at HHS
        have hzb : (h == 0) = false := beq_noI hz
        clear hh2
        go_wp2_with (go_at_call 60; (with_reducible refine (HHS.out _ hb0).mono ?_); rintro e w3 ⟨rfl, hb⟩; have HB3 := Lib.hid hb; clear hb)
        go_meet
        exact ⟨rfl, HB3.out⟩
    case rest =>
      obtain ⟨rfl, hb8⟩ := hcut
      have HB8 := Lib.hid hb8
      clear HHS HHH hb0 S1 hb8
      go_wp2
      go_loopg [5] ln (fun kx iv ws => ∃ i : Nat, i ≤ ln ∧ ln - i ≤ kx ∧ iv = .int .i64 i ∧ Hid (waitB T id (L.take i) (L.drop i) = r) ∧ Below W0.heap.size W0 ws)
      case atStart => exact ⟨0, Nat.zero_le _, Nat.le_refl _, rfl, HR.out, HB8.out⟩
      case round =>
        clear HR HB8
        obtain ⟨i, hi, hix, rfl, HRI, hbr⟩ := hrel
        have HBR := Lib.hid hbr
        have t0 := (hbr.cell (World.block_lt_of_cell? _ _ T0)).trans T0
        have t1 := (hbr.cell (World.block_lt_of_cell? _ _ T1)).trans T1
        have s0 := (hbr.cell (World.block_lt_of_cell? _ _ S0)).trans S0
        have s2 := (hbr.cell (World.block_lt_of_cell? _ _ S2)).trans S2
        by_cases hit : i < ln
        · have i0 : (0 : Int) ≤ (i : Int) := by omega
          have i1 : (i : Int) < (ln : Int) := by omega
          have i2 : (i : Int) ≤ 1000 := by have := HLL.out; omega
          have hil : i < L.length := by rw [HLN.out]; exact hit
          obtain ⟨g2, o2, c2, e2, hlc, _, m0⟩ := (HI.out.below hbr).spot i hil
          rw [HLN.out] at e2
          cases e2
          rw [HLN.out] at hlc
          have HIT := Lib.hid (And.intro hit hix)
          have HRI2 := HRI.out
          rw [waitB_step hil] at HRI2
          have hfr := RowsAt.ints (RowsAt.front (IntsAt.rows HI.out) i (by omega))
          obtain ⟨t, hti⟩ : ∃ t, L[i]'hil = t := ⟨_, rfl⟩
          rw [hti] at m0 HRI2
          have GS := Lib.hid fun w' (hb : Below W0.heap.size W0 w') => HST.out w' hb t
          have GI := Lib.hid fun w' (hb : Below wr.heap.size wr w') => refIn_any (.slice (some ⟨g2, o2, none⟩) i d) (L.take i) t w' (hfr.below (hbr.trans (hb.mono hbr.size))) (by rw [List.length_take]; omega)
          have i3 : i ≤ d := by omega
          by_cases htm : t ∈ T.toks
          · obtain ⟨k, g, o, c', aw, cw, h1, h2, h3, h4, h5, h6⟩ := seat_spot (HA.out.below hbr) HSE.out htm
            rw [HSN.out] at h3
            cases h3
            rw [HSN.out] at h2
            rw [inL_iff20.2 htm, Bool.true_and] at HRI2
            rw [h1] at GS
            have k0 : (0 : Int) ≤ (k : Int) := by omega
            have k1 : (k : Int) < (sn : Int) := by omega
            have k2 : (k : Int) ≤ 1000 := by have := HL.out; have := HSN.out; omega
            have k4 : decide ((k : Int) < 0) = false := decide_eq_false (by omega)
            obtain ⟨wn, hwn⟩ : ∃ n, (T.want t).length = n := ⟨_, rfl⟩
            obtain ⟨gn, hgn⟩ : ∃ n, T.got t = n := ⟨_, rfl⟩
            have hnx : T.nx t = (T.want t)[gn]? := by unfold Tb.nx; rw [hgn]
            rw [hwn] at h5 h6
            rw [hgn] at h4
            have hgl : gn ≤ wn ∧ wn ≤ 1000 := by
              obtain ⟨q1, q2, q3⟩ := seatOK HSE.out HOK.out htm
              omega
            cases hin : inL (L.take i) t with
            | true =>
              rw [hin, Bool.not_true, Bool.false_and] at HRI2
              have HF := Lib.hid HRI2
              rw [hin] at GI
              clear hil hti hit hix hi hfr hbr h1 h2 h6 hwn hgn hnx hgl hin HRI2 HRI hlc
              go_upto_region 6 with fail
              refine wp_region_calm0 (by kernel_rfl) (by kernel_rfl) fun M => ?_
              have et0 := fun n : In M.w => n.cell (M.cell t0)
              have et1 := fun n : In M.w => n.cell (M.cell t1)
              have es2 := fun n : In M.w => n.cell (M.cell s2)
              have em0 := fun n : In M.w => n.cell (M.cell m0)
              have GS2 := fun n : In M.w => GS.out n.w (HBR.out.trans ((M.h.trans (n.h.mono M.h.size)).mono HBR.out.size))
              repeat (go_big_quiet_step ((go_at_call 38; with_reducible exact In.call (GS2 _))))
              clear GS2
              refine wpQuiet_nil ?_
              intro w6 hbw6
              clear et0 et1 es2 em0 M
              replace t0 := (hbw6.cell (World.block_lt_of_cell? _ _ t0)).trans t0
              replace t1 := (hbw6.cell (World.block_lt_of_cell? _ _ t1)).trans t1
              replace s0 := (hbw6.cell (World.block_lt_of_cell? _ _ s0)).trans s0
              replace s2 := (hbw6.cell (World.block_lt_of_cell? _ _ s2)).trans s2
              replace m0 := (hbw6.cell (World.block_lt_of_cell? _ _ m0)).trans m0
              replace h4 := (hbw6.cell (World.block_lt_of_cell? _ _ h4)).trans h4
              replace h5 := (hbw6.cell (World.block_lt_of_cell? _ _ h5)).trans h5
              go_upto_region 7 with fail
              refine wp_region_calm0 (by kernel_rfl) (by kernel_rfl) fun M => ?_
              have et0 := fun n : In M.w => n.cell (M.cell t0)
              have et1 := fun n : In M.w => n.cell (M.cell t1)
              have es0 := fun n : In M.w => n.cell (M.cell s0)
              have es2 := fun n : In M.w => n.cell (M.cell s2)
              have em0 := fun n : In M.w => n.cell (M.cell m0)
              have eh4 := fun n : In M.w => n.cell (M.cell h4)
              have eh5 := fun n : In M.w => n.cell (M.cell h5)
              have GI2 := fun n : In M.w => GI.out n.w (hbw6.trans ((M.h.trans (n.h.mono M.h.size)).mono hbw6.size))
              repeat (go_big_quiet_step ((go_at_call 26; with_reducible exact In.call_same (GI2 _))))
              clear GI2
              refine wpQuiet_nil ?_
              intro w7 hbw7
              clear et0 et1 es0 es2 em0 eh4 eh5 M
              have HB3 := Lib.hid (HBR.out.trans ((hbw6.trans (hbw7.mono hbw6.size)).mono HBR.out.size))
              clear hbw6 hbw7 t0 t1 s0 s2 m0 h4 h5
              go_wp2
              go_ret
              exact ⟨ret_b HF.out, by rw [HBE.out]; exact HB.out.trans (HB3.out.mono HBW.out)⟩
            | false =>
              rw [hin, Bool.not_false, Bool.true_and] at HRI2
              rw [hin] at GI
              by_cases hgw : gn = wn
              · have hno : T.nx t = none := by rw [hnx, List.getElem?_eq_none (by omega)]
                rw [hno] at HRI2
                have HF := Lib.hid (show false = r by rw [← HRI2]; simp)
                subst hgw
                clear hil hti hit hix hi hfr hbr h1 h2 h6 hwn hgn hnx hgl hin HRI2 HRI hno hlc
                go_upto_region 6 with fail
                refine wp_region_calm0 (by kernel_rfl) (by kernel_rfl) fun M => ?_
                have et0 := fun n : In M.w => n.cell (M.cell t0)
                have et1 := fun n : In M.w => n.cell (M.cell t1)
                have es2 := fun n : In M.w => n.cell (M.cell s2)
                have em0 := fun n : In M.w => n.cell (M.cell m0)
                have GS2 := fun n : In M.w => GS.out n.w (HBR.out.trans ((M.h.trans (n.h.mono M.h.size)).mono HBR.out.size))
                repeat (go_big_quiet_step ((go_at_call 38; with_reducible exact In.call (GS2 _))))
                clear GS2
                refine wpQuiet_nil ?_
                intro w6 hbw6
                clear et0 et1 es2 em0 M
                replace t0 := (hbw6.cell (World.block_lt_of_cell? _ _ t0)).trans t0
                replace t1 := (hbw6.cell (World.block_lt_of_cell? _ _ t1)).trans t1
                replace s0 := (hbw6.cell (World.block_lt_of_cell? _ _ s0)).trans s0
                replace s2 := (hbw6.cell (World.block_lt_of_cell? _ _ s2)).trans s2
                replace m0 := (hbw6.cell (World.block_lt_of_cell? _ _ m0)).trans m0
                replace h4 := (hbw6.cell (World.block_lt_of_cell? _ _ h4)).trans h4
                replace h5 := (hbw6.cell (World.block_lt_of_cell? _ _ h5)).trans h5
                go_upto_region 7 with fail
                refine wp_region_calm0 (by kernel_rfl) (by kernel_rfl) fun M => ?_
                have et0 := fun n : In M.w => n.cell (M.cell t0)
                have et1 := fun n : In M.w => n.cell (M.cell t1)
                have es0 := fun n : In M.w => n.cell (M.cell s0)
                have es2 := fun n : In M.w => n.cell (M.cell s2)
                have em0 := fun n : In M.w => n.cell (M.cell m0)
                have eh4 := fun n : In M.w => n.cell (M.cell h4)
                have eh5 := fun n : In M.w => n.cell (M.cell h5)
                have GI2 := fun n : In M.w => GI.out n.w (hbw6.trans ((M.h.trans (n.h.mono M.h.size)).mono hbw6.size))
                repeat (go_big_quiet_step ((go_at_call 26; with_reducible exact In.call_same (GI2 _))))
                clear GI2
                refine wpQuiet_nil ?_
                intro w7 hbw7
                clear et0 et1 es0 es2 em0 eh4 eh5 M
                have HB3 := Lib.hid (HBR.out.trans ((hbw6.trans (hbw7.mono hbw6.size)).mono HBR.out.size))
                clear hbw6 hbw7 t0 t1 s0 s2 m0 h4 h5
                go_wp2
                go_ret
                exact ⟨ret_b HF.out, by rw [HBE.out]; exact HB.out.trans (HB3.out.mono HBW.out)⟩
              · have hgl2 : gn < (T.want t).length := by omega
                obtain ⟨g5, o5, c5, e5, _, _, n0⟩ := h6.spot gn hgl2
                rw [hwn] at e5
                cases e5
                have g0 : (0 : Int) ≤ (gn : Int) := by omega
                have g1 : (gn : Int) < (wn : Int) := by omega
                have g3 : (gn : Int) ≤ 1000 := by omega
                have g4 : ((gn : Int) == (wn : Int)) = false := beq_noI (by omega)
                obtain ⟨x, hx⟩ : ∃ x, (T.want t)[gn]'hgl2 = x := ⟨_, rfl⟩
                rw [hx] at n0
                rw [List.getElem?_eq_getElem hgl2, hx] at hnx
                rw [hnx] at HRI2
                by_cases hxi : x = id
                · subst hxi
                  rw [decide_eq_true rfl, Bool.true_and] at HRI2
                  have HRN := Lib.hid HRI2
                  clear hil hti hit hix hi hfr hbr h1 h2 h6 hwn hgn hnx hgl hin HRI2 HRI hgl2 hx hgw hlc
                  go_upto_region 6 with fail
                  refine wp_region_calm0 (by kernel_rfl) (by kernel_rfl) fun M => ?_
                  have et0 := fun n : In M.w => n.cell (M.cell t0)
                  have et1 := fun n : In M.w => n.cell (M.cell t1)
                  have es2 := fun n : In M.w => n.cell (M.cell s2)
                  have em0 := fun n : In M.w => n.cell (M.cell m0)
                  have GS2 := fun n : In M.w => GS.out n.w (HBR.out.trans ((M.h.trans (n.h.mono M.h.size)).mono HBR.out.size))
                  repeat (go_big_quiet_step ((go_at_call 38; with_reducible exact In.call (GS2 _))))
                  clear GS2
                  refine wpQuiet_nil ?_
                  intro w6 hbw6
                  clear et0 et1 es2 em0 M
                  replace t0 := (hbw6.cell (World.block_lt_of_cell? _ _ t0)).trans t0
                  replace t1 := (hbw6.cell (World.block_lt_of_cell? _ _ t1)).trans t1
                  replace s0 := (hbw6.cell (World.block_lt_of_cell? _ _ s0)).trans s0
                  replace s2 := (hbw6.cell (World.block_lt_of_cell? _ _ s2)).trans s2
                  replace m0 := (hbw6.cell (World.block_lt_of_cell? _ _ m0)).trans m0
                  replace h4 := (hbw6.cell (World.block_lt_of_cell? _ _ h4)).trans h4
                  replace h5 := (hbw6.cell (World.block_lt_of_cell? _ _ h5)).trans h5
                  replace n0 := (hbw6.cell (World.block_lt_of_cell? _ _ n0)).trans n0
                  go_upto_region 7 with fail
                  refine wp_region_calm0 (by kernel_rfl) (by kernel_rfl) fun M => ?_
                  have et0 := fun n : In M.w => n.cell (M.cell t0)
                  have et1 := fun n : In M.w => n.cell (M.cell t1)
                  have es0 := fun n : In M.w => n.cell (M.cell s0)
                  have es2 := fun n : In M.w => n.cell (M.cell s2)
                  have em0 := fun n : In M.w => n.cell (M.cell m0)
                  have eh4 := fun n : In M.w => n.cell (M.cell h4)
                  have eh5 := fun n : In M.w => n.cell (M.cell h5)
                  have en0 := fun n : In M.w => n.cell (M.cell n0)
                  have GI2 := fun n : In M.w => GI.out n.w (hbw6.trans ((M.h.trans (n.h.mono M.h.size)).mono hbw6.size))
                  repeat (go_big_quiet_step ((go_at_call 26; with_reducible exact In.call_same (GI2 _))))
                  clear GI2
                  refine wpQuiet_nil ?_
                  intro w7 hbw7
                  clear et0 et1 es0 es2 em0 eh4 eh5 en0 M
                  have HB3 := Lib.hid (HBR.out.trans ((hbw6.trans (hbw7.mono hbw6.size)).mono HBR.out.size))
                  clear hbw6 hbw7 t0 t1 s0 s2 m0 h4 h5 n0
                  go_wp2
                  go_roundg (ln - (i + 1))
                  case measure => have := HIT.out; omega
                  case rel => exact ⟨i + 1, by have := HIT.out; omega, Nat.le_refl _, by go_num, HRN.out, HB3.out⟩
                · rw [decide_eq_false (fun h => hxi (Option.some.inj h)), Bool.false_and] at HRI2
                  have HF := Lib.hid HRI2
                  have hxb : (x == id) = false := beq_noI hxi
                  clear hil hti hit hix hi hfr hbr h1 h2 h6 hwn hgn hnx hgl hin HRI2 HRI hgl2 hx hgw hlc
                  go_upto_region 6 with fail
                  refine wp_region_calm0 (by kernel_rfl) (by kernel_rfl) fun M => ?_
                  have et0 := fun n : In M.w => n.cell (M.cell t0)
                  have et1 := fun n : In M.w => n.cell (M.cell t1)
                  have es2 := fun n : In M.w => n.cell (M.cell s2)
                  have em0 := fun n : In M.w => n.cell (M.cell m0)
                  have GS2 := fun n : In M.w => GS.out n.w (HBR.out.trans ((M.h.trans (n.h.mono M.h.size)).mono HBR.out.size))
                  repeat (go_big_quiet_step ((go_at_call 38; with_reducible exact In.call (GS2 _))))
                  clear GS2
                  refine wpQuiet_nil ?_
                  intro w6 hbw6
                  clear et0 et1 es2 em0 M
                  replace t0 := (hbw6.cell (World.block_lt_of_cell? _ _ t0)).trans t0
                  replace t1 := (hbw6.cell (World.block_lt_of_cell? _ _ t1)).trans t1
                  replace s0 := (hbw6.cell (World.block_lt_of_cell? _ _ s0)).trans s0
                  replace s2 := (hbw6.cell (World.block_lt_of_cell? _ _ s2)).trans s2
                  replace m0 := (hbw6.cell (World.block_lt_of_cell? _ _ m0)).trans m0
                  replace h4 := (hbw6.cell (World.block_lt_of_cell? _ _ h4)).trans h4
                  replace h5 := (hbw6.cell (World.block_lt_of_cell? _ _ h5)).trans h5
                  replace n0 := (hbw6.cell (World.block_lt_of_cell? _ _ n0)).trans n0
                  go_upto_region 7 with fail
                  refine wp_region_calm0 (by kernel_rfl) (by kernel_rfl) fun M => ?_
                  have et0 := fun n : In M.w => n.cell (M.cell t0)
                  have et1 := fun n : In M.w => n.cell (M.cell t1)
                  have es0 := fun n : In M.w => n.cell (M.cell s0)
                  have es2 := fun n : In M.w => n.cell (M.cell s2)
                  have em0 := fun n : In M.w => n.cell (M.cell m0)
                  have eh4 := fun n : In M.w => n.cell (M.cell h4)
                  have eh5 := fun n : In M.w => n.cell (M.cell h5)
                  have en0 := fun n : In M.w => n.cell (M.cell n0)
                  have GI2 := fun n : In M.w => GI.out n.w (hbw6.trans ((M.h.trans (n.h.mono M.h.size)).mono hbw6.size))
                  repeat (go_big_quiet_step ((go_at_call 26; with_reducible exact In.call_same (GI2 _))))
                  clear GI2
                  refine wpQuiet_nil ?_
                  intro w7 hbw7
                  clear et0 et1 es0 es2 em0 eh4 eh5 en0 M
                  have HB3 := Lib.hid (HBR.out.trans ((hbw6.trans (hbw7.mono hbw6.size)).mono HBR.out.size))
                  clear hbw6 hbw7 t0 t1 s0 s2 m0 h4 h5 n0
                  go_wp2
                  go_ret
                  exact ⟨ret_b HF.out, by rw [HBE.out]; exact HB.out.trans (HB3.out.mono HBW.out)⟩
          · rw [plc_none htm] at GS
            have hF : inL T.toks t = false := by unfold inL; exact decide_eq_false htm
            rw [hF, Bool.false_and] at HRI2
            have HF := Lib.hid HRI2
            clear hil hti hit hix hi hfr hbr htm hF HRI2 HRI GI hlc
            go_upto_region 6 with fail
            refine wp_region_calm0 (by kernel_rfl) (by kernel_rfl) fun M => ?_
            have et0 := fun n : In M.w => n.cell (M.cell t0)
            have et1 := fun n : In M.w => n.cell (M.cell t1)
            have es2 := fun n : In M.w => n.cell (M.cell s2)
            have em0 := fun n : In M.w => n.cell (M.cell m0)
            have GS2 := fun n : In M.w => GS.out n.w (HBR.out.trans ((M.h.trans (n.h.mono M.h.size)).mono HBR.out.size))
            repeat (go_big_quiet_step ((go_at_call 38; with_reducible exact In.call (GS2 _))))
            clear GS2
            refine wpQuiet_nil ?_
            intro w6 hbw6
            clear et0 et1 es2 em0 M
            replace t0 := (hbw6.cell (World.block_lt_of_cell? _ _ t0)).trans t0
            replace t1 := (hbw6.cell (World.block_lt_of_cell? _ _ t1)).trans t1
            replace s0 := (hbw6.cell (World.block_lt_of_cell? _ _ s0)).trans s0
            replace s2 := (hbw6.cell (World.block_lt_of_cell? _ _ s2)).trans s2
            replace m0 := (hbw6.cell (World.block_lt_of_cell? _ _ m0)).trans m0
            go_upto_region 7 with fail
            refine wp_region_calm0 (by kernel_rfl) (by kernel_rfl) fun M => ?_
            have et0 := fun n : In M.w => n.cell (M.cell t0)
            have et1 := fun n : In M.w => n.cell (M.cell t1)
            have es0 := fun n : In M.w => n.cell (M.cell s0)
            have es2 := fun n : In M.w => n.cell (M.cell s2)
            have em0 := fun n : In M.w => n.cell (M.cell m0)
            repeat (go_big_quiet_step (fail))
            refine wpQuiet_nil ?_
            intro w7 hbw7
            clear et0 et1 es0 es2 em0 M
            have HB3 := Lib.hid (HBR.out.trans ((hbw6.trans (hbw7.mono hbw6.size)).mono HBR.out.size))
            clear hbw6 hbw7 t0 t1 s0 s2 m0
            go_wp2
            go_ret
            exact ⟨ret_b HF.out, by rw [HBE.out]; exact HB.out.trans (HB3.out.mono HBW.out)⟩
        · have i1 : ¬ (i : Int) < (ln : Int) := by omega
          have HF := Lib.hid (show true = r by
            rw [← HRI.out, List.drop_eq_nil_of_le (by rw [HLN.out]; omega)]; rfl)
          clear hi hix hit hbr HRI s0 t0 t1
          go_wp2
          go_ret
          exact ⟨ret_b HF.out, by rw [HBE.out]; exact HB.out.trans (HBR.out.mono HBW.out)⟩
end Go.Proofs.YtbkoogffnchldaaGreat
