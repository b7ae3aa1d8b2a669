/- Texts of this proof, joined: DgG. -/
import Derived.Test.YthchkhgimnchcaaGreatBun24
import Derived.Deep.AppendLies
import Derived.Deep.DeepCutAuto
/- Stage 24's program: Admit: the nodes one behind the other, then what stands right behind each, then what is ready. (wip/gen/gen24G.py writes this text.) -/
namespace Go.Proofs.YthchkhgimnchcaaGreat
open Go.RowKit

theorem aft_nodup {x : Sp} (h : chk x = 0) : x.aft.Nodup := by
  rcases chk_cases x with ⟨_, h2⟩ | ⟨_, _, h2⟩ | ⟨_, h3, _⟩
  · rw [h] at h2; cases h2
  · rw [h] at h2; cases h2
  · unfold aftB rightB at h3
    simp only [Bool.and_eq_true, decide_eq_true_eq] at h3
    exact h3.2.1.nodup
/-- those that come right behind, with a batch's first k specs, and j numbers of the next -/
def nxB (nx : Int → List Int) (L : List Sp) (k : Nat) (x : Sp) (j : Nat) : Int → List Int := fun n => nxA nx (L.take k) n ++ if inL (x.aft.take j) n then [x.id] else []
theorem nxA_nil (nx : Int → List Int) : nxA nx [] = nx := by
  funext n
  unfold nxA
  simp [idsO]
theorem nxB_zero (nx : Int → List Int) (L : List Sp) (k : Nat) (x : Sp) : nxB nx L k x 0 = nxA nx (L.take k) := by
  funext n
  unfold nxB
  simp [inL]
theorem nxB_end (nx : Int → List Int) (L : List Sp) (k : Nat) (hk : k < L.length) : nxB nx L k L[k] L[k].aft.length = nxA nx (L.take (k + 1)) := by
  funext n
  unfold nxB nxA
  rw [List.take_length, List.take_succ_eq_append_getElem hk, List.filter_append, List.append_assoc]
  congr 1
  unfold idsO
  rw [List.map_append]
  congr 1
  cases h : inL L[k].aft n
  · rw [List.filter_cons_of_neg (by simp [h])]
    simp
  · rw [List.filter_cons_of_pos (by simp [h])]
    simp
theorem nxB_step (nx : Int → List Int) (L : List Sp) (k : Nat) (x : Sp) (hn : x.aft.Nodup) (j : Nat) (hj : j < x.aft.length) :
    updD (nxB nx L k x j) x.aft[j] (nxB nx L k x j x.aft[j] ++ [x.id]) = nxB nx L k x (j + 1) := by
  funext n
  have hno : x.aft[j] ∉ x.aft.take j := fun hm => by
    rw [← List.take_append_drop j x.aft, List.drop_eq_getElem_cons hj] at hn
    exact (List.nodup_append.1 hn).2.2 _ hm _ List.mem_cons_self rfl
  by_cases e : n = x.aft[j]
  · subst e
    rw [updD_same]
    unfold nxB
    have h1 : ¬ inL (x.aft.take j) x.aft[j] = true := fun h => hno (inL_iff.1 h)
    have h2 : inL (x.aft.take (j + 1)) x.aft[j] = true := inL_iff.2 (by rw [List.take_succ_eq_append_getElem hj]; exact List.mem_append.2 (.inr (List.mem_singleton.2 rfl)))
    rw [if_neg h1, if_pos h2, List.append_nil]
  · rw [updD_other _ _ e]
    unfold nxB
    have h2 : inL (x.aft.take (j + 1)) n = inL (x.aft.take j) n := by
      rw [Bool.eq_iff_iff, inL_iff, inL_iff, List.take_succ_eq_append_getElem hj, List.mem_append, List.mem_singleton]
      exact ⟨fun h => h.resolve_right e, .inl⟩
    rw [h2]

/-- what Admit has at hand: the store, the free ones in new memory; what has changed -/
structure AdW (F : Nat → Prop) (w0 w : World) (p mb : Nat) (room : Int) (T : List Tk) (nx : Int → List Int) (g : Int → Option Nat) (Fm : Int → Nat → Prop) (vf : Value) (free : List Int) : Prop where
  R : DagR w p mb room T nx g Fm
  fr : OwnI w w0.heap.size vf free
  nf : ∀ k, vf.ownBlock = some k → ¬ FpT p mb T Fm k
  mv : ∀ k, FpT p mb T Fm k → F k ∨ w0.heap.size ≤ k
  o : Only F w0 w
section
variable {F : Nat → Prop} {w0 w w' : World} {p mb : Nat} {room : Int} {T : List Tk} {nx : Int → List Int} {g : Int → Option Nat} {Fm : Int → Nat → Prop} {vf : Value} {free : List Int}
theorem AdW.kept (h : AdW F w0 w p mb room T nx g Fm vf free) (hb : Below w.heap.size w w') : AdW F w0 w' p mb room T nx g Fm vf free :=
  ⟨h.R.kept hb, OwnR.kept h.fr hb, h.nf, h.mv, h.o.trans ((Only.of_below hb).mono fun _ h => h)⟩
theorem AdW.more (h : AdW F w0 w p mb room T nx g Fm vf free) {w5 : World} (hb : Below w.heap.size w w5) {x : Sp} (hx : x.id ∉ idsK T) (h64 : I64 x.id) (hnx : nx x.id = []) (hl : T.length ≤ 1000) {a' : Option Addr} {c' b : Nat} (hX : Blk w5 b (csNd x 1 a' c' (.slice none 0 0))) (ho : OwnI w5 w.heap.size (.slice a' x.aft.length c') x.aft)
    (hbl : w.heap.size ≤ b) (hne : (Value.slice a' x.aft.length c').ownBlock ≠ some b) :
    ∃ w3, (Instr.mapUpdate 56 (.map (some mb)) (.int .i64 x.id) (.pointer (some ⟨b, 0, none⟩))).run Tryz.prog w5 = .ok () w3 ∧
      ∃ g' Fm', AdW F w0 w3 p mb room (T ++ [mkK x 1]) nx g' Fm' vf free := by
  obtain ⟨w3, hrun, g', Fm', h1, h2, h3⟩ := h.R.more hb hx h64 hnx hl hX ho hbl hne
  have hz := h.o.size
  have hmb : FpT p mb T Fm mb := .inr (.inl rfl)
  refine ⟨w3, hrun, g', Fm', h1, OwnR.only23 h.fr h3 (fun k hk e => h.nf k hk (e ▸ hmb)), fun k hk e => ?_, fun k hk => ?_, ⟨h3.os.trans h.o.os, h3.tape.trans h.o.tape, h3.output.trans h.o.output, Nat.le_trans hz h3.size, fun k hk hf => ?_⟩⟩
  · rcases h2 k e with h4 | h4
    · exact h.nf k hk h4
    · have := (World.ownsRow.lt h.fr k hk).2
      omega
  · rcases h2 k hk with h4 | h4
    · exact h.mv k h4
    · exact .inr (Nat.le_trans hz h4)
  · exact (h3.block k (by omega) fun e => by
      rcases h.mv mb hmb with h4 | h4
      · exact hf (e ▸ h4)
      · omega).trans (h.o.block k hk hf)
theorem AdW.next (h : AdW F w0 w p mb room T nx g Fm vf free) {t : Tk} (ht : t ∈ T) {b : Nat} {a : Option Addr} {c : Nat} {vn : Value} (hg : g t.sp.id = some b) (hN : NdP w b t.sp t.st (nx t.sp.id) (Fm t.sp.id) a c vn) (hnd : (idsK T).Nodup)
    (hgr : w.grownBy w' vn.ownBlock) {vn' : Value} {nl' : List Int} (ho : OwnI w' 0 vn' nl') (hv : ∀ k, vn'.ownBlock = some k → vn.ownBlock = some k ∨ (w.heap.size ≤ k ∧ k < w'.heap.size)) {bx : Nat} (hbx : bx < w.heap.size) (hbF : ¬ FpT p mb T Fm bx) :
    AdW F w0 (w'.setCell ⟨b, 14, none⟩ vn') p mb room T (updD nx t.sp.id nl') g (updD Fm t.sp.id fun k => Fm t.sp.id k ∨ vn'.ownBlock = some k) vf free ∧ ¬ FpT p mb T (updD Fm t.sp.id fun k => Fm t.sp.id k ∨ vn'.ownBlock = some k) bx ∧ (w'.setCell ⟨b, 14, none⟩ vn').heap[bx]? = w.heap[bx]? := by
  have hti : t.sp.id ∈ idsK T := idsK_mem.2 ⟨t, ht, rfl⟩
  have hz := h.o.size
  have h1 := h.R.setNx ht hg hN hnd hgr ho hv
  have hb : FpT p mb T Fm b := .inr (.inr ⟨_, hti, hN.fb⟩)
  have hvn : ∀ k, vn.ownBlock = some k → FpT p mb T Fm k := fun k hk => .inr (.inr ⟨_, hti, (hN.fn k hk).1⟩)
  have hF : ∀ k, FpT p mb T (updD Fm t.sp.id fun k => Fm t.sp.id k ∨ vn'.ownBlock = some k) k → FpT p mb T Fm k ∨ w.heap.size ≤ k := fun k hk => by
    rcases hk with e | e | ⟨n, hn, hk⟩
    · exact .inl (.inl e)
    · exact .inl (.inr (.inl e))
    · by_cases e : n = t.sp.id
      · subst e
        rw [updD_same] at hk
        rcases hk with hk | hk
        · exact .inl (.inr (.inr ⟨_, hn, hk⟩))
        · rcases hv k hk with h2 | h2
          · exact .inl (hvn k h2)
          · exact .inr h2.1
      · rw [updD_other _ _ e] at hk
        exact .inl (.inr (.inr ⟨n, hn, hk⟩))
  have hsame : ∀ k, k < w.heap.size → ¬ FpT p mb T Fm k → (w'.setCell ⟨b, 14, none⟩ vn').heap[k]? = w.heap[k]? := fun k hk hf =>
    (Below.heap_setCell w' _ _ k fun e => hf (by rw [show k = b from e]; exact hb)).trans (hgr.block k hk fun e => hf (hvn k e.symm))
  have hlt := World.ownsRow.lt h.fr
  refine ⟨⟨h1, OwnI.same h.fr fun k hk => hsame k (hlt k hk).2 (h.nf k hk), fun k hk e => ?_, fun k hk => ?_, ⟨hgr.os.trans h.o.os, hgr.tape.trans h.o.tape, hgr.output.trans h.o.output, by rw [size_set]; exact Nat.le_trans hz hgr.size, fun k hk hf => ?_⟩⟩, fun e => ?_, hsame bx hbx hbF⟩
  · rcases hF k e with h2 | h2
    · exact h.nf k hk h2
    · have := (hlt k hk).2
      omega
  · rcases hF k hk with h2 | h2
    · exact h.mv k h2
    · exact .inr (Nat.le_trans hz h2)
  · exact (hsame k (by omega) fun e => (h.mv k e).elim hf fun h2 => by omega).trans (h.o.block k hk hf)
  · rcases hF bx e with h2 | h2
    · exact hbF h2
    · omega
theorem AdW.stat (h : AdW F w0 w p mb room T nx g Fm vf free) {n : Int} {b : Nat} (hn : n ∈ idsK T) (hg : g n = some b) (s : Int) : AdW F w0 (w.setCell ⟨b, 9, none⟩ (.int .i64 s)) p mb room (setsT T [n] s) nx g Fm vf free := by
  have hb : FpT p mb T Fm b := by
    obtain ⟨t, ht, b', a, c, vn, e, h1, h2⟩ := h.R.at hn
    rw [hg] at h1
    injection h1 with h1
    rw [h1]
    exact .inr (.inr ⟨n, hn, h2.fb⟩)
  refine ⟨h.R.setSt hn hg s, OwnR.away h.fr _ _ fun e => h.nf b e hb, fun k hk => by rw [FpT_sets]; exact h.nf k hk, fun k hk => by rw [FpT_sets] at hk; exact h.mv k hk, ⟨h.o.os, h.o.tape, h.o.output, by rw [size_set]; exact h.o.size, fun k hk hf => ?_⟩⟩
  exact (Below.heap_setCell w _ _ k fun e => by
    rcases h.mv b hb with h4 | h4
    · exact hf (by rw [show k = b from e]; exact h4)
    · have e2 : k = b := e
      omega).trans (h.o.block k hk hf)
end

/-- a number in new memory, the world as it is; then behind a list of one's own -/
def lkNew1 (W : World) (n : Int) : LkS := ⟨Unit, ⟨()⟩, fun _ => .slice (some ⟨W.heap.size, 0, none⟩) 1 1, fun _ w => w = W.alloc (.cells #[.int .i64 n] 3)⟩
theorem lkNew1_at {P : Program} {X : Nat → Prop} {wr W : World} {n : Int} {o : Oper} {a : Act} (hS : Only X wr W) (he : ∀ w, w = W → (execOp a.eval o).run P w = .ok (.value (.slice (some ⟨w.heap.size, 0, none⟩) 1 1)) (w.alloc (.cells #[.int .i64 n] 3))) : (lkNew1 W n).at P o a (Only X wr) (fun w => w = W) :=
  ⟨fun w _ hG => by
    subst hG
    rw [he w rfl]
    exact ⟨(), rfl, rfl, hS.trans ((Only.of_below ((Below.refl _ _).alloc (Nat.le_refl _) _)).mono fun _ h => h)⟩⟩
def lkApp (W1 : World) (ra : Option Addr) (rc : Nat) (L : List Int) (n : Int) : LkS := ⟨Nat × Nat, ⟨(0, 0)⟩, fun y => .slice (some ⟨y.1, 0, none⟩) (L.length + 1) y.2, fun y w => w.ownsRow 0 3 1 (.slice (some ⟨y.1, 0, none⟩) (L.length + 1) y.2) (L.length + 1) (flats csI L ++ [.int .i64 n]) ∧ W1.grownBy w (Value.slice ra L.length rc).ownBlock ∧ ((Value.slice ra L.length rc).ownBlock = some y.1 ∨ y.1 = W1.heap.size) ∧ y.1 < w.heap.size⟩
theorem lkApp_at {wr W : World} {ra : Option Addr} {rc : Nat} {L : List Int} {n : Int} {o : Oper} {a : Act} {X : Nat → Prop} (hown : OwnI W 0 (.slice ra L.length rc) L) (hl : L.length ≤ 1000) (hX : X = fun k => (Value.slice ra L.length rc).ownBlock = some k) (hS : Only X wr W)
    (he : ∀ v' w', (Builtin.append_ #[32, 32] o.type #[.slice ra L.length rc, .slice (some ⟨W.heap.size, 0, none⟩) 1 1]).run Tryz.prog (W.alloc (.cells #[.int .i64 n] 3)) = .ok v' w' → (execOp a.eval o).run Tryz.prog (W.alloc (.cells #[.int .i64 n] 3)) = .ok (.value v') w') :
    (lkApp (W.alloc (.cells #[.int .i64 n] 3)) ra rc L n).at Tryz.prog o a (Only X wr) (fun w => w = W.alloc (.cells #[.int .i64 n] 3)) :=
  ⟨fun w _ hG => by
    subst hG
    obtain ⟨i0, hi, hz0, hz1, hz2⟩ := info_parts info_int
    obtain ⟨gg, cap, w', hrun, h1, h2, h3, h4⟩ := run_append_lies (P := Tryz.prog) (w := W.alloc (.cells #[.int .i64 n] 3)) 32 o.type 0 3 i0 (.int .i64 0) 1 8 Tryz.underlying32 hi hz0 hz1 hz2 rfl (by omega) (.slice ra L.length rc) L.length (flats csI L) (World.ownsRow.alloc hown _)
      ⟨W.heap.size, 0, none⟩ 1 1 [.int .i64 n] rfl (World.news_of_block (cs := #[.int .i64 n]) (t := 3) (fr := (0, 0)) (heap_alloc_new W _)) (by simp [Value.oneCell']) (by omega) (by unfold maxLen; omega) (by omega) (Nat.zero_le _) _ rfl
    rw [he _ _ hrun]
    refine ⟨(gg, cap), rfl, ⟨h1, h2, h3, h4⟩, (hS.trans ((Only.of_below ((Below.refl _ _).alloc (Nat.le_refl _) _)).mono fun _ h => h)).trans (Only.grown h2 fun k e => by rw [hX]; exact e)⟩⟩
/-- what an admission tells: the tasks, those that are ready, the error -/
def admDg (room : Int) (T : List Tk) (L : List Sp) : List Tk × List Int × Int := if bchk room T L = 0 then (admT T (freeO T L) L, freeO T L, 0) else (T, [], bchk room T L)
/-- what Admit hands back -/
def AdmsDg (F : Nat → Prop) (w : World) (p mb : Nat) (room : Int) (r : List Tk × List Int × Int) (e : Ending) (w' : World) : Prop :=
  ∃ v F' nx' g' Fm', e = .returned (.tuple #[v, .int .i64 r.2.2]) ∧ IntsAt w' v r.2.1 ∧ (∀ k, v.ownBlock = some k → w.heap.size ≤ k ∧ ¬ F' k) ∧ DagP F' w' p mb room r.1 nx' g' Fm' ∧ Mv F F' w w'
section
variable {F : Nat → Prop} {p mb : Nat} {room : Int} {T : List Tk} {nx : Int → List Int} {g : Int → Option Nat} {Fm : Int → Nat → Prop}
set_option maxHeartbeats 16000000 in
set_option maxRecDepth 100000 in
theorem dAdmit_any (w : World) (h : DagP F w p mb room T nx g Fm) (vl : Value) (L : List Sp) (hs : ∀ w', Only F w w' → SpsAt w' vl L) (hL : L.length ≤ 30) (h64 : Sp64 L) (haf : ∀ x ∈ L, x.aft.length ≤ 9223372036854775807) :
    Calls Tryz.prog 20 #[ndv p, vl] w (AdmsDg F w p mb room (admDg room T L)) := by
  have GV := Lib.hid (dView_any w h)
  have hTl : T.length ≤ 64 := by have := h.fit; have := h.room64; omega
  have hV64 : ∀ V : List Tk, V.map plK = T.map plK → ∀ t ∈ V, I64 t.sp.id ∧ I64 t.st := fun V hV t ht => by
    have h1 : plK t ∈ T.map plK := by rw [← hV]; exact List.mem_map.2 ⟨t, ht, rfl⟩
    obtain ⟨u, hu, e⟩ := List.mem_map.1 h1
    have e1 : u.sp.id = t.sp.id := show (plK u).sp.id = (plK t).sp.id by rw [e]
    have e2 : u.st = t.st := show (plK u).st = (plK t).st by rw [e]
    exact ⟨e1 ▸ (h.wf.id64 (idsK_mem.2 ⟨u, hu, rfl⟩)).1, e2 ▸ h.wf.st64 hu⟩
  have hvl := (hs w (Only.refl _ _)).form
  obtain ⟨la, lc, rfl⟩ := hvl
  have GC := Lib.hid fun vk V w' (hk : RowsAt w' 14 csTk vk V) (hV : V.map plK = T.map plK) (hb : Below w.heap.size w w') => bchk_congr hV (room := room) (L := L) ▸ bCheck_any room vk (.slice la L.length lc) V L w' hk (hs w' ((Only.of_below hb).mono fun _ h => h)) (by rw [plK_len hV]; omega) (by omega) (hV64 V hV) h64 haf
  have c0 := h.R.box.cell 0 rfl
  have HBX := Lib.hid h.R.box
  by_cases hchk : bchk room T L = 0
  · have hok := bchk_iff.1 hchk
    have ha8 : ∀ x ∈ L, x.aft.length ≤ 8 := fun x hx => chk_len (hok.chk x hx)
    have GR := Lib.hid fun vk V w' (hk : RowsAt w' 14 csTk vk V) (hV : V.map plK = T.map plK) (hb : Below w.heap.size w w') => freeO_congr hV (L := L) ▸ bFreeO_any vk (.slice la L.length lc) V L w' hk (hs w' ((Only.of_below hb).mono fun _ h => h)) (by rw [plK_len hV]; omega) (by omega) (hV64 V hV) h64 (fun x hx => by have := ha8 x hx; omega)
    rw [hchk] at GC
    have e0 : admDg room T L = (admT T (freeO T L) L, freeO T L, 0) := if_pos hchk
    rw [e0]
    have hperm := adm_same hok
    have hwf := h.wf.adm hok
    have hnxa := h.N.adm hok
    have hpl := h.pl.adm (L := L) (freeO T L)
    have hfl := freeO_len T L
    have hfit : ((admT T (freeO T L) L).length : Int) ≤ room := by rw [admT_len]; have := hok.fit; omega
    have hfsub : ∀ n ∈ freeO T L, n ∈ idsO L := fun n hn => by
      unfold freeO at hn
      obtain ⟨y, hy, rfl⟩ := idsO_mem.1 hn
      exact idsO_mem.2 ⟨y, (List.mem_filter.1 hy).1, rfl⟩
    generalize admT T (freeO T L) L = TA at *
    generalize freeO T L = free at *
    have hnx0 : ∀ n, n ∉ idsK T → nx n = [] := fun n hn => List.eq_nil_iff_forall_not_mem.2 fun x hx => hn (h.wf.pre n x ((h.N.1 n x).1 hx))
    have hnew : ∀ k (hk : k < L.length), L[k].id ∉ idsK (T ++ (L.take k).map fun x => mkK x 1) := fun k hk hm => by
      have e1 : idsK (T ++ (L.take k).map fun x => mkK x 1) = idsK T ++ idsO (L.take k) := by unfold idsK idsO; rw [List.map_append, List.map_map]; rfl
      rw [e1, List.mem_append] at hm
      rcases hm with hm | hm
      · exact hok.old (idsO_mem.2 ⟨L[k], List.getElem_mem hk, rfl⟩) hm
      · have h3 := hok.nodup
        rw [← List.take_append_drop k L, List.drop_eq_getElem_cons hk] at h3
        unfold idsO at h3 hm
        rw [List.map_append] at h3
        exact (List.nodup_append.1 h3).2.2 _ hm _ List.mem_cons_self rfl
    have hT1 : ∀ n, n ∈ idsK (T ++ L.map fun x => mkK x 1) ↔ n ∈ idsK T ∨ n ∈ idsO L := fun n => by
      have e1 : idsK (T ++ L.map fun x => mkK x 1) = idsK T ++ idsO L := by unfold idsK idsO; rw [List.map_append, List.map_map]; rfl
      rw [e1, List.mem_append]
    have hnd1 : (idsK (T ++ L.map fun x => mkK x 1)).Nodup := by
      have e1 : idsK (T ++ L.map fun x => mkK x 1) = idsK T ++ idsO L := by unfold idsK idsO; rw [List.map_append, List.map_map]; rfl
      rw [e1]
      exact List.nodup_append.2 ⟨h.wf.nodup, hok.nodup, fun a ha b hb e => hok.old hb (e ▸ ha)⟩
    have h641 : ∀ n ∈ idsK (T ++ L.map fun x => mkK x 1), I64 n := fun n hn => by
      rcases (hT1 n).1 hn with h1 | h1
      · exact (h.wf.id64 h1).1
      · obtain ⟨x, hx, rfl⟩ := idsO_mem.1 h1
        exact (h64 x hx).1
    have hids1 : ∀ x ∈ L, ∀ n ∈ x.aft, n ∈ idsK (T ++ L.map fun x => mkK x 1) := fun x hx n hn => (hT1 n).2 (hok.ids hx hn)
    have haftn : ∀ x ∈ L, x.aft.Nodup := fun x hx => aft_nodup (hok.chk x hx)
    have hnxl : ∀ k n, (nxA nx (L.take k) n).length ≤ 100 := fun k n => by
      have h1 := h.nx64 n
      unfold nxA
      rw [List.length_append, idsO_len]
      have h2 := List.length_filter_le (fun x => inL x.aft n) (L.take k)
      rw [List.length_take] at h2
      omega
    have HNX0 := Lib.hid hnx0
    have HNEW := Lib.hid hnew
    have HT1 := Lib.hid hT1
    have HND1 := Lib.hid hnd1
    have H641 := Lib.hid h641
    have HIDS1 := Lib.hid hids1
    have HAFTN := Lib.hid haftn
    have HNXL := Lib.hid hnxl
    have HPERM := Lib.hid hperm
    have HEND := Lib.hid (And.intro hwf (And.intro hnxa (And.intro hpl (And.intro hfit (And.intro h.room0 h.room64)))))
    have HOK := Lib.hid hok
    have HD := Lib.hid h
    have HS := Lib.hid hs
    have H64 := Lib.hid h64
    have HA8 := Lib.hid ha8
    have HFS := Lib.hid hfsub
    have HTL := Lib.hid hTl
    have l2 : (L.length : Int) ≤ 30 := by omega
    have l0 : (0 : Int) ≤ (L.length : Int) := by omega
    have f2 : (free.length : Int) ≤ 30 := by omega
    have hfp := h.fp
    have HFP := Lib.hid hfp
    clear hnx0 hnew hT1 hnd1 h641 hids1 haftn hnxl h hs h64 haf hV64 hchk hok ha8 e0 hperm hwf hnxa hpl hfit hfl hfsub hTl hfp
    go_enter Tryz.func20, Tryz.ntmps20
    go_wp2_with (first
      | (go_at_call 13; (with_reducible refine GV.out.mono ?_); rintro e w1 ⟨vk, V, rfl, q1, q2, q3, q4⟩; obtain ⟨ka, kc, e⟩ := RowsAt.form (OwnR.rows csTk_len q1); rw [plK_len q3] at e; subst e; have HK := Lib.hid (OwnR.rows csTk_len q1); have HV := Lib.hid q3; have HB1 := Lib.hid q4; clear q1 q2 q3 q4 c0; have c0 := (HBX.out.kept HB1.out).cell 0 rfl)
      | (go_at_call 39; (with_reducible refine (GC.out _ V _ HK.out HV.out HB1.out).mono ?_); rintro e w2 ⟨rfl, hb⟩; have HB2 := Lib.hid (HB1.out.trans (hb.mono HB1.out.size)); have HK2 := Lib.hid (RowsAt.kept HK.out hb); clear hb c0)
      | (go_at_call 40; (with_reducible refine (GR.out _ V _ HK2.out HV.out HB2.out).mono ?_); rintro e w3 ⟨vf, rfl, ho, hb⟩; obtain ⟨fa, fc, e⟩ := (OwnI.ints ho).form; subst e; have HF3 := Lib.hid (OwnR.base13 ho HB2.out.size); have HB3 := Lib.hid (HB2.out.trans (hb.mono HB2.out.size)); have HFN := Lib.hid (fun k hk => (World.ownsRow.lt ho k hk).1); clear ho hb))
    have hAW : AdW F w w3 p mb room T nx g Fm (.slice fa free.length fc) free := ⟨HD.out.R.kept HB3.out, HF3.out, fun k hk e => by
      have h1 := (World.ownsRow.lt HF3.out k hk).1
      have h2 := HD.out.R.lt k e
      omega, fun k hk => .inl ((HFP.out k).2 hk), (Only.of_below HB3.out).mono fun _ h => h⟩
    have HAW := Lib.hid hAW
    clear hAW HB1 HB2 HB3 HF3 HFN HK HK2 HV GV GC GR HBX
    go_loopg [36] L.length (fun kx iv ws => ∃ (k : Nat) (g1 : Int → Option Nat) (Fm1 : Int → Nat → Prop), k ≤ L.length ∧ L.length - k ≤ kx ∧ iv = .int .i64 k ∧ Hid (AdW F w ws p mb room (T ++ (L.take k).map fun x => mkK x 1) nx g1 Fm1 (.slice fa free.length fc) free))
    case atStart => exact ⟨0, g, Fm, Nat.zero_le _, Nat.le_refl _, rfl, by rw [List.take_zero, List.map_nil, List.append_nil]; exact HAW.out⟩
    case round =>
      obtain ⟨k, g1, Fm1, hk, hkx, rfl, HA⟩ := hrel
      by_cases hlt : k < L.length
      · obtain ⟨g0, o0, cc, id, prio, sk, ge, fx, fy, tx, ty, a, c, l, he, e, hlc, p0, p1, p2, p3, p4, p5, p6, p7, p8, hi8⟩ := (HS.out wr HA.out.o).spot k hlt
        cases e
        have HLT := Lib.hid (And.intro hlt hkx)
        have k0 : (0 : Int) ≤ (k : Int) := by omega
        have k1 : (k : Int) < (L.length : Int) := by omega
        have hno := HNEW.out k hlt
        have hx64 := (H64.out _ (List.getElem_mem hlt)).1
        have hxl := HA8.out _ (List.getElem_mem hlt)
        have hidL : L[k].id ∈ idsO L := idsO_mem.2 ⟨L[k], List.getElem_mem hlt, rfl⟩
        have hnil := HNX0.out L[k].id (HOK.out.old hidL)
        have htk : (T ++ (L.take (k + 1)).map fun x => mkK x 1) = (T ++ (L.take k).map fun x => mkK x 1) ++ [mkK L[k] 1] := by
          rw [List.take_succ_eq_append_getElem hlt, List.map_append, List.append_assoc]
          rfl
        have hTk : (T ++ (L.take k).map fun x => mkK x 1).length ≤ 1000 := by
          rw [List.length_append, List.length_map, List.length_take]
          have := HTL.out
          omega
        rw [he] at hno hx64 hxl hnil htk
        generalize (T ++ (L.take k).map fun x => mkK x 1) = Tk0 at *
        have hal := (Below.refl wr.heap.size wr).alloc (Nat.le_refl _) (.cells #[.int .i64 id, .int .i64 prio, .int .u64 sk, .int .u64 ge, .int .i64 fx, .int .i64 fy, .int .i64 tx, .int .i64 ty, .slice a l.length c] 49)
        have hX := Blk.new wr [.int .i64 id, .int .i64 prio, .int .u64 sk, .int .u64 ge, .int .i64 fx, .int .i64 fy, .int .i64 tx, .int .i64 ty, .slice a l.length c] 49
        have hA2 := HA.out.kept hal
        have hI2 := hi8.below hal
        have hc1 := hA2.R.box.cell 1 rfl
        have x0 := hX.cell 0 rfl
        have x1 := hX.cell 1 rfl
        have x2 := hX.cell 2 rfl
        have x3 := hX.cell 3 rfl
        have x4 := hX.cell 4 rfl
        have x5 := hX.cell 5 rfl
        have x6 := hX.cell 6 rfl
        have x7 := hX.cell 7 rfl
        have x8 := hX.cell 8 rfl
        have HTK := Lib.hid htk
        clear hal hX hi8 htk he hlc hk hkx hlt hidL HA
        go_upto_region 11 with fail
        generalize wr.alloc (.cells #[.int .i64 id, .int .i64 prio, .int .u64 sk, .int .u64 ge, .int .i64 fx, .int .i64 fy, .int .i64 tx, .int .i64 ty, .slice a l.length c] 49) = w4 at *
        generalize wr.heap.size = bx at *
        have HMORE := Lib.hid fun (w5 : World) (hb : Below w4.heap.size w4 w5) (a' : Option Addr) (c' b : Nat) hX ho hbl hne => AdW.more hA2 hb (x := ⟨id, prio, sk, ge, fx, fy, tx, ty, a, c, l⟩) hno hx64 hnil hTk (a' := a') (c' := c') (b := b) hX ho hbl hne
        have HCL := Lib.hid fun (w5 : World) (hb : Below w4.heap.size w4 w5) => tCloneO_any ⟨id, prio, sk, ge, fx, fy, tx, ty, a, c, l⟩ w5 (hI2.below hb) (by show l.length ≤ 1000; dsimp only at hxl; omega)
        dsimp only [spv] at HCL
        dsimp only at HMORE
        clear hA2 hno hx64 hnil hTk hI2 hxl
        refine wp_region_chain 11 [.calm 7, .own (lkClone w4.heap.size ⟨id, prio, sk, ge, fx, fy, tx, ty, a, c, l⟩), .calm 2, .own (lkNode w4.heap.size ⟨id, prio, sk, ge, fx, fy, tx, ty, a, c, l⟩)] [7, 10] rfl (by kernel_rfl) (by simp) (by kernel_rfl) (by kernel_rfl) ?_
        simp only [List.take_succ_cons, List.take_zero, List.drop_succ_cons, List.drop_zero]
        refine ⟨by simp, fun M => ?_⟩
        simp only [List.take_succ_cons, List.take_zero, List.drop_succ_cons, List.drop_zero]
        have m1 := fun n : In M.w => n.cell (M.cell hc1)
        have e0 := fun n : In M.w => n.cell (M.cell x0)
        have e1 := fun n : In M.w => n.cell (M.cell x1)
        have e2 := fun n : In M.w => n.cell (M.cell x2)
        have e3 := fun n : In M.w => n.cell (M.cell x3)
        have e4 := fun n : In M.w => n.cell (M.cell x4)
        have e5 := fun n : In M.w => n.cell (M.cell x5)
        have e6 := fun n : In M.w => n.cell (M.cell x6)
        have e7 := fun n : In M.w => n.cell (M.cell x7)
        have e8 := fun n : In M.w => n.cell (M.cell x8)
        repeat (go_big_quiet_step (fail))
        refine wpQuiet_nil ?_
        clear m1 e0 e1 e2 e3 e4 e5 e6 e7 e8 M
        refine ⟨rfl, lkClone_at (f := 37) (args := #[.agg #[.int .i64 id, .int .i64 prio, .int .u64 sk, .int .u64 ge, .int .i64 fx, .int .i64 fy, .int .i64 tx, .int .i64 ty, .slice a l.length c]]) (Nat.le_refl _) (fun k => by simp [go_sem]) (fun k => HCL.out k.w k.h), fun y A hA => ?_⟩
        simp [Act.put, lkClone] at hA
        subst hA
        refine ⟨by simp, fun M => ?_⟩
        simp only [List.take_succ_cons, List.take_zero, List.drop_succ_cons, List.drop_zero]
        repeat (go_big_quiet_step (fail))
        refine wpQuiet_nil ?_
        clear M
        refine ⟨rfl, lkNode_at (x := ⟨id, prio, sk, ge, fx, fy, tx, ty, a, c, l⟩) (a' := y.1) (c' := y.2) rfl (fun k => by simp [go_sem, csNd]), fun y2 A hA => ?_⟩
        simp [Act.put, lkNode] at hA
        subst hA
        refine ⟨rfl, fun w7 hb7 h7 => ?_⟩
        obtain ⟨w8, hrun, g2, Fm2, s1⟩ := HMORE.out w7 hb7 y2.1 y2.2.1 y2.2.2 h7.1 h7.2.1 h7.2.2.1 h7.2.2.2
        have S1 := Lib.hid s1
        clear hb7 h7 s1 hc1 HMORE HCL p0 p1 p2 p3 p4 p5 p6 p7 p8 x0 x1 x2 x3 x4 x5 x6 x7 x8
        go_wp2
        clear hrun
        go_roundg (L.length - (k + 1))
        case measure => have := HLT.out; omega
        case rel => exact ⟨k + 1, g2, Fm2, by have := HLT.out; omega, Nat.le_refl _, by go_num, by rw [HTK.out]; exact S1.out⟩
      · have hke : k = L.length := by omega
        subst hke
        have hA := HA.out
        rw [List.take_length] at hA
        have HA2 := Lib.hid hA
        clear hA HA hlt hk hkx HAW HNEW HNX0
        generalize (T ++ L.map fun x => mkK x 1) = T1 at *
        go_wp2
        go_loopg [54] L.length (fun kx iv ws => ∃ (k : Nat) (Fm2 : Int → Nat → Prop), k ≤ L.length ∧ L.length - k ≤ kx ∧ iv = .int .i64 k ∧ Hid (AdW F w ws p mb room T1 (nxA nx (L.take k)) g1 Fm2 (.slice fa free.length fc) free))
        case atStart => exact ⟨0, Fm1, Nat.zero_le _, Nat.le_refl _, rfl, by rw [List.take_zero, nxA_nil]; exact HA2.out⟩
        case round =>
          clear HA2
          obtain ⟨k, Fm2, hk, hkx, rfl, HA⟩ := hrel
          by_cases hlt : k < L.length
          · obtain ⟨g0, o0, cc, id, prio, sk, ge, fx, fy, tx, ty, a, c, l, he, e, hlc, p0, p1, p2, p3, p4, p5, p6, p7, p8, hi8⟩ := (HS.out wr HA.out.o).spot k hlt
            cases e
            have HLT := Lib.hid (And.intro hlt hkx)
            have k0 : (0 : Int) ≤ (k : Int) := by omega
            have k1 : (k : Int) < (L.length : Int) := by omega
            have hxL := List.getElem_mem hlt
            have haft := HAFTN.out _ hxL
            have hids := HIDS1.out _ hxL
            have hl8 := HA8.out _ hxL
            have hend := nxB_end nx L k hlt
            have hstep := nxB_step nx L k L[k] haft
            have hnl : ∀ j n, (nxB nx L k L[k] j n).length ≤ 101 := fun j n => by
              have h1 := HNXL.out k n
              unfold nxB
              rw [List.length_append]
              split
              · rw [List.length_singleton]; omega
              · rw [List.length_nil]; omega
            rw [he] at hxL haft hids hl8 hend hstep hnl
            dsimp only at haft hids hl8 hend hstep
            have hal := (Below.refl wr.heap.size wr).alloc (Nat.le_refl _) (.cells #[.int .i64 id, .int .i64 prio, .int .u64 sk, .int .u64 ge, .int .i64 fx, .int .i64 fy, .int .i64 tx, .int .i64 ty, .slice a l.length c] 49)
            have hX := Blk.new wr [.int .i64 id, .int .i64 prio, .int .u64 sk, .int .u64 ge, .int .i64 fx, .int .i64 fy, .int .i64 tx, .int .i64 ty, .slice a l.length c] 49
            have HA4 := Lib.hid (HA.out.kept hal)
            have HX4 := Lib.hid hX
            have hbF : ¬ FpT p mb T1 Fm2 wr.heap.size := fun e => by have := HA.out.R.lt _ e; omega
            have HBF := Lib.hid hbF
            have x8 := hX.cell 8 rfl
            have HXL := Lib.hid hxL
            have HIDS := Lib.hid hids
            have HEND2 := Lib.hid hend
            have HSTEP := Lib.hid hstep
            have HNL := Lib.hid hnl
            have l8 : (l.length : Int) ≤ 8 := by omega
            clear hal hX hi8 he hlc hk hkx hlt hxL haft hids hl8 hend hstep hnl hbF HA
            go_upto_region 16 with fail
            generalize wr.alloc (.cells #[.int .i64 id, .int .i64 prio, .int .u64 sk, .int .u64 ge, .int .i64 fx, .int .i64 fy, .int .i64 tx, .int .i64 ty, .slice a l.length c] 49) = w4 at *
            generalize wr.heap.size = bx at *
            clear p0 p1 p2 p3 p4 p5 p6 p7 p8
            go_wp2
            clear x8
            go_loopg [61] l.length (fun jx jv ws => ∃ (j : Nat) (Fm3 : Int → Nat → Prop), j ≤ l.length ∧ l.length - j ≤ jx ∧ jv = .int .i64 j ∧ Hid (AdW F w ws p mb room T1 (nxB nx L k ⟨id, prio, sk, ge, fx, fy, tx, ty, a, c, l⟩ j) g1 Fm3 (.slice fa free.length fc) free) ∧ Hid (Blk ws bx [.int .i64 id, .int .i64 prio, .int .u64 sk, .int .u64 ge, .int .i64 fx, .int .i64 fy, .int .i64 tx, .int .i64 ty, .slice a l.length c]) ∧ Hid (¬ FpT p mb T1 Fm3 bx))
            case atStart => exact ⟨0, Fm2, Nat.zero_le _, Nat.le_refl _, rfl, by rw [nxB_zero]; exact HA4.out, HX4.out, HBF.out⟩
            case round =>
              clear HA4 HX4 HBF
              obtain ⟨j, Fm3, hj, hjx, rfl, HJ, HXJ, HBJ⟩ := hrel
              by_cases hjl : j < l.length
              · obtain ⟨g5, o5, c5, e, -, -, q0⟩ := ((HS.out wr HJ.out.o).2 _ HXL.out).spot j hjl
                dsimp only [Sp.v] at e
                simp only [Value.slice.injEq] at e
                obtain ⟨rfl, -, rfl⟩ := e
                have HJT := Lib.hid (And.intro hjl hjx)
                have j0 : (0 : Int) ≤ (j : Int) := by omega
                have j1 : (j : Int) < (l.length : Int) := by omega
                have hn1 := HIDS.out _ (List.getElem_mem hjl)
                have hst := HSTEP.out j hjl
                dsimp only at q0
                generalize l[j]'hjl = n at *
                obtain ⟨t, ht, b, a1, c1', vn, hid, hg, hN⟩ := HJ.out.R.at hn1
                subst hid
                obtain ⟨Lr, hLr⟩ : ∃ Lr, nxB nx L k ⟨id, prio, sk, ge, fx, fy, tx, ty, some ⟨g5, o5, none⟩, c, l⟩ j t.sp.id = Lr := ⟨_, rfl⟩
                have hLl := HNL.out j t.sp.id
                rw [hLr] at hLl hst
                have hro := hN.nxt
                rw [hLr] at hro
                obtain ⟨ra, rc, e⟩ := (OwnI.ints hro).form
                subst e
                have hlk : ∀ w', Below wr.heap.size wr w' → (Instr.lookup 56 (.map (some mb)) (.int .i64 t.sp.id) false).run Tryz.prog w' = .ok (.pointer (some ⟨b, 0, none⟩)) w' := fun w' hb => by
                  have := (HJ.out.R.map.kept hb).look1 (H641.out _ hn1)
                  rwa [hg] at this
                have hl0 := hlk wr.drew (Below.refl _ _).drew
                have hl1 := hlk (wr.alloc (.cells #[.int .i64 id] 3)).drew ((Below.refl _ _).alloc (Nat.le_refl _) _).drew
                have hFb : FpT p mb T1 Fm3 b := .inr (.inr ⟨_, hn1, hN.fb⟩)
                have hFn : ∀ k, (Value.slice ra Lr.length rc).ownBlock = some k → FpT p mb T1 Fm3 k := fun k hk => .inr (.inr ⟨_, hn1, (hN.fn k hk).1⟩)
                have hoff := HJ.out.R.off _ hn1
                have n1 : some p ≠ (Value.slice ra Lr.length rc).ownBlock := fun e => (hoff p (hN.fn p e.symm).1).1 rfl
                have n2 : some bx ≠ (Value.slice ra Lr.length rc).ownBlock := fun e => HBJ.out (hFn bx e.symm)
                have n3 : some mb ≠ (Value.slice ra Lr.length rc).ownBlock := fun e => (hoff mb (hN.fn mb e.symm).1).2 rfl
                have n4 : some b ≠ (Value.slice ra Lr.length rc).ownBlock := fun e => (hN.fn b e.symm).2.1 rfl
                have n5 : p ≠ b := fun e => (hoff b hN.fb).1 e.symm
                have n6 : bx ≠ b := fun e => HBJ.out (e ▸ hFb)
                have hbox := HJ.out.R.box
                have lp : p < wr.heap.size := hbox.lt
                have lx : bx < wr.heap.size := Blk.lt HXJ.out
                have lb : b < wr.heap.size := hN.lt b hN.fb
                have c1 := hbox.cell 1 rfl
                have c2 := HXJ.out.cell 0 rfl
                have c14 := hN.blk.cell 14 rfl
                have f14 := hN.blk.free 14 rfl
                obtain ⟨i0, hi, hz0, hz1, hz2⟩ := info_parts info_int
                have HLK := Lib.hid hlk
                have HN := Lib.hid hN
                have HRO := Lib.hid hro
                have HST := Lib.hid hst
                have HLR := Lib.hid hLr
                have HTG := Lib.hid (And.intro ht hg)
                have HLL := Lib.hid hLl
                have hLl2 : Lr.length ≤ 1000 := by omega
                clear hlk hFb hFn hoff hbox hN hro hst hLr ht hg hn1 hj hjx hjl hLl
                go_upto_region 19 with fail
                obtain ⟨X, hX⟩ : ∃ X : Nat → Prop, X = fun k => (Value.slice ra Lr.length rc).ownBlock = some k := ⟨_, rfl⟩
                have xp : ¬ X p := fun e => n1 (by rw [hX] at e; exact e.symm)
                have xx : ¬ X bx := fun e => n2 (by rw [hX] at e; exact e.symm)
                have xm : ¬ X mb := fun e => n3 (by rw [hX] at e; exact e.symm)
                have xb : ¬ X b := fun e => n4 (by rw [hX] at e; exact e.symm)
                have lm := HJ.out.R.map.lt
                have HC1 := Lib.hid fun (w' : World) (hw : Only X wr w') => (World.cell?_of_block (a := ⟨p, 1, none⟩) (hw.block p lp xp)).trans c1
                have HCX := Lib.hid fun (w' : World) (hw : Only X wr w') => (World.cell?_of_block (a := ⟨bx, 0, none⟩) (hw.block bx lx xx)).trans c2
                have HC14 := Lib.hid fun (w' : World) (hw : Only X wr w') => (World.cell?_of_block (a := ⟨b, 14, none⟩) (hw.block b lb xb)).trans c14
                have HLKX := Lib.hid fun (w' : World) (hw : Only X wr w') => (show (Instr.lookup 56 (.map (some mb)) (.int .i64 t.sp.id) false).run Tryz.prog w' = .ok (ndv b) w' from by
                  have := (HJ.out.R.map.same (hw.block mb lm xm)).look1 (H641.out _ (idsK_mem.2 ⟨t, HTG.out.1, rfl⟩))
                  rwa [HTG.out.2] at this)
                have hS0 : Only X wr wr.drew := (Only.of_below (Below.refl _ _).drew).mono fun _ h => h
                clear c1 c2 c14 f14 hl0 hl1 HLK
                refine wp_region_chainS (Only X wr) 21 [none, none, none, none, none, none, none, none, none, none, none, none, none, none, none, none, none, some (lkNew1 wr.drew id), some (lkApp (wr.drew.alloc (.cells #[.int .i64 id] 3)) ra rc Lr id), none, none] [17, 18] rfl rfl (by simp) (by kernel_rfl) (by kernel_rfl) hS0 (fun w' => w' = wr.drew) rfl ?_
                simp only [List.take_succ_cons, List.take_zero]
                refine wpKqS_calm (ndv p) rfl (fun w' hw => by simp [go_sem]) fun a' ha' => ?_
                simp [Act.put] at ha'
                subst ha'
                refine wpKqS_calm (ndv p) rfl (fun w' hw => by simp [go_sem]) fun a' ha' => ?_
                simp [Act.put] at ha'
                subst ha'
                refine wpKqS_calm (.pointer (some ⟨p, 1, none⟩)) rfl (fun w' hw => by simp [go_sem]) fun a' ha' => ?_
                simp [Act.put] at ha'
                subst ha'
                refine wpKqS_calm (.map (some mb)) rfl (fun w' hw => by simp [go_sem, HC1.out w' hw]) fun a' ha' => ?_
                simp [Act.put] at ha'
                subst ha'
                refine wpKqS_calm (.int .i64 t.sp.id) rfl (fun w' hw => by simp [go_sem]) fun a' ha' => ?_
                simp [Act.put] at ha'
                subst ha'
                refine wpKqS_calm (ndv b) rfl (fun w' hw => by simp [go_sem, HLKX.out w' hw]) fun a' ha' => ?_
                simp [Act.put] at ha'
                subst ha'
                refine wpKqS_calm (ndv p) rfl (fun w' hw => by simp [go_sem]) fun a' ha' => ?_
                simp [Act.put] at ha'
                subst ha'
                refine wpKqS_calm (ndv p) rfl (fun w' hw => by simp [go_sem]) fun a' ha' => ?_
                simp [Act.put] at ha'
                subst ha'
                refine wpKqS_calm (.pointer (some ⟨p, 1, none⟩)) rfl (fun w' hw => by simp [go_sem]) fun a' ha' => ?_
                simp [Act.put] at ha'
                subst ha'
                refine wpKqS_calm (.map (some mb)) rfl (fun w' hw => by simp [go_sem, HC1.out w' hw]) fun a' ha' => ?_
                simp [Act.put] at ha'
                subst ha'
                refine wpKqS_calm (.int .i64 t.sp.id) rfl (fun w' hw => by simp [go_sem]) fun a' ha' => ?_
                simp [Act.put] at ha'
                subst ha'
                refine wpKqS_calm (ndv b) rfl (fun w' hw => by simp [go_sem, HLKX.out w' hw]) fun a' ha' => ?_
                simp [Act.put] at ha'
                subst ha'
                refine wpKqS_calm (ndv b) rfl (fun w' hw => by simp [go_sem]) fun a' ha' => ?_
                simp [Act.put] at ha'
                subst ha'
                refine wpKqS_calm (.pointer (some ⟨b, 14, none⟩)) rfl (fun w' hw => by simp [go_sem]) fun a' ha' => ?_
                simp [Act.put] at ha'
                subst ha'
                refine wpKqS_calm (.slice ra Lr.length rc) rfl (fun w' hw => by simp [go_sem, HC14.out w' hw]) fun a' ha' => ?_
                simp [Act.put] at ha'
                subst ha'
                refine wpKqS_calm (.pointer (some ⟨bx, 0, none⟩)) rfl (fun w' hw => by simp [go_sem]) fun a' ha' => ?_
                simp [Act.put] at ha'
                subst ha'
                refine wpKqS_calm (.int .i64 id) rfl (fun w' hw => by simp [go_sem, HCX.out w' hw]) fun a' ha' => ?_
                simp [Act.put] at ha'
                subst ha'
                refine wpKqS_own rfl (lkNew1_at hS0 (fun w' e => by simp [go_sem])) fun _ a' ha' => ?_
                simp [Act.put, lkNew1] at ha'
                subst ha'
                refine wpKqS_own rfl (lkApp_at (OwnI.same HRO.out fun _ _ => rfl) hLl2 hX hS0 (fun v' w' hr => by have hr' : (Builtin.append_ #[32, 32] 32 #[.slice ra Lr.length rc, .slice (some ⟨wr.heap.size, 0, none⟩) 1 1]).run Tryz.prog (wr.drew.alloc (.cells #[.int .i64 id] 3)) = .ok v' w' := hr; simp [execOp, resolve, invoke, builtin, Act.eval, hr', Result.andThen])) fun yy a' ha' => ?_
                simp [Act.put, lkApp] at ha'
                subst ha'
                refine wpKqS_calm (ndv b) rfl (fun w' hw => by simp [go_sem]) fun a' ha' => ?_
                simp [Act.put] at ha'
                subst ha'
                refine wpKqS_calm (.pointer (some ⟨b, 14, none⟩)) rfl (fun w' hw => by simp [go_sem]) fun a' ha' => ?_
                simp [Act.put] at ha'
                subst ha'
                unfold wpKqS
                intro w9 hS9 hG9
                obtain ⟨ho9, hg9, hat9, hlt9⟩ := hG9
                have k8 := ((Below.refl wr.heap.size wr).drew).alloc (Nat.le_refl _) (.cells #[.int .i64 id] 3)
                have hX9 := (HN.out.blk.kept k8).grown hg9 n4
                have d14 := hX9.cell 14 rfl
                have e14 := hX9.free 14 rfl
                have hNX := AdW.next (HJ.out.kept k8) HTG.out.1 HTG.out.2 (HN.out.same k8.size fun k hk => k8.block k (HN.out.lt k hk)) HND1.out hg9 (nl' := Lr ++ [id]) (OwnR.snoc ho9 rfl rfl) (fun k hk => by
                  simp [Value.ownBlock] at hk
                  subst hk
                  exact hat9.imp (fun h => h) fun h => ⟨by rw [h]; exact Nat.le_refl _, hlt9⟩) (bx := bx) (Nat.lt_of_lt_of_le lx k8.size) HBJ.out
                rw [HST.out] at hNX
                have hXX := HXJ.out.same (w' := w9.setCell ⟨b, 14, none⟩ (.slice (some ⟨yy.1, 0, none⟩) (Lr.length + 1) yy.2)) (hNX.2.2.trans (k8.block bx lx))
                have HNX := Lib.hid hNX.1
                have HNB := Lib.hid hNX.2.1
                have HXX := Lib.hid hXX
                clear hNX hXX hX9 k8 hS9 ho9 hg9 hat9 hlt9 hS0 hX xp xx xm xb lm HC1 HCX HC14 HLKX n1 n2 n3 n4 n5 n6 lp lx lb hi hz0 hz1 hz2 hLl2
                go_wp2
                go_roundg (l.length - (j + 1))
                case measure => have := HJT.out; omega
                case rel => exact ⟨j + 1, _, by have := HJT.out; omega, Nat.le_refl _, by go_num, HNX.out, HXX.out, HNB.out⟩
              · have hje : j = l.length := by omega
                subst hje
                have HJ2 := HJ.out
                rw [HEND2.out] at HJ2
                have HJE := Lib.hid HJ2
                clear HJ2 HJ hj hjx hjl
                go_wp2
                go_roundg (L.length - (k + 1))
                case measure => have := HLT.out; omega
                case rel => exact ⟨k + 1, Fm3, by have := HLT.out; omega, Nat.le_refl _, by go_num, HJE.out⟩
          · have hke : k = L.length := by omega
            subst hke
            have hA := HA.out
            rw [List.take_length] at hA
            have HA2 := Lib.hid hA
            clear hA HA hlt hk hkx
            go_wp2
            go_loopg [90] free.length (fun kx iv ws => ∃ k : Nat, k ≤ free.length ∧ free.length - k ≤ kx ∧ iv = .int .i64 k ∧ Hid (AdW F w ws p mb room (setsT T1 (free.take k) 2) (nxA nx L) g1 Fm2 (.slice fa free.length fc) free))
            case atStart => exact ⟨0, Nat.zero_le _, Nat.le_refl _, rfl, by rw [List.take_zero, setsT_nil]; exact HA2.out⟩
            case round =>
              clear HA2
              obtain ⟨k, hk, hkx, rfl, HA⟩ := hrel
              by_cases hlt : k < free.length
              · obtain ⟨g5, o5, c5, e, -, -, q0⟩ := (OwnI.ints HA.out.fr).spot k hlt
                simp only [Value.slice.injEq] at e
                obtain ⟨rfl, -, rfl⟩ := e
                have HLT := Lib.hid (And.intro hlt hkx)
                have k0 : (0 : Int) ≤ (k : Int) := by omega
                have k1 : (k : Int) < (free.length : Int) := by omega
                have hn1 := (HT1.out _).2 (.inr (HFS.out _ (List.getElem_mem hlt)))
                have htk : setsT (setsT T1 (free.take k) 2) [free[k]'hlt] 2 = setsT T1 (free.take (k + 1)) 2 := by rw [setsT_snoc, List.take_succ_eq_append_getElem hlt]
                generalize free[k]'hlt = n at *
                have hn2 : n ∈ idsK (setsT T1 (free.take k) 2) := by rw [setsT_ids]; exact hn1
                obtain ⟨t, ht, b, a1, c1', vn, hid, hg, hN⟩ := HA.out.R.at hn2
                have hlk := HA.out.R.map.look1 (H641.out _ hn1)
                rw [hg] at hlk
                dsimp only [pv, Option.map] at hlk
                have c1 := HA.out.R.box.cell 1 rfl
                have s9 := hN.blk.cell 9 rfl
                have f9 := hN.blk.free 9 rfl
                have hS := HA.out.stat hn2 hg 2
                rw [htk] at hS
                have HSS := Lib.hid hS
                clear hS htk hn1 hn2 ht hid hg hN HA hlt hk hkx
                go_wp2
                go_roundg (free.length - (k + 1))
                case measure => have := HLT.out; omega
                case rel => exact ⟨k + 1, by have := HLT.out; omega, Nat.le_refl _, by go_num, HSS.out⟩
              · have hke : k = free.length := by omega
                subst hke
                have hA := HA.out
                rw [List.take_length] at hA
                have HA3 := Lib.hid hA
                clear hA HA hlt hk hkx
                go_wp2
                have hp := HPERM.out
                have hFe : ∀ k, FpT p mb TA Fm2 k ↔ FpT p mb (setsT T1 free 2) Fm2 k := fun k => by
                  have hi : ∀ n, n ∈ idsK TA ↔ n ∈ idsK (setsT T1 free 2) := fun n => ((hp.map fun t => t.sp.id).mem_iff).symm
                  unfold FpT
                  simp only [hi]
                have hE := HEND.out
                exact bodyPost_ret (v := .tuple #[.slice fa free.length fc, .int .i64 0]) (by simp [results, Tryz.results20, go_sem]) rfl ⟨_, FpT p mb TA Fm2, nxA nx L, g1, Fm2, rfl, OwnI.ints HA3.out.fr, fun k hk => ⟨(World.ownsRow.lt HA3.out.fr k hk).1, fun e => HA3.out.nf k hk ((hFe k).1 e)⟩, ⟨HA3.out.R.perm hp, hE.2.1, hE.1, hE.2.2.1, hE.2.2.2.1, hE.2.2.2.2.1, hE.2.2.2.2.2, fun k => Iff.rfl⟩, HA3.out.o, fun k hk => HA3.out.mv k ((hFe k).1 hk)⟩
  · have e0 : admDg room T L = (T, [], bchk room T L) := if_neg hchk
    rw [e0]
    obtain ⟨q, hq⟩ : ∃ q, bchk room T L = q := ⟨_, rfl⟩
    rw [hq] at GC hchk ⊢
    have e1 : (q == 0) = false := beq_noI hchk
    have HD := Lib.hid h
    clear h hs h64 haf hV64 hchk e0 hq hTl
    go_enter Tryz.func20, Tryz.ntmps20
    go_wp2_with (first
      | (go_at_call 13; (with_reducible refine GV.out.mono ?_); rintro e w1 ⟨vk, V, rfl, q1, q2, q3, q4⟩; obtain ⟨ka, kc, e⟩ := RowsAt.form (OwnR.rows csTk_len q1); rw [plK_len q3] at e; subst e; have HK := Lib.hid (OwnR.rows csTk_len q1); have HV := Lib.hid q3; have HB1 := Lib.hid q4; clear q1 q2 q3 q4 c0; have c0 := (HBX.out.kept HB1.out).cell 0 rfl)
      | (go_at_call 39; (with_reducible refine (GC.out _ V _ HK.out HV.out HB1.out).mono ?_); rintro e w2 ⟨rfl, hb⟩; have HB2 := Lib.hid (HB1.out.trans (hb.mono HB1.out.size)); clear hb c0))
    exact bodyPost_ret (v := .tuple #[.slice none 0 0, .int .i64 q]) (by simp [results, Tryz.results20, go_sem]) rfl ⟨_, F, nx, g, Fm, rfl, IntsAt.nil _, fun k hk => by simp [Value.ownBlock] at hk, HD.out.kept HB2.out, Mv.of_below HB2.out⟩
set_option maxHeartbeats 1000000 in
set_option maxRecDepth 100000 in
theorem dAdmit_nil (v : Value) (w : World) : Calls Tryz.prog 20 #[.pointer none, v] w fun e w' => e = .returned (.tuple #[.slice none 0 0, .int .i64 9]) ∧ w = w' := by
  go_enter Tryz.func20, Tryz.ntmps20
  go_wp2
  exact bodyPost_ret (v := .tuple #[.slice none 0 0, .int .i64 9]) (by simp [results, Tryz.results20, go_sem]) rfl ⟨rfl, rfl⟩
end
end Go.Proofs.YthchkhgimnchcaaGreat
