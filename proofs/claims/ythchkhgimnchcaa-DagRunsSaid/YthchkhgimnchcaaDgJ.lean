/- Stage 24's law DagRuns. -/
import Derived.Test.YthchkhgimnchcaaBun24
namespace Go.Proofs.Ythchkhgimnchcaa
open Go.RowKit

/-- a list without its first number, as the model cuts it -/
theorem from24R (a : Option Addr) (n c : Nat) (hk : 1 ≤ n) (hn : n ≤ c) : ∃ a4 c4, (∀ w', (Instr.sliceAt 31 (.slice a n c) (some (.int .i64 1)) none none).run Try.prog w' = .ok (.slice a4 (n - 1) c4) w') ∧
    ∀ (w' : World) (l : List Int), l.length = n → RowsAt w' 1 csI (.slice a n c) l → RowsAt w' 1 csI (.slice a4 (n - 1) c4) (l.drop 1) := by
  have h1 : (1 : Int) ≤ (n : Int) := by omega
  by_cases hck : c = 1
  · have hc0 : n = 1 := by omega
    refine ⟨a, 0, fun w' => ?_, fun w' l hl h => ?_⟩
    · simp [go_sem, hck, hc0, sliced]
    · have := restAt13 h 1 (by omega) a (fun h => by omega)
      rwa [hck, Nat.sub_self] at this
  · refine ⟨a.map (fun x => x.add 1), c - 1, fun w' => ?_, fun w' l hl h => ?_⟩
    · simp [go_sem, sliced, h1]
      exact fun h => absurd h hck
    · exact restAt13 h 1 (by omega) _ (fun _ g o e => by subst e; simp [Addr.add])

/-! ### How many are over -/
def ovs (T : List Tk) : Nat := ((idsK T).filter fun n => decide (sgT T n = 4)).length
theorem count_more {x : Int} : ∀ {l : List Int} {p q : Int → Bool}, l.Nodup → x ∈ l → p x = false → (∀ n ∈ l, q n = (p n || decide (n = x))) → (l.filter q).length = (l.filter p).length + 1
  | [], _, _, _, hx, _, _ => by cases hx
  | a :: l, p, q, hn, hx, hp, hq => by
    rw [List.nodup_cons] at hn
    have hqa := hq a List.mem_cons_self
    have hql : ∀ n ∈ l, q n = (p n || decide (n = x)) := fun n h => hq n (List.mem_cons_of_mem _ h)
    by_cases e : a = x
    · subst e
      have hsame : l.filter q = l.filter p := List.filter_congr fun n h => by
        have hne : n ≠ a := fun e => hn.1 (by rw [← e]; exact h)
        rw [hql n h, decide_eq_false hne, Bool.or_false]
      rw [List.filter_cons_of_pos (by rw [hqa]; simp), List.filter_cons_of_neg (by rw [hp]; simp), hsame]
      rfl
    · have hx2 : x ∈ l := (List.mem_cons.1 hx).resolve_left fun h => e h.symm
      have ih := count_more hn.2 hx2 hp hql
      rw [decide_eq_false e, Bool.or_false] at hqa
      cases h : p a
      · rw [List.filter_cons_of_neg (by rw [hqa, h]; simp), List.filter_cons_of_neg (by rw [h]; simp), ih]
      · rw [List.filter_cons_of_pos (by rw [hqa, h]), List.filter_cons_of_pos h, List.length_cons, List.length_cons, ih]
theorem sg_doneDg {T : List Tk} (h : Wf T) {id : Int} (hid : id ∈ idsK T) (n : Int) : sgT (doneDg T id).1 n = if n ∈ (doneDg T id).2 then 2 else if n = id then 4 else sgT T n := by
  have h1 := sg_free (T1 := setsT T [id] 4) (by rw [setsT_ids]; exact h.nodup) n
  rw [sg_done hid] at h1
  exact h1
theorem done_ids (T : List Tk) (id : Int) : idsK (doneDg T id).1 = idsK T := by
  show idsK (setsT (setsT T [id] 4) _ 2) = _
  rw [setsT_ids, setsT_ids]
theorem done_freed {T : List Tk} (h : Wf T) {id n : Int} (hid : id ∈ idsK T) (hn : n ∈ (doneDg T id).2) : n ∈ idsK T ∧ n ≠ id ∧ sgT T n = 1 := by
  have h1 := (freedT_mem (T := setsT T [id] 4) (by rw [setsT_ids]; exact h.nodup)).1 hn
  rw [setsT_ids, sg_done hid] at h1
  by_cases e : n = id
  · rw [if_pos e] at h1
    omega
  · rw [if_neg e] at h1
    exact ⟨h1.1, e, h1.2.1⟩
/-- between two rounds -/
structure RunI (T : List Tk) (R : List Int) (N : Nat) (d : Nat) : Prop where
  wf : Wf T
  nod : R.Nodup
  rdy : ∀ n, n ∈ R ↔ sgT T n = 2
  no56 : ∀ n ∈ idsK T, sgT T n ≠ 5 ∧ sgT T n ≠ 6
  len : T.length = N
  ov : ovs T = d
theorem sg_ids {T : List Tk} {n s : Int} (h : sgT T n = s) (hs : s ≠ 0) : n ∈ idsK T := Classical.byContradiction fun e => by rw [sg_none e] at h; exact hs h.symm
theorem RunI.lt {T : List Tk} {R : List Int} {N d : Nat} {x : Int} (h : RunI T (x :: R) N d) : d < N := by
  have hx := sg_ids ((h.rdy x).1 List.mem_cons_self) (by omega)
  have h1 : ovs T < (idsK T).length := by
    unfold ovs
    refine Nat.lt_of_le_of_ne (List.length_filter_le _ _) fun e => ?_
    have h2 := List.length_filter_eq_length_iff.1 e x hx
    have h3 := (h.rdy x).1 List.mem_cons_self
    rw [h3] at h2
    simp at h2
  have h2 : (idsK T).length = T.length := List.length_map _
  have := h.len
  have := h.ov
  omega
theorem RunI.step {T : List Tk} {R : List Int} {N d : Nat} {x : Int} (h : RunI T (x :: R) N d) : RunI (doneDg T x).1 (R ++ (doneDg T x).2) N (d + 1) := by
  have h2 := (h.rdy x).1 List.mem_cons_self
  have hx := sg_ids h2 (by omega)
  have hs := sg_doneDg h.wf hx
  have hi := done_ids T x
  have hf := fun n (hn : n ∈ (doneDg T x).2) => done_freed h.wf hx hn
  have hnod := h.nod
  rw [List.nodup_cons] at hnod
  refine ⟨h.wf.done h2, List.nodup_append.2 ⟨hnod.2, (freedT_ris (by rw [setsT_ids]; exact h.wf.ris)).nodup, fun a ha b hb e => ?_⟩, fun n => ?_, fun n hn => ?_, ?_, ?_⟩
  · have h3 := (h.rdy a).1 (List.mem_cons_of_mem _ ha)
    have h4 := (hf b hb).2.2
    rw [e] at h3
    omega
  · rw [List.mem_append, hs]
    by_cases e : n ∈ (doneDg T x).2
    · rw [if_pos e]
      exact ⟨fun _ => rfl, fun _ => .inr e⟩
    · rw [if_neg e]
      by_cases e2 : n = x
      · subst e2
        rw [if_pos rfl]
        exact ⟨fun h5 => (h5.elim (fun h6 => absurd h6 hnod.1) fun h6 => absurd h6 e), fun h5 => by omega⟩
      · rw [if_neg e2, ← h.rdy, List.mem_cons]
        exact ⟨fun h5 => h5.elim .inr fun h6 => absurd h6 e, fun h5 => .inl (h5.resolve_left e2)⟩
  · rw [hi] at hn
    rw [hs]
    split
    · omega
    · split
      · omega
      · exact h.no56 n hn
  · rw [← h.len]
    show (setsT (setsT T [x] 4) _ 2).length = _
    rw [setsT_len, setsT_len]
  · rw [← h.ov]
    unfold ovs
    rw [hi]
    refine count_more h.wf.nodup hx (by simp [h2]) fun n hn => ?_
    rw [hs]
    by_cases e : n ∈ (doneDg T x).2
    · have h3 := hf n e
      rw [if_pos e, h3.2.2, decide_eq_false h3.2.1]
      rfl
    · rw [if_neg e]
      by_cases e2 : n = x
      · rw [if_pos e2]
        simp [e2]
      · rw [if_neg e2]
        simp [e2]
theorem RunI.end_ {T : List Tk} {N d : Nat} (h : RunI T [] N d) : d = N := by
  have h2 : (idsK T).length = T.length := List.length_map _
  rw [← h.len, ← h.ov, ← h2]
  unfold ovs
  refine List.length_filter_eq_length_iff.2 fun n hn => ?_
  have h3 := h.no56 n hn
  have h4 : sgT T n ≠ 2 := fun e => by cases (h.rdy n).2 e
  have h1 : sgT T n ≠ 1 := fun e => by
    obtain ⟨m, _, h5⟩ := h.wf.ready hn e
    cases (h.rdy m).2 h5
  have h5 := h.wf.sts n hn
  exact decide_eq_true (by omega)
theorem RunI.start {L : List Sp} {room : Int} (h : OkB room [] L) : RunI (admT [] (freeO [] L) L) (freeO [] L) L.length 0 := by
  have hwf := Wf.nil.adm h
  have hnew : ∀ x ∈ L, sgT (admT [] (freeO [] L) L) x.id = nst (freeO [] L) x := fun x hx => sg_at hwf.nodup (t := mkK x (nst (freeO [] L) x)) (admT_mem.2 (.inr ⟨x, hx, rfl⟩))
  have hsub : ∀ n ∈ freeO [] L, ∃ x ∈ L, x.id = n := fun n hn => by
    unfold freeO at hn
    obtain ⟨y, hy, e⟩ := idsO_mem.1 hn
    exact ⟨y, (List.mem_filter.1 hy).1, e⟩
  have hid : ∀ n ∈ idsK (admT [] (freeO [] L) L), ∃ x ∈ L, x.id = n := fun n hn => by
    rcases ids_adm.1 hn with h1 | h1
    · simp [idsK] at h1
    · exact idsO_mem.1 h1
  refine ⟨hwf, ?_, fun n => ⟨fun hn => ?_, fun hn => ?_⟩, fun n hn => ?_, by rw [admT_len]; simp, ?_⟩
  · unfold freeO
    exact h.nodup.sublist ((List.filter_sublist (l := L)).map Sp.id)
  · obtain ⟨x, hx, rfl⟩ := hsub n hn
    rw [hnew x hx]
    rcases nst_cases (freeO [] L) x with h1 | h1
    · exact h1.1
    · exact absurd hn h1.2
  · obtain ⟨x, hx, rfl⟩ := hid n (sg_ids hn (by omega))
    rw [hnew x hx] at hn
    rcases nst_cases (freeO [] L) x with h1 | h1
    · exact h1.2
    · omega
  · obtain ⟨x, hx, rfl⟩ := hid n hn
    rw [hnew x hx]
    rcases nst_cases (freeO [] L) x with h1 | h1 <;> omega
  · unfold ovs
    rw [List.length_eq_zero_iff, List.filter_eq_nil_iff]
    intro n hn
    obtain ⟨x, hx, rfl⟩ := hid n hn
    rw [hnew x hx]
    rcases nst_cases (freeO [] L) x with h1 | h1 <;> simp [h1.1]

set_option maxHeartbeats 16000000 in
set_option maxRecDepth 100000 in
theorem dagRuns_any (vl : Value) (L : List Sp) (w : World) (hl : SpsAt w vl L) (hL : ∀ x ∈ L, x.In) :
    Calls Try.prog 4 #[vl] w fun e w' => e = .returned (.bool true) ∧ Below w.heap.size w w' := by
  have GAL := Lib.hid fun w' => dAlive_any w'
  obtain ⟨la, lc, rfl⟩ := hl.form
  by_cases h30 : (L.length : Int) ≤ 30
  · have k1 : ¬ (30 : Int) < (L.length : Int) := by omega
    have G0 := Lib.hid (dNew_any 64 w)
    have h64 : Sp64 L := fun x hx => ⟨(hL x hx).id, fun n hn => (hL x hx).aft n hn⟩
    have hsp : ∀ (F : Nat → Prop) (w1 : World), (∀ k, F k → w.heap.size ≤ k) → Below w.heap.size w w1 → ∀ w', Only F w1 w' → SpsAt w' (.slice la L.length lc) L := fun F w1 hF hb w' ho => hl.kept (hb.trans (ho.below hF hb.size))
    have GA := Lib.hid fun F p mb nx g Fm (w1 : World) (h : DagP F w1 p mb 64 [] nx g Fm) (hF : ∀ k, F k → w.heap.size ≤ k) (hb : Below w.heap.size w w1) => dAdmit_any w1 h (.slice la L.length lc) L (hsp F w1 hF hb) (by omega) h64 (fun x hx => (hL x hx).len)
    have l0 : (0 : Int) ≤ (L.length : Int) := by omega
    have HL30 := Lib.hid h30
    clear hl hL h64 hsp h30
    by_cases hc : bchk 64 [] L = 0
    · have e0 : admDg 64 [] L = (admT [] (freeO [] L) L, freeO [] L, 0) := if_pos hc
      have hR0 := RunI.start (bchk_iff.1 hc)
      rw [e0] at GA
      generalize admT [] (freeO [] L) L = T0 at *
      generalize freeO [] L = R0 at *
      have HR0 := Lib.hid hR0
      obtain ⟨i0, hi, hz0, hz1, hz2⟩ := info_parts info_int
      clear e0 hR0 hc
      go_enter Try.func4, Try.ntmps4
      go_wp2_with (first
        | (go_at_call 7; (with_reducible refine G0.out.mono ?_); rintro e w1 ⟨p, mb, F0, nx0, g0, Fm0, rfl, q1, q2, q3⟩; rw [show clipD 64 = 64 from rfl] at q1; have HD0 := Lib.hid q1; have HF0 := Lib.hid q2; have HB0 := Lib.hid q3; clear q1 q2 q3)
        | (go_at_call 13; (with_reducible refine (GA.out _ _ _ _ _ _ _ HD0.out HF0.out HB0.out).mono ?_); rintro e w2 ⟨v2, F, nx, g, Fm, rfl, q1, q2, q3, q4⟩; have HI := Lib.hid (show IntsAt w2 v2 R0 from q1); have HO := Lib.hid (show OffV F v2 R0.length from fun _ k hk => (q2 k hk).2); have HD := Lib.hid (show DagP F w2 p mb 64 T0 nx g Fm from q3); have HF := Lib.hid (q4.from_ HF0.out HB0.out.size); have HB := Lib.hid (HB0.out.trans (q4.only.below HF0.out HB0.out.size)); clear q1 q2 q3 q4))
      clear HD0 HF0 HB0 GA G0
      go_loopg [4, 6] (L.length + 1) (fun kx rv dv ws => ∃ (T : List Tk) (R : List Int) (d : Nat), L.length - d < kx ∧ dv = .int .i64 d ∧ Hid (RunI T R L.length d) ∧ Hid (DagP F ws p mb 64 T nx g Fm) ∧ Hid (IntsAt ws rv R) ∧ Hid (OffV F rv R.length) ∧ Hid (Below w.heap.size w ws))
      case atStart => exact ⟨T0, R0, 0, by omega, rfl, HR0.out, HD.out, HI.out, HO.out, HB.out⟩
      case round =>
        clear HR0 HD HI HO HB
        obtain ⟨T, R, d, hkx, rfl, HR, HD, HI, HO, HB⟩ := hrel
        have d0 : (0 : Int) ≤ (d : Int) := by omega
        cases R with
        | nil =>
          obtain ⟨ra, rc, e⟩ := HI.out.form
          rw [List.length_nil] at e
          subst e
          have hend := HR.out.end_
          subst hend
          have GAN := Lib.hid fun w' => dAdmit_nil (.slice none 0 0) w'
          have GDN := Lib.hid fun w' => dDone_nil w' 1
          have GSN := Lib.hid fun w' => dStatus_nil w' 1
          have GWN := Lib.hid fun w' => dWaits_nil w' 1
          have GLN := Lib.hid fun w' => dLen_nil w'
          clear hkx hi hz0 hz1 hz2
          go_wp2_with (first
            | (go_at_call 13; (with_reducible refine (GAN.out _).mono ?_); rintro e w3 ⟨rfl, rfl⟩)
            | (go_at_call 15; (with_reducible refine (GDN.out _).mono ?_); rintro e w3 ⟨rfl, rfl⟩)
            | (go_at_call 11; (with_reducible refine (GSN.out _).mono ?_); rintro e w3 ⟨rfl, rfl⟩)
            | (go_at_call 12; (with_reducible refine (GWN.out _).mono ?_); rintro e w3 ⟨rfl, rfl⟩)
            | (go_at_call 14; (with_reducible refine (GLN.out _).mono ?_); rintro e w3 ⟨rfl, rfl⟩)
            | (go_at_call 6; (with_reducible refine (GAL.out _).mono ?_); rintro e w4 ⟨rfl, hb⟩; have HB4 := Lib.hid (HB.out.trans (hb.mono HB.out.size)); clear hb))
          go_ret
          exact ⟨rfl, HB4.out⟩
        | cons x R =>
          obtain ⟨ra, rc, e⟩ := HI.out.form
          obtain ⟨m, hm⟩ : ∃ m, m = (x :: R).length := ⟨_, rfl⟩
          rw [← hm] at e
          subst e
          have hlt := HR.out.lt
          have h2 := (HR.out.rdy x).1 List.mem_cons_self
          have hx := sg_ids h2 (by omega)
          have hstep := HR.out.step
          have hx64 := (HR.out.wf.id64 hx).1
          have hst4 : sgT (doneDg T x).1 x = 4 := by
            rw [sg_doneDg HR.out.wf hx, if_neg (fun e => (done_freed HR.out.wf hx e).2.1 rfl), if_pos rfl]
          have hR64 : (R ++ (doneDg T x).2).length ≤ 64 := by
            have h5 := len_of_sub _ (idsK (doneDg T x).1) hstep.nod fun n hn => sg_ids ((hstep.rdy n).1 hn) (by omega)
            have h6 : (idsK (doneDg T x).1).length = (doneDg T x).1.length := List.length_map _
            have h7 := hstep.len
            have h8 := HL30.out
            omega
          have GD0 := dDone_any wr HD.out x hx64
          rw [endDg_1 hx h2] at GD0
          have GS0 := fun w' (h : DagP F w' p mb 64 (doneDg T x).1 nx g Fm) => dStatus_any w' h x hx64
          rw [hst4] at GS0
          generalize (doneDg T x).1 = T' at *
          generalize (doneDg T x).2 = E at *
          have GD := Lib.hid GD0
          have GS := Lib.hid GS0
          have hrows := HI.out.rows
          rw [List.length_cons] at hm
          obtain ⟨g5, o5, c5, e, hc5, -, q0⟩ := HI.out.spot 0 (by simp)
          simp only [Value.slice.injEq] at e
          obtain ⟨rfl, hm2, rfl⟩ := e
          rw [List.length_cons] at hc5
          obtain ⟨a4, c4, hsl, hrest⟩ := from24R (some ⟨g5, o5, none⟩) m rc (by omega) (by omega)
          simp only [List.getElem_cons_zero, Nat.add_zero] at q0
          have m1 : (0 : Int) < (m : Int) := by omega
          have m2 : (1 : Int) ≤ (m : Int) := by omega
          have m3 : (m : Int) ≤ 100 := by
            rw [List.length_append] at hR64
            omega
          have d1 : (d : Int) ≤ (L.length : Int) := by omega
          have d2 : (d : Int) ≤ 30 := by have := HL30.out; omega
          have HSTEP := Lib.hid hstep
          have HREST := Lib.hid hrest
          have HMR := Lib.hid hm
          have HLEN := Lib.hid hR64
          have HLT := Lib.hid (And.intro hlt hkx)
          have hlt0 := HD.out.lt
          have HDL := Lib.hid hlt0
          clear hlt hkx h2 hx hstep hx64 hst4 hR64 GD0 GS0 hrows hm hm2 hc5 hrest hlt0 HR
          go_upto_region 13 with (first
            | (go_at_call 15; (with_reducible refine GD.out.mono ?_); rintro e w3 ⟨v3, rfl, q1, q2, q3, q4⟩; have HE3 := Lib.hid (show IntsAt w3 v3 E from q1); have HD3 := Lib.hid (show DagP F w3 p mb 64 T' nx g Fm from q3); have HI3 := Lib.hid (RowsAt.only HI.out.rows q4 HO.out); have HB3 := Lib.hid (HB.out.trans (q4.below HF.out HB.out.size)); clear q1 q2 q3 q4 q0)
            | (go_at_call 11; (with_reducible refine (GS.out _ HD3.out).mono ?_); rintro e w4 ⟨rfl, rfl⟩))
          have HI4 := Lib.hid (HREST.out w3 (x :: R) (by rw [List.length_cons, HMR.out]) HI3.out)
          have hz := HD3.out.lt
          have HZ := Lib.hid hz
          clear hz HI3 HD HI HO HB GD GS
          have hE := Lib.hid (Below.refl w3.heap.size w3)
          go_wp2_with (first
            | (at_builtin; refine wpList_append_rows csI_len (by decide) csI_one13 rfl _ _ 31 rfl w3.heap.size 3 i0 (.int .i64 0) 8 Try.underlying31 hi hz0 hz1 hz2 rfl (.slice (some ⟨w3.heap.size, 0, none⟩) 0 0) [] rfl (OwnR.empty w3 1 csI 3 w3.heap.size rfl) _ R rfl (RowsAt.kept HI4.out ((Below.refl w3.heap.size w3).alloc (Nat.le_refl _) (.cells #[] 3))) (by have := HMR.out; unfold maxLen; simp; omega) (by have := HMR.out; simp; omega) (by simp) ?_; intro v5 w5 o5' g5'; have HO5 := Lib.hid o5'; have HB5 := Lib.hid (OwnR.below (OwnR.empty w3 1 csI 3 w3.heap.size rfl) ((Below.refl w3.heap.size w3).alloc (Nat.le_refl _) (.cells #[] 3)) (by simp) g5'); clear o5' g5')
            | (at_builtin; refine wpList_append_rows csI_len (by decide) csI_one13 rfl _ _ 31 rfl w3.heap.size 3 i0 (.int .i64 0) 8 Try.underlying31 hi hz0 hz1 hz2 rfl v5 ([] ++ R) rfl HO5.out _ E rfl (RowsAt.kept HE3.out.rows HB5.out) (by have := HLEN.out; rw [List.length_append] at this; unfold maxLen; simp; omega) (by have := HLEN.out; rw [List.length_append] at this; simp; omega) HB5.out.size ?_; intro v6 w6 o6 g6; have HO6 := Lib.hid (show OwnI w6 w3.heap.size v6 (R ++ E) from o6); have HB6 := Lib.hid (OwnR.below HO5.out HB5.out HB5.out.size g6); clear o6 g6))
          go_roundg (L.length - d)
          case measure => have := HLT.out; omega
          case rel => exact ⟨T', R ++ E, d + 1, by have := HLT.out; omega, by go_num, HSTEP.out, HD3.out.kept HB6.out, OwnI.ints HO6.out, fun _ k hk e => by have := (World.ownsRow.lt HO6.out k hk).1; have := HZ.out k e; omega, HB3.out.trans (HB6.out.mono HB3.out.size)⟩
    · have e0 : admDg 64 [] L = ([], [], bchk 64 [] L) := if_neg hc
      rw [e0] at GA
      generalize bchk 64 [] L = q at *
      have e1 : (q == 0) = false := beq_noI hc
      have GL := Lib.hid fun F p mb nx g Fm (w1 : World) (h : DagP F w1 p mb 64 [] nx g Fm) => (show Calls Try.prog 14 #[ndv p] w1 fun e w' => e = .returned (.int .i64 0) ∧ w1 = w' from dLen_any w1 h)
      clear e0 hc
      go_enter Try.func4, Try.ntmps4
      go_wp2_with (first
        | (go_at_call 7; (with_reducible refine G0.out.mono ?_); rintro e w1 ⟨p, mb, F0, nx0, g0, Fm0, rfl, q1, q2, q3⟩; rw [show clipD 64 = 64 from rfl] at q1; have HD0 := Lib.hid q1; have HF0 := Lib.hid q2; have HB0 := Lib.hid q3; clear q1 q2 q3)
        | (go_at_call 13; (with_reducible refine (GA.out _ _ _ _ _ _ _ HD0.out HF0.out HB0.out).mono ?_); rintro e w2 ⟨v2, F, nx, g, Fm, rfl, q1, q2, q3, q4⟩; obtain ⟨a2, c2, e⟩ := q1.form; subst e; have HD := Lib.hid (show DagP F w2 p mb 64 [] nx g Fm from q3); have HB := Lib.hid (HB0.out.trans (q4.only.below HF0.out HB0.out.size)); clear q1 q2 q3 q4)
        | (go_at_call 14; (with_reducible refine (GL.out _ _ _ _ _ _ _ HD.out).mono ?_); rintro e w3 ⟨rfl, rfl⟩)
        | (go_at_call 6; (with_reducible refine (GAL.out _).mono ?_); rintro e w4 ⟨rfl, hb⟩; have HB4 := Lib.hid (HB.out.trans (hb.mono HB.out.size)); clear hb))
      go_ret
      exact ⟨rfl, HB4.out⟩
  · have k1 : (30 : Int) < (L.length : Int) := by omega
    clear hl hL h30
    go_enter Try.func4, Try.ntmps4
    go_wp2_with (go_at_call 6; (with_reducible refine (GAL.out _).mono ?_); rintro e w1 ⟨rfl, hb⟩; have HB := Lib.hid hb; clear hb)
    go_ret
    exact ⟨rfl, HB.out⟩
end Go.Proofs.Ythchkhgimnchcaa
