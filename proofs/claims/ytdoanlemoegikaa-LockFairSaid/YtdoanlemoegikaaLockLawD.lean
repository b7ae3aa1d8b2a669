/- The law LockDoes, over the program's contracts as one structure. Written by wip/tools/gen_lockdoes.py. -/
import Derived.Test.YtdoanlemoegikaaLockLaw
import Derived.Test.YtdoanlemoegikaaFifoLawD
namespace Go.Proofs.Ytdoanlemoegikaa
open Go.RowKit

/-- an act: its kind, its token -/
structure A19 where
  k : Int
  x : Int
deriving Inhabited
def csA19 (a : A19) : List Value := [.int .i64 a.k, .int .i64 a.x]
/-- a lock as a value whose list lies somewhere in memory -/
def lkLV (id h : Int) (L : List Int) (n : Nat) : Lk := ⟨Option Addr × Nat, ⟨(none, 0)⟩, fun x => lkv id h (.slice x.1 n x.2), fun x w => IntsAt w (.slice x.1 n x.2) L⟩
theorem lkLV_at {P : Program} {o : Oper} {a : Act} {W : World} {G : World → Prop} {id h : Int} {L : List Int} {n : Nat} {f : FuncId} {args : Array Value} (hn : n = L.length) (he : ∀ k : In W, (execOp a.eval o).run P k.w = .ok (.enter f args) k.w)
    (hc : ∀ k : In W, Calls P f args k.w fun e w' => ∃ v, e = .returned (lkv id h v) ∧ IntsAt w' v L ∧ Below k.w.heap.size k.w w') : (lkLV id h L n).at P o a W G :=
  ⟨fun _ _ _ h hb => IntsAt.below h hb, fun k _ => by
    subst hn
    rw [he k]
    refine ⟨rfl, (hc k).mono ?_⟩
    rintro e w' ⟨v, rfl, h1, h2⟩
    obtain ⟨b, c, rfl⟩ := h1.form
    exact ⟨(b, c), rfl, h1, h2.mono k.h.size⟩⟩
/-- what holds between two acts: the box of the document's lock at b, its list, the program's -/
abbrev Does19 (C : LockProg) (w wx : World) (p : Value) (b : Nat) (v : Value) (q : Lq) (bs : List Bes) : Prop := SideG C.obj w wx p q (Bes.blk b (.int .i64 q.id) [.int .i64 q.holder, v] :: Bes.rows 1 csI v q.wait :: bs)
def Off19 (b : Nat) (v : Value) (n : Nat) : Prop := 0 < n → v.ownBlock ≠ some b
theorem Off19.from_ {b n n' B : Nat} {v v' : Value} (h : Off19 b v n) (hf : FromV v v' n n' B) (hb : b < B) : Off19 b v' n' := fun h0 e => by
  rcases hf h0 b e with ⟨h1, h2⟩ | h1
  · exact h h2 h1
  · omega
/-- the document's lock is written anew -/
theorem Does19.write {C : LockProg} {w w1 : World} {p : Value} {b : Nat} {v : Value} {q : Lq} {a0 : Value} {id h : Int} {L : List Int} {x y z : Value} {bs : List Bes} (hs : SideG C.obj w w1 p q (Bes.blk b x [y, z] :: Bes.rows 1 csI v L :: bs)) (hb : w.heap.size ≤ b) (ho : Off19 b v L.length) (hbs : ∀ s ∈ bs, ¬ s.foot b) :
    SideG C.obj w (((w1.setCell ⟨b, 0, none⟩ (.int .i64 id)).setCell ⟨b, 1, none⟩ (.int .i64 h)).setCell ⟨b, 2, none⟩ a0) p q (Bes.blk b (.int .i64 id) [.int .i64 h, a0] :: Bes.rows 1 csI v L :: bs) := by
  have hoff : ∀ s ∈ Bes.rows 1 csI v L :: bs, ¬ s.foot b := fun s hm => by
    rcases List.mem_cons.1 hm with rfl | hm
    · intro hf
      exact ho hf.1 hf.2
    · exact hbs s hm
  exact ((hs.write hb hoff 0 (.int .i64 id) _ _ rfl).write hb hoff 1 (.int .i64 h) _ _ rfl).write hb hoff 2 a0 _ _ rfl
theorem SideG.sub {σ : Type} {C : ObjK σ} {w w1 : World} {p : Value} {q : σ} {bs bs' : List Bes} (h : SideG C w w1 p q bs) (hs : ∀ b ∈ bs', b ∈ bs) : SideG C w w1 p q bs' := by
  obtain ⟨F, h0, h1, h2, h3⟩ := h
  exact ⟨F, h0, h1, fun b hb => h2 b (hs b hb), h3⟩
def All19 (q : Lq) : Prop := q.wait.length ≤ 100
theorem askL_len {h : Int} {L : List Int} (t : Int) (hl : L.length ≤ 100) : (askL h L t).1.length ≤ 100 := by
  unfold askL
  split
  · exact hl
  · split
    · exact hl
    · split
      · exact hl
      · simp; omega
theorem grantL_len {h : Int} {L : List Int} (hl : L.length ≤ 100) : (grantL h L).2.1.length ≤ 100 := by
  unfold grantL
  split
  · cases L with
    | nil => simp
    | cons x t => simp at hl ⊢; omega
  · exact hl
theorem leaveL_len {h : Int} {L : List Int} (t : Int) (hl : L.length ≤ 100) : (leaveL h L t).2.1.length ≤ 100 := by
  unfold leaveL
  split
  · exact hl
  · split
    · exact Nat.le_trans (dropF_len L t) hl
    · exact hl
noncomputable def lockTailC : Code := rightC18 (rightC18 (inC18 (leftC18 (rightC18 (rightC18 (inC18 (inC18 (rightC18 (leftC18 (rightC18 (rightC18 (rightC18 ((Try.f3.body).getD .skip)))))))))))))
set_option maxHeartbeats 16000000 in
set_option maxRecDepth 100000 in
theorem lockTail_nil (C : LockProg) (w wc : World) (b : Nat) (p vv : Value) (id h : Int) (BX : Bes) (HS2 : Hid (SideG C.obj w wc p ⟨id, h, ([] : List Int)⟩ [Bes.blk b (.int .i64 id) [.int .i64 h, vv], Bes.rows 1 csI vv ([] : List Int), BX])) (HL2 : Hid (([] : List Int).length ≤ 1000)) {Q : Exit → Act → World → Prop} {K : Act → World → Prop} (hK : ∀ a w, Code.wp Try.prog (rightC18 lockTailC) Q a w → K a w)
    {u0 u1 u2 u3 u4 u7 u8 u9 u10 u11 u12 u13 u14 u15 u16 u17 u18 u19 u20 u21 u22 u23 u24 u25 u26 u27 u28 u29 u30 u31 u32 u33 u34 u35 u36 u37 u38 u39 u40 u41 u42 u43 u44 u45 u46 u47 u48 u49 u50 u51 u52 u53 u54 u55 u56 u57 u58 u59 u60 u61 u62 u63 u64 u65 u66 u67 u68 u69 u70 u71 u72 u73 u74 u75 u76 u77 u78 u79 u80 u81 u82 u83 u84 u85 u86 u87 u88 u89 u90 u91 u92 u93 u94 u95 u96 u97 u98 u99 u100 u101 u102 u103 u104 u105 u106 u107 u108 u109 u110 u111 u112 u113 u114 u115 u116 u117 u118 u119 u120 u121 u122 u123 u124 u125 u126 : Value} (hQ : ∀ (x17 x18 x88 x89 x90 x91 x92 x93 x94 x95 x96 x97 x98 x99 x100 x101 x102 x103 x104 x105 x106 x107 x108 x109 x110 x111 x112 x113 x114 x115 x116 x117 x118 x119 x120 x121 x122 x123 x124 : Value) (w' : World), SideG C.obj w w' p ⟨id, h, ([] : List Int)⟩ [Bes.blk b (.int .i64 id) [.int .i64 h, vv], Bes.rows 1 csI vv ([] : List Int), BX] → Q .normal { tmps := #[u0, u1, u2, u3, u4, p, .pointer (some ⟨b, 0, none⟩), u7, u8, u9, u10, u11, u12, u13, u14, u15, u16, x17, x18, u19, u20, u21, u22, u23, u24, u25, u26, u27, u28, u29, u30, u31, u32, u33, u34, u35, u36, u37, u38, u39, u40, u41, u42, u43, u44, u45, u46, u47, u48, u49, u50, u51, u52, u53, u54, u55, u56, u57, u58, u59, u60, u61, u62, u63, u64, u65, u66, u67, u68, u69, u70, u71, u72, u73, u74, u75, u76, u77, u78, u79, u80, u81, u82, u83, u84, u85, u86, u87, x88, x89, x90, x91, x92, x93, x94, x95, x96, x97, x98, x99, x100, x101, x102, x103, x104, x105, x106, x107, x108, x109, x110, x111, x112, x113, x114, x115, x116, x117, x118, x119, x120, x121, x122, x123, x124, u125, u126], defers := [] } w') :
    Code.wp Try.prog (leftC18 lockTailC) (Exit.then K Q) { tmps := #[u0, u1, u2, u3, u4, p, .pointer (some ⟨b, 0, none⟩), u7, u8, u9, u10, u11, u12, u13, u14, u15, u16, u17, u18, u19, u20, u21, u22, u23, u24, u25, u26, u27, u28, u29, u30, u31, u32, u33, u34, u35, u36, u37, u38, u39, u40, u41, u42, u43, u44, u45, u46, u47, u48, u49, u50, u51, u52, u53, u54, u55, u56, u57, u58, u59, u60, u61, u62, u63, u64, u65, u66, u67, u68, u69, u70, u71, u72, u73, u74, u75, u76, u77, u78, u79, u80, u81, u82, u83, u84, u85, u86, u87, u88, u89, u90, u91, u92, u93, u94, u95, u96, u97, u98, u99, u100, u101, u102, u103, u104, u105, u106, u107, u108, u109, u110, u111, u112, u113, u114, u115, u116, u117, u118, u119, u120, u121, u122, u123, u124, u125, u126], defers := [] } wc := by
  simp only [lockTailC, rightC18, leftC18, inC18, Option.getD, Try.f3] at hK ⊢
  have HFI := Lib.hid fun w1 (h : SideG C.obj w w1 p ⟨id, h, ([] : List Int)⟩ [Bes.blk b (.int .i64 id) [.int .i64 h, vv], Bes.rows 1 csI vv ([] : List Int), BX]) => C.sHead h
  have hh : hdF ([] : List Int) = (0, false) := rfl
  simp only [hh] at HFI
  clear hh
  obtain ⟨m, hm⟩ : ∃ m, ([] : List Int).length = m := ⟨_, rfl⟩
  have HLn := Lib.hid hm
  have m0 : decide (0 < m) = false := by simp at hm ⊢; omega

  have HVI := Lib.hid fun w1 (h : SideG C.obj w w1 p ⟨id, h, ([] : List Int)⟩ [Bes.blk b (.int .i64 id) [.int .i64 h, vv], Bes.rows 1 csI vv ([] : List Int), BX]) => C.sView h
  simp only at HVI
  have HSA := Lib.hid fun w1 v2 (hs : SideG C.obj w w1 p ⟨id, h, ([] : List Int)⟩ [Bes.blk b (.int .i64 id) [.int .i64 h, vv], Bes.rows 1 csI vv ([] : List Int), BX]) (h2 : IntsAt w1 v2 ([] : List Int)) => refSame19_any id h id h v2 vv ([] : List Int) ([] : List Int) w1 h2 (RowsAt.ints (SideG.head (SideG.less hs))) (by have := HL2.out; omega) (by have := HL2.out; omega)
  simp only [and_self, decide_true] at HSA
  obtain ⟨a2, c2, e2⟩ := RowsAt.form (SideG.head (SideG.less HS2.out))
  rw [hm] at e2
  clear hm
  subst e2
  go_upto_region 25 with (go_at_call 13; (with_reducible refine (HFI.out _ HS2.out).mono ?_); rintro e w5 ⟨rfl, hb5⟩; have HS3 := Lib.hid (HS2.out.kept hb5); have HB5 := Lib.hid hb5; clear hb5)
  have b0 : w5.cell? ⟨b, 0, none⟩ = some (.int .i64 id) := Blk.cell (vs := [.int .i64 id, .int .i64 h, .slice a2 m c2]) (SideG.head HS3.out) 0 rfl
  have b1 : w5.cell? ⟨b, 1, none⟩ = some (.int .i64 h) := Blk.cell (vs := [.int .i64 id, .int .i64 h, .slice a2 m c2]) (SideG.head HS3.out) 1 rfl
  have b2 : w5.cell? ⟨b, 2, none⟩ = some (.slice a2 m c2) := Blk.cell (vs := [.int .i64 id, .int .i64 h, .slice a2 m c2]) (SideG.head HS3.out) 2 rfl
  clear HB5
  refine wp_region_chain 32 [.calm 1, .own (lkLV id h ([] : List Int) m), .calm 1, .own (Lk.val1 (.bool true)), .calm 28] [1, 3] rfl (by kernel_rfl) (by simp) (by kernel_rfl) (chainOf_two (by kernel_rfl)) ?_
  simp only [List.take_succ_cons, List.take_zero, List.drop_succ_cons, List.drop_zero]
  refine ⟨by simp, fun M => ?_⟩
  simp only [List.take_succ_cons, List.take_zero, List.drop_succ_cons, List.drop_zero]
  repeat (go_big_quiet_step (fail))
  refine wpQuiet_nil ?_
  clear M
  refine ⟨rfl, lkLV_at (f := 15) (args := #[p]) HLn.out.symm (fun k => by simp [go_sem]) (fun k => HVI.out k.w (HS3.out.kept k.h)), fun x1 A hA => ?_⟩
  simp [Act.put, lkLV] at hA
  subst hA
  refine ⟨by simp, fun M => ?_⟩
  simp only [List.take_succ_cons, List.take_zero, List.drop_succ_cons, List.drop_zero]
  have k0 := fun n : In M.w => n.cell (M.cell b0)
  have k1 := fun n : In M.w => n.cell (M.cell b1)
  have k2 := fun n : In M.w => n.cell (M.cell b2)
  repeat (go_big_quiet_step (fail))
  refine wpQuiet_nil ?_
  clear k0 k1 k2 M
  refine ⟨rfl, lkSure_at (f := 14) (args := #[lkv id h (.slice x1.1 m x1.2), lkv id h (.slice a2 m c2)]) (fun k => by simp [go_sem]) (fun k hk => HSA.out k.w _ (HS3.out.kept k.h) hk), fun x2 A hA => ?_⟩
  simp [Act.put, Lk.val1] at hA
  subst hA
  refine ⟨by simp, fun M => ?_⟩
  simp only [List.take_succ_cons, List.take_zero, List.drop_succ_cons, List.drop_zero]
  have k2 := fun n : In M.w => n.cell (M.cell b2)

  repeat (go_big_quiet_step (fail))
  refine wpQuiet_nil ?_
  clear k2 M
  refine ⟨rfl, fun w7 hb7 _ => ?_⟩
  have HS4 := Lib.hid (HS3.out.kept hb7)
  clear hb7
  go_wp2
  exact HS4.out

set_option maxHeartbeats 16000000 in
set_option maxRecDepth 100000 in
theorem lockTail_cons (C : LockProg) (w wc : World) (b : Nat) (p vv : Value) (id h : Int) (BX : Bes) (z : Int) (t : List Int) (HS2 : Hid (SideG C.obj w wc p ⟨id, h, (z :: t)⟩ [Bes.blk b (.int .i64 id) [.int .i64 h, vv], Bes.rows 1 csI vv (z :: t), BX])) (HL2 : Hid ((z :: t).length ≤ 1000)) {Q : Exit → Act → World → Prop} {K : Act → World → Prop} (hK : ∀ a w, Code.wp Try.prog (rightC18 lockTailC) Q a w → K a w)
    {u0 u1 u2 u3 u4 u7 u8 u9 u10 u11 u12 u13 u14 u15 u16 u17 u18 u19 u20 u21 u22 u23 u24 u25 u26 u27 u28 u29 u30 u31 u32 u33 u34 u35 u36 u37 u38 u39 u40 u41 u42 u43 u44 u45 u46 u47 u48 u49 u50 u51 u52 u53 u54 u55 u56 u57 u58 u59 u60 u61 u62 u63 u64 u65 u66 u67 u68 u69 u70 u71 u72 u73 u74 u75 u76 u77 u78 u79 u80 u81 u82 u83 u84 u85 u86 u87 u88 u89 u90 u91 u92 u93 u94 u95 u96 u97 u98 u99 u100 u101 u102 u103 u104 u105 u106 u107 u108 u109 u110 u111 u112 u113 u114 u115 u116 u117 u118 u119 u120 u121 u122 u123 u124 u125 u126 : Value} (hQ : ∀ (x17 x18 x88 x89 x90 x91 x92 x93 x94 x95 x96 x97 x98 x99 x100 x101 x102 x103 x104 x105 x106 x107 x108 x109 x110 x111 x112 x113 x114 x115 x116 x117 x118 x119 x120 x121 x122 x123 x124 : Value) (w' : World), SideG C.obj w w' p ⟨id, h, (z :: t)⟩ [Bes.blk b (.int .i64 id) [.int .i64 h, vv], Bes.rows 1 csI vv (z :: t), BX] → Q .normal { tmps := #[u0, u1, u2, u3, u4, p, .pointer (some ⟨b, 0, none⟩), u7, u8, u9, u10, u11, u12, u13, u14, u15, u16, x17, x18, u19, u20, u21, u22, u23, u24, u25, u26, u27, u28, u29, u30, u31, u32, u33, u34, u35, u36, u37, u38, u39, u40, u41, u42, u43, u44, u45, u46, u47, u48, u49, u50, u51, u52, u53, u54, u55, u56, u57, u58, u59, u60, u61, u62, u63, u64, u65, u66, u67, u68, u69, u70, u71, u72, u73, u74, u75, u76, u77, u78, u79, u80, u81, u82, u83, u84, u85, u86, u87, x88, x89, x90, x91, x92, x93, x94, x95, x96, x97, x98, x99, x100, x101, x102, x103, x104, x105, x106, x107, x108, x109, x110, x111, x112, x113, x114, x115, x116, x117, x118, x119, x120, x121, x122, x123, x124, u125, u126], defers := [] } w') :
    Code.wp Try.prog (leftC18 lockTailC) (Exit.then K Q) { tmps := #[u0, u1, u2, u3, u4, p, .pointer (some ⟨b, 0, none⟩), u7, u8, u9, u10, u11, u12, u13, u14, u15, u16, u17, u18, u19, u20, u21, u22, u23, u24, u25, u26, u27, u28, u29, u30, u31, u32, u33, u34, u35, u36, u37, u38, u39, u40, u41, u42, u43, u44, u45, u46, u47, u48, u49, u50, u51, u52, u53, u54, u55, u56, u57, u58, u59, u60, u61, u62, u63, u64, u65, u66, u67, u68, u69, u70, u71, u72, u73, u74, u75, u76, u77, u78, u79, u80, u81, u82, u83, u84, u85, u86, u87, u88, u89, u90, u91, u92, u93, u94, u95, u96, u97, u98, u99, u100, u101, u102, u103, u104, u105, u106, u107, u108, u109, u110, u111, u112, u113, u114, u115, u116, u117, u118, u119, u120, u121, u122, u123, u124, u125, u126], defers := [] } wc := by
  simp only [lockTailC, rightC18, leftC18, inC18, Option.getD, Try.f3] at hK ⊢
  have HFI := Lib.hid fun w1 (h : SideG C.obj w w1 p ⟨id, h, (z :: t)⟩ [Bes.blk b (.int .i64 id) [.int .i64 h, vv], Bes.rows 1 csI vv (z :: t), BX]) => C.sHead h
  have hh : hdF (z :: t) = (z, true) := rfl
  simp only [hh] at HFI
  clear hh
  obtain ⟨m, hm⟩ : ∃ m, (z :: t).length = m := ⟨_, rfl⟩
  have HLn := Lib.hid hm
  have m0 : decide (0 < m) = true := by simp at hm ⊢; omega
  have m1 : (0 : Int) < (m : Int) := by simp at hm; omega
  have HVI := Lib.hid fun w1 (h : SideG C.obj w w1 p ⟨id, h, (z :: t)⟩ [Bes.blk b (.int .i64 id) [.int .i64 h, vv], Bes.rows 1 csI vv (z :: t), BX]) => C.sView h
  simp only at HVI
  have HSA := Lib.hid fun w1 v2 (hs : SideG C.obj w w1 p ⟨id, h, (z :: t)⟩ [Bes.blk b (.int .i64 id) [.int .i64 h, vv], Bes.rows 1 csI vv (z :: t), BX]) (h2 : IntsAt w1 v2 (z :: t)) => refSame19_any id h id h v2 vv (z :: t) (z :: t) w1 h2 (RowsAt.ints (SideG.head (SideG.less hs))) (by have := HL2.out; omega) (by have := HL2.out; omega)
  simp only [and_self, decide_true] at HSA
  obtain ⟨a2, c2, e2⟩ := RowsAt.form (SideG.head (SideG.less HS2.out))
  rw [hm] at e2
  obtain ⟨g1, o1, cc1, e3, _, _, hc3⟩ := (show RowsAt _ 1 csI vv (z :: t) from SideG.head (SideG.less HS2.out)).spot 0 (by simp)
  rw [hm, e2] at e3
  obtain ⟨rfl, hcc⟩ : a2 = some ⟨g1, o1, none⟩ ∧ c2 = cc1 := by
    simp only [Value.slice.injEq] at e3
    exact ⟨e3.1, e3.2.2⟩
  subst hcc
  have HC3 := Lib.hid hc3
  clear hc3 e3
  clear hm
  subst e2
  go_upto_region 25 with (go_at_call 13; (with_reducible refine (HFI.out _ HS2.out).mono ?_); rintro e w5 ⟨rfl, hb5⟩; have HS3 := Lib.hid (HS2.out.kept hb5); have HB5 := Lib.hid hb5; clear hb5)
  have b0 : w5.cell? ⟨b, 0, none⟩ = some (.int .i64 id) := Blk.cell (vs := [.int .i64 id, .int .i64 h, .slice (some ⟨g1, o1, none⟩) m c2]) (SideG.head HS3.out) 0 rfl
  have b1 : w5.cell? ⟨b, 1, none⟩ = some (.int .i64 h) := Blk.cell (vs := [.int .i64 id, .int .i64 h, .slice (some ⟨g1, o1, none⟩) m c2]) (SideG.head HS3.out) 1 rfl
  have b2 : w5.cell? ⟨b, 2, none⟩ = some (.slice (some ⟨g1, o1, none⟩) m c2) := Blk.cell (vs := [.int .i64 id, .int .i64 h, .slice (some ⟨g1, o1, none⟩) m c2]) (SideG.head HS3.out) 2 rfl
  have b3 : w5.cell? ⟨g1, o1, none⟩ = some (.int .i64 z) := (HB5.out.cell (World.block_lt_of_cell? _ _ (HC3.out 0 _ rfl))).trans (HC3.out 0 _ rfl)
  clear HB5
  refine wp_region_chain 32 [.calm 1, .own (lkLV id h (z :: t) m), .calm 1, .own (Lk.val1 (.bool true)), .calm 28] [1, 3] rfl (by kernel_rfl) (by simp) (by kernel_rfl) (chainOf_two (by kernel_rfl)) ?_
  simp only [List.take_succ_cons, List.take_zero, List.drop_succ_cons, List.drop_zero]
  refine ⟨by simp, fun M => ?_⟩
  simp only [List.take_succ_cons, List.take_zero, List.drop_succ_cons, List.drop_zero]
  repeat (go_big_quiet_step (fail))
  refine wpQuiet_nil ?_
  clear M
  refine ⟨rfl, lkLV_at (f := 15) (args := #[p]) HLn.out.symm (fun k => by simp [go_sem]) (fun k => HVI.out k.w (HS3.out.kept k.h)), fun x1 A hA => ?_⟩
  simp [Act.put, lkLV] at hA
  subst hA
  refine ⟨by simp, fun M => ?_⟩
  simp only [List.take_succ_cons, List.take_zero, List.drop_succ_cons, List.drop_zero]
  have k0 := fun n : In M.w => n.cell (M.cell b0)
  have k1 := fun n : In M.w => n.cell (M.cell b1)
  have k2 := fun n : In M.w => n.cell (M.cell b2)
  repeat (go_big_quiet_step (fail))
  refine wpQuiet_nil ?_
  clear k0 k1 k2 M
  refine ⟨rfl, lkSure_at (f := 14) (args := #[lkv id h (.slice x1.1 m x1.2), lkv id h (.slice (some ⟨g1, o1, none⟩) m c2)]) (fun k => by simp [go_sem]) (fun k hk => HSA.out k.w _ (HS3.out.kept k.h) hk), fun x2 A hA => ?_⟩
  simp [Act.put, Lk.val1] at hA
  subst hA
  refine ⟨by simp, fun M => ?_⟩
  simp only [List.take_succ_cons, List.take_zero, List.drop_succ_cons, List.drop_zero]
  have k2 := fun n : In M.w => n.cell (M.cell b2)
  have k3 := fun n : In M.w => n.cell (M.cell b3)
  repeat (go_big_quiet_step (fail))
  refine wpQuiet_nil ?_
  clear k2 k3 M
  refine ⟨rfl, fun w7 hb7 _ => ?_⟩
  have HS4 := Lib.hid (HS3.out.kept hb7)
  clear hb7
  go_wp2
  exact HS4.out

set_option maxHeartbeats 32000000 in
set_option maxRecDepth 100000 in
theorem lockDoes_any (C : LockProg) (id : Int) (va : Value) (l : List A19) (w : World) (ha : RowsAt w 2 csA19 va l) (hg : ∀ a ∈ l, In18 a.x) (hr : In18 id) :
    Calls Try.prog 3 #[.int .i64 id, va] w fun e w' => e = .returned (.bool true) ∧ Below w.heap.size w w' := by
  have HAL := Lib.hid fun w => lAlive_any C w
  have HA := Lib.hid ha
  have HG := Lib.hid hg
  obtain ⟨a0, c0, rfl⟩ := RowsAt.form ha
  clear ha hg
  by_cases h100 : l.length ≤ 200
  · have g1 : ¬ (200 : Int) < (l.length : Int) := by omega
    have C0 := Lib.hid (C.sNew id w hr)
    go_enter Try.func3, Try.ntmps3
    go_wp2_with (go_at_call 6; (with_reducible refine C0.out.mono ?_); rintro e w1 ⟨p, rfl, hs⟩; have S0 := Lib.hid hs; clear hs)
    obtain ⟨b, hb⟩ : ∃ b, w1.heap.size = b := ⟨_, rfl⟩
    have HBW := Lib.hid (show w.heap.size ≤ b by rw [← hb]; exact (SideG.below S0.out).size)
    have S1 := Lib.hid ((S0.out.add (Below.refl _ _) (Bes.rows 1 csI (.slice none 0 0) []) (RowsAt.nil _ _ _) (fun k h => by have := h.1; simp at this)).new (.int .i64 id) [.int .i64 0, .slice none 0 0] 28)
    rw [hb] at S1
    have HB1 := Lib.hid hb
    rw [hb]
    clear hb
    go_loopg [29] l.length (fun kx kv wr => ∃ (k : Nat) (h : Int) (L : List Int) (v : Value), k ≤ l.length ∧ l.length - k ≤ kx ∧ kv = .int .i64 k ∧ Hid (Does19 C w wr p b v ⟨id, h, L⟩ []) ∧ Hid (Off19 b v L.length) ∧ Hid (L.length ≤ 100))
    case atStart => exact ⟨0, 0, [], .slice none 0 0, Nat.zero_le _, Nat.le_refl _, rfl, S1.out, (fun h0 => by simp at h0), by show _ ≤ _; simp⟩
    case round =>
      clear S0 S1
      obtain ⟨k, h, L, v, hk, hkx, rfl, HS, HO, HL⟩ := hrel
      by_cases hlt : k < l.length
      · have HLT := Lib.hid hlt
        have K0 : (0 : Int) ≤ (k : Int) := by omega
        have K1 : (k : Int) < (l.length : Int) := by omega
        have K2 : (k : Int) ≤ 200 := by omega
        obtain ⟨g, o, _, e, _, _, hc⟩ := (RowsAt.kept HA.out (SideG.below HS.out)).spot k hlt
        cases e
        have p0 := hc 0 _ rfl
        have p1 := hc 1 _ rfl
        have hy := HG.out _ (List.getElem_mem hlt)
        obtain ⟨⟨kk, y⟩, har⟩ : ∃ r, l[k]'hlt = r := ⟨_, rfl⟩
        rw [har] at p0 p1 hy
        simp only [Nat.add_zero] at p0 p1 hy
        have HY := Lib.hid hy
        obtain ⟨a1, c1, e7⟩ := RowsAt.form (SideG.head (SideG.less HS.out))
        obtain ⟨m1, hm1⟩ : ∃ m1, L.length = m1 := ⟨_, rfl⟩
        have e8 : v = .slice a1 m1 c1 := by rw [← hm1]; exact e7
        subst e8
        have HM1 := Lib.hid hm1
        have HBL := Lib.hid (show b < wr.heap.size from Blk.lt (SideG.head HS.out))
        have SB := Lib.hid ((SideG.new HS.out (.int .i64 kk) [.int .i64 y] 30).sub (bs' := [Bes.blk b (.int .i64 id) [.int .i64 h, .slice a1 m1 c1], Bes.rows 1 csI (.slice a1 m1 c1) L, Bes.blk wr.heap.size (.int .i64 kk) [.int .i64 y]]) (by simp))
        clear hc hy har hk e7 hm1
        rw [HM1.out] at HO
        go_upto_block 2 with fail
        go_cut [] (fun wx => ∃ (h2 : Int) (L2 : List Int) (v2 : Value), Hid (SideG C.obj w wx p ⟨id, h2, L2⟩ [Bes.blk b (.int .i64 id) [.int .i64 h2, v2], Bes.rows 1 csI v2 L2, Bes.blk wr.heap.size (.int .i64 kk) [.int .i64 y]]) ∧ Hid (Off19 b v2 L2.length) ∧ Hid (L2.length ≤ 100))
        case first =>
          by_cases f1 : kk = 1
          · subst f1
            have P := Lib.hid (C.sAsk y HY.out SB.out)
            simp only at P
            obtain ⟨⟨L2, f⟩, hLf⟩ : ∃ r, askL h L y = r := ⟨_, rfl⟩
            have HN := Lib.hid (show L2.length ≤ 100 by have := askL_len (h := h) y HL.out; rw [hLf] at this; exact this)
            have HR := Lib.hid fun w1 (hs : SideG C.obj w w1 p ⟨id, h, L2⟩ [Bes.blk b (.int .i64 id) [.int .i64 h, .slice a1 m1 c1], Bes.rows 1 csI (.slice a1 m1 c1) L, Bes.blk wr.heap.size (.int .i64 1) [.int .i64 y]]) => refAsk19_any id h y (.slice a1 m1 c1) L w1 (RowsAt.ints (SideG.head (SideG.less hs))) (by have := HL.out; omega)
            rw [hLf] at P HR
            simp only at P HR
            clear hLf
            obtain ⟨m2, hm2⟩ : ∃ m2, L2.length = m2 := ⟨_, rfl⟩
            have HM2 := Lib.hid hm2
            clear hm2
            rw [HM1.out, HM2.out] at HR
            go_wp2_with (first
              | (go_at_call 7; (with_reducible refine P.out.mono ?_); rintro e w3 ⟨rfl, hs⟩; have SS := Lib.hid hs; have q0 := Blk.cell (vs := [.int .i64 id, .int .i64 h, .slice a1 m1 c1]) (SideG.head SS.out) 0 rfl; have q1 := Blk.cell (vs := [.int .i64 id, .int .i64 h, .slice a1 m1 c1]) (SideG.head SS.out) 1 rfl; have q2 := Blk.cell (vs := [.int .i64 id, .int .i64 h, .slice a1 m1 c1]) (SideG.head SS.out) 2 rfl; have q3 := Blk.cell (vs := [.int .i64 1, .int .i64 y]) (SideG.head (SideG.less (SideG.less SS.out))) 1 rfl; clear hs)
              | (go_at_call 8; (with_reducible refine (HR.out _ SS.out).mono ?_); rintro e w4 ⟨v4, rfl, i4, f4, b4⟩; have ST := Lib.hid ((((SS.out.sub (bs' := [Bes.rows 1 csI (.slice a1 m1 c1) L, Bes.blk b (.int .i64 id) [.int .i64 h, .slice a1 m1 c1], Bes.blk wr.heap.size (.int .i64 1) [.int .i64 y]]) (by simp)).turn b4 (IntsAt.rows i4) (by rw [HM1.out, HM2.out]; exact f4))).sub (bs' := [Bes.blk b (.int .i64 id) [.int .i64 h, .slice a1 m1 c1], Bes.rows 1 csI v4 L2, Bes.blk wr.heap.size (.int .i64 1) [.int .i64 y]]) (by simp)); have HF4 := Lib.hid (HO.out.from_ (v' := v4) (n' := m2) f4 (Blk.lt (SideG.head SS.out))); obtain ⟨a4, c4, e4⟩ := i4.form; rw [HM2.out] at e4; subst e4; have s0 := Blk.cell (vs := [.int .i64 id, .int .i64 h, .slice a1 m1 c1]) (SideG.head ST.out) 0 rfl; have s1 := Blk.cell (vs := [.int .i64 id, .int .i64 h, .slice a1 m1 c1]) (SideG.head ST.out) 1 rfl; have s2 := Blk.cell (vs := [.int .i64 id, .int .i64 h, .slice a1 m1 c1]) (SideG.head ST.out) 2 rfl; have t0 := Blk.free (vs := [.int .i64 id, .int .i64 h, .slice a1 m1 c1]) (SideG.head ST.out) 0 rfl; have t1 := Blk.free (vs := [.int .i64 id, .int .i64 h, .slice a1 m1 c1]) (SideG.head ST.out) 1 rfl; have t2 := Blk.free (vs := [.int .i64 id, .int .i64 h, .slice a1 m1 c1]) (SideG.head ST.out) 2 rfl; clear i4 f4 b4 q0 q1 q2 q3))
            go_meet
            exact ⟨h, L2, .slice a4 m2 c4, Does19.write (a0 := .slice a4 m2 c4) ST.out HBW.out (by rw [HM2.out]; exact HF4.out) (by intro s hs hf; have e0 : s = Bes.blk wr.heap.size (.int .i64 1) [.int .i64 y] := (by simpa using hs); subst e0; have e : b = wr.heap.size := hf; have := HBL.out; omega), by rw [HM2.out]; exact HF4.out, HN.out⟩
          · have f1b : (kk == 1) = false := beq_noI f1
            by_cases f2 : kk = 2
            · subst f2
              clear f1 f1b
              have P := Lib.hid (C.sGrant SB.out)
              simp only at P
              obtain ⟨⟨h2, L2, gx, gb⟩, hLf⟩ : ∃ r, grantL h L = r := ⟨_, rfl⟩
              have HN := Lib.hid (show L2.length ≤ 100 by have := grantL_len (h := h) HL.out; rw [hLf] at this; exact this)
              have HR := Lib.hid fun w1 (hs : SideG C.obj w w1 p ⟨id, h2, L2⟩ [Bes.blk b (.int .i64 id) [.int .i64 h, .slice a1 m1 c1], Bes.rows 1 csI (.slice a1 m1 c1) L, Bes.blk wr.heap.size (.int .i64 2) [.int .i64 y]]) => refGrant19_any id h (.slice a1 m1 c1) L w1 (RowsAt.ints (SideG.head (SideG.less hs)))
              rw [hLf] at P HR
              simp only at P HR
              clear hLf
              obtain ⟨m2, hm2⟩ : ∃ m2, L2.length = m2 := ⟨_, rfl⟩
              have HM2 := Lib.hid hm2
              clear hm2
              rw [HM1.out, HM2.out] at HR
              go_wp2_with (first
                | (go_at_call 9; (with_reducible refine P.out.mono ?_); rintro e w3 ⟨rfl, hs⟩; have SS := Lib.hid hs; have q0 := Blk.cell (vs := [.int .i64 id, .int .i64 h, .slice a1 m1 c1]) (SideG.head SS.out) 0 rfl; have q1 := Blk.cell (vs := [.int .i64 id, .int .i64 h, .slice a1 m1 c1]) (SideG.head SS.out) 1 rfl; have q2 := Blk.cell (vs := [.int .i64 id, .int .i64 h, .slice a1 m1 c1]) (SideG.head SS.out) 2 rfl; clear hs)
                | (go_at_call 10; (with_reducible refine (HR.out _ SS.out).mono ?_); rintro e w4 ⟨v4, rfl, i4, f4, b4⟩; have ST := Lib.hid ((((SS.out.sub (bs' := [Bes.rows 1 csI (.slice a1 m1 c1) L, Bes.blk b (.int .i64 id) [.int .i64 h, .slice a1 m1 c1], Bes.blk wr.heap.size (.int .i64 2) [.int .i64 y]]) (by simp)).turn b4 (IntsAt.rows i4) (by rw [HM1.out, HM2.out]; exact f4))).sub (bs' := [Bes.blk b (.int .i64 id) [.int .i64 h, .slice a1 m1 c1], Bes.rows 1 csI v4 L2, Bes.blk wr.heap.size (.int .i64 2) [.int .i64 y]]) (by simp)); have HF4 := Lib.hid (HO.out.from_ (v' := v4) (n' := m2) f4 (Blk.lt (SideG.head SS.out))); obtain ⟨a4, c4, e4⟩ := i4.form; rw [HM2.out] at e4; subst e4; have s0 := Blk.cell (vs := [.int .i64 id, .int .i64 h, .slice a1 m1 c1]) (SideG.head ST.out) 0 rfl; have s1 := Blk.cell (vs := [.int .i64 id, .int .i64 h, .slice a1 m1 c1]) (SideG.head ST.out) 1 rfl; have s2 := Blk.cell (vs := [.int .i64 id, .int .i64 h, .slice a1 m1 c1]) (SideG.head ST.out) 2 rfl; have t0 := Blk.free (vs := [.int .i64 id, .int .i64 h, .slice a1 m1 c1]) (SideG.head ST.out) 0 rfl; have t1 := Blk.free (vs := [.int .i64 id, .int .i64 h, .slice a1 m1 c1]) (SideG.head ST.out) 1 rfl; have t2 := Blk.free (vs := [.int .i64 id, .int .i64 h, .slice a1 m1 c1]) (SideG.head ST.out) 2 rfl; clear i4 f4 b4 q0 q1 q2))
              go_meet
              exact ⟨h2, L2, .slice a4 m2 c4, Does19.write (a0 := .slice a4 m2 c4) ST.out HBW.out (by rw [HM2.out]; exact HF4.out) (by intro s hs hf; have e0 : s = Bes.blk wr.heap.size (.int .i64 2) [.int .i64 y] := (by simpa using hs); subst e0; have e : b = wr.heap.size := hf; have := HBL.out; omega), by rw [HM2.out]; exact HF4.out, HN.out⟩
            · have f2b : (kk == 2) = false := beq_noI f2
              by_cases f3 : kk = 3
              · subst f3
                clear f1 f1b f2 f2b
                have P := Lib.hid (C.sLeave y HY.out SB.out)
                simp only at P
                obtain ⟨⟨h2, L2, f⟩, hLf⟩ : ∃ r, leaveL h L y = r := ⟨_, rfl⟩
                have HN := Lib.hid (show L2.length ≤ 100 by have := leaveL_len (h := h) y HL.out; rw [hLf] at this; exact this)
                have HR := Lib.hid fun w1 (hs : SideG C.obj w w1 p ⟨id, h2, L2⟩ [Bes.blk b (.int .i64 id) [.int .i64 h, .slice a1 m1 c1], Bes.rows 1 csI (.slice a1 m1 c1) L, Bes.blk wr.heap.size (.int .i64 3) [.int .i64 y]]) => refLeave19_any id h y (.slice a1 m1 c1) L w1 (RowsAt.ints (SideG.head (SideG.less hs))) (by have := HL.out; omega)
                rw [hLf] at P HR
                simp only at P HR
                clear hLf
                obtain ⟨m2, hm2⟩ : ∃ m2, L2.length = m2 := ⟨_, rfl⟩
                have HM2 := Lib.hid hm2
                clear hm2
                rw [HM1.out, HM2.out] at HR
                go_wp2_with (first
                  | (go_at_call 11; (with_reducible refine P.out.mono ?_); rintro e w3 ⟨rfl, hs⟩; have SS := Lib.hid hs; have q0 := Blk.cell (vs := [.int .i64 id, .int .i64 h, .slice a1 m1 c1]) (SideG.head SS.out) 0 rfl; have q1 := Blk.cell (vs := [.int .i64 id, .int .i64 h, .slice a1 m1 c1]) (SideG.head SS.out) 1 rfl; have q2 := Blk.cell (vs := [.int .i64 id, .int .i64 h, .slice a1 m1 c1]) (SideG.head SS.out) 2 rfl; have q3 := Blk.cell (vs := [.int .i64 3, .int .i64 y]) (SideG.head (SideG.less (SideG.less SS.out))) 1 rfl; clear hs)
                  | (go_at_call 12; (with_reducible refine (HR.out _ SS.out).mono ?_); rintro e w4 ⟨v4, rfl, i4, f4, b4⟩; have ST := Lib.hid ((((SS.out.sub (bs' := [Bes.rows 1 csI (.slice a1 m1 c1) L, Bes.blk b (.int .i64 id) [.int .i64 h, .slice a1 m1 c1], Bes.blk wr.heap.size (.int .i64 3) [.int .i64 y]]) (by simp)).turn b4 (IntsAt.rows i4) (by rw [HM1.out, HM2.out]; exact f4))).sub (bs' := [Bes.blk b (.int .i64 id) [.int .i64 h, .slice a1 m1 c1], Bes.rows 1 csI v4 L2, Bes.blk wr.heap.size (.int .i64 3) [.int .i64 y]]) (by simp)); have HF4 := Lib.hid (HO.out.from_ (v' := v4) (n' := m2) f4 (Blk.lt (SideG.head SS.out))); obtain ⟨a4, c4, e4⟩ := i4.form; rw [HM2.out] at e4; subst e4; have s0 := Blk.cell (vs := [.int .i64 id, .int .i64 h, .slice a1 m1 c1]) (SideG.head ST.out) 0 rfl; have s1 := Blk.cell (vs := [.int .i64 id, .int .i64 h, .slice a1 m1 c1]) (SideG.head ST.out) 1 rfl; have s2 := Blk.cell (vs := [.int .i64 id, .int .i64 h, .slice a1 m1 c1]) (SideG.head ST.out) 2 rfl; have t0 := Blk.free (vs := [.int .i64 id, .int .i64 h, .slice a1 m1 c1]) (SideG.head ST.out) 0 rfl; have t1 := Blk.free (vs := [.int .i64 id, .int .i64 h, .slice a1 m1 c1]) (SideG.head ST.out) 1 rfl; have t2 := Blk.free (vs := [.int .i64 id, .int .i64 h, .slice a1 m1 c1]) (SideG.head ST.out) 2 rfl; clear i4 f4 b4 q0 q1 q2 q3))
                go_meet
                exact ⟨h2, L2, .slice a4 m2 c4, Does19.write (a0 := .slice a4 m2 c4) ST.out HBW.out (by rw [HM2.out]; exact HF4.out) (by intro s hs hf; have e0 : s = Bes.blk wr.heap.size (.int .i64 3) [.int .i64 y] := (by simpa using hs); subst e0; have e : b = wr.heap.size := hf; have := HBL.out; omega), by rw [HM2.out]; exact HF4.out, HN.out⟩
              · have f3b : (kk == 3) = false := beq_noI f3
                go_wp2
                go_meet
                exact ⟨h, L, .slice a1 m1 c1, SB.out, by rw [HM1.out]; exact HO.out, HL.out⟩
        case rest =>
          clear SB HS HL HO p0 p1
          obtain ⟨h2, L2, vv, HS2, HO2, HL2⟩ := hcut
          go_upto_region 24 with fail
          cases L2 with
          | nil =>
            refine lockTail_nil C w wc b p vv id h2 (Bes.blk wr.heap.size (.int .i64 kk) [.int .i64 y]) HS2 (by show _ ≤ _; simp) (by assumption) fun x17 x18 x88 x89 x90 x91 x92 x93 x94 x95 x96 x97 x98 x99 x100 x101 x102 x103 x104 x105 x106 x107 x108 x109 x110 x111 x112 x113 x114 x115 x116 x117 x118 x119 x120 x121 x122 x123 x124 w' hS => ?_
            have HS4 := Lib.hid (SideG.sub (bs' := [Bes.blk b (.int .i64 id) [.int .i64 h2, vv], Bes.rows 1 csI vv ([])]) hS (by simp))
            clear hS
            go_wp2
            go_roundg (l.length - (k + 1))
            case measure => have := HLT.out; omega
            case rel => exact ⟨k + 1, h2, [], vv, by have := HLT.out; omega, Nat.le_refl _, by go_num, HS4.out, HO2.out, HL2.out⟩
          | cons z t =>
            refine lockTail_cons C w wc b p vv id h2 (Bes.blk wr.heap.size (.int .i64 kk) [.int .i64 y]) z t HS2 (by have := HL2.out; show _ ≤ _; omega) (by assumption) fun x17 x18 x88 x89 x90 x91 x92 x93 x94 x95 x96 x97 x98 x99 x100 x101 x102 x103 x104 x105 x106 x107 x108 x109 x110 x111 x112 x113 x114 x115 x116 x117 x118 x119 x120 x121 x122 x123 x124 w' hS => ?_
            have HS4 := Lib.hid (SideG.sub (bs' := [Bes.blk b (.int .i64 id) [.int .i64 h2, vv], Bes.rows 1 csI vv (z :: t)]) hS (by simp))
            clear hS
            go_wp2
            go_roundg (l.length - (k + 1))
            case measure => have := HLT.out; omega
            case rel => exact ⟨k + 1, h2, z :: t, vv, by have := HLT.out; omega, Nat.le_refl _, by go_num, HS4.out, HO2.out, HL2.out⟩
      · have g2 : ¬ (k : Int) < (l.length : Int) := by omega
        have HB := Lib.hid (SideG.below HS.out)
        clear HS HL HO
        go_wp2_with (go_at_call 5; (with_reducible refine (HAL.out _).mono ?_); rintro e w5 ⟨rfl, hb⟩; have HB2 := Lib.hid (HB.out.trans (hb.mono HB.out.size)); clear hb)
        go_ret
        exact ⟨rfl, HB2.out⟩
  · have g1 : (200 : Int) < (l.length : Int) := by omega
    go_enter Try.func3, Try.ntmps3
    go_wp2_with (go_at_call 5; (with_reducible refine (HAL.out _).mono ?_); rintro e w5 ⟨rfl, hb⟩)
    go_ret
    exact ⟨rfl, hb⟩
end Go.Proofs.Ytdoanlemoegikaa
