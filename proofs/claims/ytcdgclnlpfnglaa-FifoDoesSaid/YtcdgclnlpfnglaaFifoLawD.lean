/- The law FifoDoes, over the program's contracts as one structure. Written by wip/tools/gen_fifodoes.py. -/
import Derived.Test.YtcdgclnlpfnglaaFifoLawF
import Derived.Test.YtcdgclnlpfnglaaLks
import Derived.Test.YtcdgclnlpfnglaaSatRef
import Derived.Deep.CutBlock
namespace Go.Proofs.Ytcdgclnlpfnglaa
open Go.RowKit

theorem clip_is (n : Int) : iclip n 0 1024 = clipF n := by unfold iclip clipF; split <;> omega
/-- the list without its first number, as the model cuts it -/
theorem from18 (a : Option Addr) (n c : Nat) (hk : 1 ≤ n) (hn : n ≤ c) : ∃ a4 c4, (∀ w', (Instr.sliceAt 27 (.slice a n c) (some (.int .i64 1)) none none).run Try.prog w' = .ok (.slice a4 (n - 1) c4) w') ∧
    (∀ (w' : World) (l : List Int), l.length = n → RowsAt w' 1 csI (.slice a n c) l → RowsAt w' 1 csI (.slice a4 (n - 1) c4) (l.drop 1)) ∧ ∀ k, (Value.slice a4 (n - 1) c4).ownBlock = some k → (Value.slice a n c).ownBlock = some k := by
  have h1 : (1 : Int) ≤ (n : Int) := by omega
  by_cases hck : c = 1
  · have hc0 : n = 1 := by omega
    refine ⟨a, 0, fun w' => ?_, fun w' l hl h => ?_, fun k h => by cases a <;> simp [Value.ownBlock] at h ⊢; exact h⟩
    · simp [go_sem, hck, hc0, sliced]
    · have := restAt13 h 1 (by omega) a (fun h => by omega)
      rwa [hck, Nat.sub_self] at this
  · refine ⟨a.map (fun x => x.add 1), c - 1, fun w' => ?_, fun w' l hl h => ?_, fun k h => ?_⟩
    · simp [go_sem, sliced, h1]
      exact fun h => absurd h hck
    · exact restAt13 h 1 (by omega) _ (fun _ g o e => by subst e; simp [Addr.add])
    · cases a with
      | none => simp [Value.ownBlock] at h
      | some a => simpa [Value.ownBlock, Addr.add] using h
/-- what holds between two acts -/
abbrev Does18 (C : FifoProg) (w wx : World) (p v : Value) (n : Int) (L : List Int) (bs : List Bes) : Prop := SideG C.obj w wx p ⟨n, L⟩ (Bes.rows 1 csI v L :: bs)
def All18 (L : List Int) (k : Nat) : Prop := L.length ≤ k ∧ ∀ y ∈ L, In18 y
theorem All18.put {L : List Int} {k : Nat} (h : All18 L k) (n x : Int) (hx : In18 x) : All18 (putF L n x).1 (k + 1) := by
  refine ⟨Nat.le_trans (putF_len L n x) (by have := h.1; omega), fun y hy => ?_⟩
  unfold putF at hy
  split at hy
  · exact h.2 y hy
  · split at hy
    · exact h.2 y hy
    · rcases List.mem_append.1 hy with hy | hy
      · exact h.2 y hy
      · rw [List.mem_singleton.1 hy]; exact hx
theorem All18.tail {L : List Int} {k : Nat} (h : All18 L k) : All18 (L.drop 1) (k + 1) := ⟨by rw [List.length_drop]; have := h.1; omega, fun y hy => h.2 y (List.mem_of_mem_drop hy)⟩
theorem All18.drop {L : List Int} {k : Nat} (h : All18 L k) (x : Int) : All18 (dropF L x) (k + 1) := ⟨Nat.le_trans (dropF_len L x) (by have := h.1; omega), fun y hy => h.2 y ((dropF_mem _ _ _).1 hy).1⟩
theorem All18.same {L : List Int} {k : Nat} (h : All18 L k) : All18 L (k + 1) := ⟨by have := h.1; omega, h.2⟩

/-- the round's end, behind the act: the function's own statement -/
def rightC18 : Code → Code | .seq _ y => y | c => c
def leftC18 : Code → Code | .seq x _ => x | c => c
def inC18 : Code → Code | .block _ c => c | .loop c => c | c => c
noncomputable def doesTailC : Code := rightC18 (rightC18 (inC18 (leftC18 (rightC18 (rightC18 (inC18 (inC18 (rightC18 (leftC18 (rightC18 (rightC18 (rightC18 (rightC18 ((Try.f3.body).getD .skip))))))))))))))
set_option maxHeartbeats 16000000 in
set_option maxRecDepth 100000 in
theorem doesTail_nil (C : FifoProg) (w wc : World) (b : Nat) (p vv : Value) (n kk y : Int) (HY : Hid (In18 y)) (HS2 : Hid (SideG C.obj w wc p ⟨n, ([] : List Int)⟩ [Bes.rows 1 csI vv ([] : List Int), Bes.blk b (.int .i64 kk) [.int .i64 y]])) (HL2 : Hid (([] : List Int).length ≤ 1000)) {Q : Exit → Act → World → Prop} {K : Act → World → Prop} (hK : ∀ a w, Code.wp Try.prog (rightC18 doesTailC) Q a w → K a w)
    {u0 u1 u2 u3 u4 u8 u10 u11 u12 u13 u14 u15 u16 u17 u18 u19 u20 u21 u22 u23 u24 u25 u26 u27 u28 u29 u30 u31 u32 u33 u34 u35 u36 u37 u38 u39 u40 u41 u42 u43 u44 u45 u46 u47 u48 u49 u50 u51 u52 u53 u54 u55 u56 u57 u58 u59 u60 u61 u62 u63 u64 u65 u66 u67 u68 u69 u70 u71 u72 u73 u74 u75 u76 u77 u78 u79 u80 u81 u82 u83 u84 u85 u86 u87 u88 u89 u90 u91 u92 u93 u94 u95 u96 u97 u98 u99 u100 u101 u102 u103 u104 u105 u106 u107 u108 u109 u110 u111 u112 u113 u114 u115 u116 u117 u118 u119 u120 u121 u122 u123 u124 u125 u126 u127 u128 u129 u130 u131 u132 u133 u134 u135 u136 u137 u138 u139 u140 u141 u142 u143 u144 u145 u146 u147 u148 u149 u150 u151 u152 u153 u154 u155 u156 u157 u158 u159 u160 : Value} (hQ : ∀ (x16 x17 x100 x101 x102 x103 x104 x105 x106 x107 x108 x109 x110 x111 x112 x113 x114 x115 x116 x117 x118 x119 x120 x121 x122 x123 x124 x125 x126 x127 x128 x129 x130 x131 x132 x133 x134 x135 x136 x137 x138 x139 x140 x141 x142 x143 x144 x145 x146 x147 x148 x149 x150 x151 x152 x153 x154 x155 x156 x157 x158 : Value) (w' : World), SideG C.obj w w' p ⟨n, ([] : List Int)⟩ [Bes.rows 1 csI vv ([] : List Int)] → Q .normal { tmps := #[u0, u1, u2, u3, u4, p, .int .i64 n, vv, u8, .pointer (some ⟨b, 0, none⟩), u10, u11, u12, u13, u14, u15, x16, x17, u18, u19, u20, u21, u22, u23, u24, u25, u26, u27, u28, u29, u30, u31, u32, u33, u34, u35, u36, u37, u38, u39, u40, u41, u42, u43, u44, u45, u46, u47, u48, u49, u50, u51, u52, u53, u54, u55, u56, u57, u58, u59, u60, u61, u62, u63, u64, u65, u66, u67, u68, u69, u70, u71, u72, u73, u74, u75, u76, u77, u78, u79, u80, u81, u82, u83, u84, u85, u86, u87, u88, u89, u90, u91, u92, u93, u94, u95, u96, u97, u98, u99, x100, x101, x102, x103, x104, x105, x106, x107, x108, x109, x110, x111, x112, x113, x114, x115, x116, x117, x118, x119, x120, x121, x122, x123, x124, x125, x126, x127, x128, x129, x130, x131, x132, x133, x134, x135, x136, x137, x138, x139, x140, x141, x142, x143, x144, x145, x146, x147, x148, x149, x150, x151, x152, x153, x154, x155, x156, x157, x158, u159, u160], defers := [] } w') :
    Code.wp Try.prog (leftC18 doesTailC) (Exit.then K Q) { tmps := #[u0, u1, u2, u3, u4, p, .int .i64 n, vv, u8, .pointer (some ⟨b, 0, none⟩), u10, u11, u12, u13, u14, u15, u16, u17, u18, u19, u20, u21, u22, u23, u24, u25, u26, u27, u28, u29, u30, u31, u32, u33, u34, u35, u36, u37, u38, u39, u40, u41, u42, u43, u44, u45, u46, u47, u48, u49, u50, u51, u52, u53, u54, u55, u56, u57, u58, u59, u60, u61, u62, u63, u64, u65, u66, u67, u68, u69, u70, u71, u72, u73, u74, u75, u76, u77, u78, u79, u80, u81, u82, u83, u84, u85, u86, u87, u88, u89, u90, u91, u92, u93, u94, u95, u96, u97, u98, u99, u100, u101, u102, u103, u104, u105, u106, u107, u108, u109, u110, u111, u112, u113, u114, u115, u116, u117, u118, u119, u120, u121, u122, u123, u124, u125, u126, u127, u128, u129, u130, u131, u132, u133, u134, u135, u136, u137, u138, u139, u140, u141, u142, u143, u144, u145, u146, u147, u148, u149, u150, u151, u152, u153, u154, u155, u156, u157, u158, u159, u160], defers := [] } wc := by
  simp only [doesTailC, rightC18, leftC18, inC18, Option.getD, Try.f3] at hK ⊢
  have HFI := Lib.hid fun w1 (h : SideG C.obj w w1 p ⟨n, ([] : List Int)⟩ [Bes.rows 1 csI vv ([] : List Int), Bes.blk b (.int .i64 kk) [.int .i64 y]]) => C.sFirst h
  have hh : hdF ([] : List Int) = (0, false) := rfl
  simp only [hh] at HFI
  clear hh
  obtain ⟨m, hm⟩ : ∃ m, ([] : List Int).length = m := ⟨_, rfl⟩
  have HLn := Lib.hid hm
  have m0 : decide (0 < m) = false := by simp at hm ⊢; omega

  have HAT := Lib.hid fun w1 (h : SideG C.obj w w1 p ⟨n, ([] : List Int)⟩ [Bes.rows 1 csI vv ([] : List Int), Bes.blk b (.int .i64 kk) [.int .i64 y]]) => C.sAt y HY.out h
  have HRA := Lib.hid fun w1 (h : SideG C.obj w w1 p ⟨n, ([] : List Int)⟩ [Bes.rows 1 csI vv ([] : List Int), Bes.blk b (.int .i64 kk) [.int .i64 y]]) => refAtF_any vv ([] : List Int) y w1 (RowsAt.ints (SideG.head h)) (by have := HL2.out; omega)
  have HLI := Lib.hid fun w1 (h : SideG C.obj w w1 p ⟨n, ([] : List Int)⟩ [Bes.rows 1 csI vv ([] : List Int), Bes.blk b (.int .i64 kk) [.int .i64 y]]) => C.sList h
  have HLE := Lib.hid fun w1 (h : SideG C.obj w w1 p ⟨n, ([] : List Int)⟩ [Bes.rows 1 csI vv ([] : List Int), Bes.blk b (.int .i64 kk) [.int .i64 y]]) => C.sLen h
  have HRO := Lib.hid fun w1 (h : SideG C.obj w w1 p ⟨n, ([] : List Int)⟩ [Bes.rows 1 csI vv ([] : List Int), Bes.blk b (.int .i64 kk) [.int .i64 y]]) => C.sRoom h
  simp only at HAT HRA HLI HLE HRO
  obtain ⟨pl, hpl⟩ : ∃ pl, plcL ([] : List Int) y = pl := ⟨_, rfl⟩
  rw [hpl] at HAT HRA
  rw [hm] at HLE
  have HIN := Lib.hid fun w1 v2 (h : SideG C.obj w w1 p ⟨n, ([] : List Int)⟩ [Bes.rows 1 csI vv ([] : List Int), Bes.blk b (.int .i64 kk) [.int .i64 y]]) (h2 : IntsAt w1 v2 ([] : List Int)) => refInts_any v2 vv ([] : List Int) ([] : List Int) w1 h2 (RowsAt.ints (SideG.head h)) (by have := HL2.out; omega) (by have := HL2.out; omega)
  simp only [decide_true] at HIN
  obtain ⟨a2, c2, e2⟩ := RowsAt.form (SideG.head HS2.out)
  rw [hm] at e2
  clear hpl hm
  subst e2
  go_upto_region 26 with (go_at_call 13; (with_reducible refine (HFI.out _ HS2.out).mono ?_); rintro e w5 ⟨rfl, hb5⟩; have HS3 := Lib.hid (HS2.out.kept hb5); have HB5 := Lib.hid hb5; clear hb5)
  have b1 : w5.cell? ⟨b, 1, none⟩ = some (.int .i64 y) := Blk.cell (vs := [.int .i64 kk, .int .i64 y]) (SideG.head (SideG.less HS3.out)) 1 rfl
  clear HB5
  refine wp_region_chain 54 [.calm 36, .own (lkIL ([] : List Int) m), .calm 1, .own (Lk.val1 (.bool true)), .calm 15] [36, 38] rfl (by kernel_rfl) (by simp) (by kernel_rfl) (chainOf_two (by kernel_rfl)) ?_
  simp only [List.take_succ_cons, List.take_zero, List.drop_succ_cons, List.drop_zero]
  refine ⟨by simp, fun M => ?_⟩
  simp only [List.take_succ_cons, List.take_zero, List.drop_succ_cons, List.drop_zero]
  have k1 := fun n : In M.w => n.cell (M.cell b1)

  have h1 := fun n : In M.w => HAT.out n.w (HS3.out.kept (In.within (m := M) n).h)
  have h2 := fun n : In M.w => HRA.out n.w (HS3.out.kept (In.within (m := M) n).h)
  repeat (go_big_quiet_step (first
    | (go_at_call 14; with_reducible exact In.call (h1 _))
    | (go_at_call 15; with_reducible exact In.call_same (h2 _))))
  refine wpQuiet_nil ?_
  clear k1 h1 h2 M
  refine ⟨rfl, lkIL_at (f := 17) (args := #[p]) HLn.out.symm (fun k => by simp [go_sem]) (fun k => HLI.out k.w (HS3.out.kept k.h)), fun x1 A hA => ?_⟩
  simp [Act.put, lkIL] at hA
  subst hA
  refine ⟨by simp, fun M => ?_⟩
  simp only [List.take_succ_cons, List.take_zero, List.drop_succ_cons, List.drop_zero]
  repeat (go_big_quiet_step (fail))
  refine wpQuiet_nil ?_
  clear M
  refine ⟨rfl, lkSure_at (f := 16) (args := #[.slice x1.1 m x1.2, .slice a2 m c2]) (fun k => by simp [go_sem]) (fun k hk => HIN.out k.w _ (HS3.out.kept k.h) hk), fun x2 A hA => ?_⟩
  simp [Act.put, Lk.val1] at hA
  subst hA
  refine ⟨by simp, fun M => ?_⟩
  simp only [List.take_succ_cons, List.take_zero, List.drop_succ_cons, List.drop_zero]
  have h3 := fun n : In M.w => HLE.out n.w (HS3.out.kept (In.within (m := M) n).h)
  have h4 := fun n : In M.w => HRO.out n.w (HS3.out.kept (In.within (m := M) n).h)
  repeat (go_big_quiet_step (first
    | (go_at_call 18; with_reducible exact In.call (h3 _))
    | (go_at_call 19; with_reducible exact In.call (h4 _))))
  refine wpQuiet_nil ?_
  clear h3 h4 M
  refine ⟨rfl, fun w7 hb7 _ => ?_⟩
  have HS4 := Lib.hid ((HS3.out.kept hb7).swap.less)
  clear hb7
  go_wp2
  exact HS4.out

set_option maxHeartbeats 16000000 in
set_option maxRecDepth 100000 in
theorem doesTail_cons (C : FifoProg) (w wc : World) (b : Nat) (p vv : Value) (n kk y : Int) (z : Int) (t : List Int) (HY : Hid (In18 y)) (HS2 : Hid (SideG C.obj w wc p ⟨n, (z :: t)⟩ [Bes.rows 1 csI vv (z :: t), Bes.blk b (.int .i64 kk) [.int .i64 y]])) (HL2 : Hid ((z :: t).length ≤ 1000)) {Q : Exit → Act → World → Prop} {K : Act → World → Prop} (hK : ∀ a w, Code.wp Try.prog (rightC18 doesTailC) Q a w → K a w)
    {u0 u1 u2 u3 u4 u8 u10 u11 u12 u13 u14 u15 u16 u17 u18 u19 u20 u21 u22 u23 u24 u25 u26 u27 u28 u29 u30 u31 u32 u33 u34 u35 u36 u37 u38 u39 u40 u41 u42 u43 u44 u45 u46 u47 u48 u49 u50 u51 u52 u53 u54 u55 u56 u57 u58 u59 u60 u61 u62 u63 u64 u65 u66 u67 u68 u69 u70 u71 u72 u73 u74 u75 u76 u77 u78 u79 u80 u81 u82 u83 u84 u85 u86 u87 u88 u89 u90 u91 u92 u93 u94 u95 u96 u97 u98 u99 u100 u101 u102 u103 u104 u105 u106 u107 u108 u109 u110 u111 u112 u113 u114 u115 u116 u117 u118 u119 u120 u121 u122 u123 u124 u125 u126 u127 u128 u129 u130 u131 u132 u133 u134 u135 u136 u137 u138 u139 u140 u141 u142 u143 u144 u145 u146 u147 u148 u149 u150 u151 u152 u153 u154 u155 u156 u157 u158 u159 u160 : Value} (hQ : ∀ (x16 x17 x100 x101 x102 x103 x104 x105 x106 x107 x108 x109 x110 x111 x112 x113 x114 x115 x116 x117 x118 x119 x120 x121 x122 x123 x124 x125 x126 x127 x128 x129 x130 x131 x132 x133 x134 x135 x136 x137 x138 x139 x140 x141 x142 x143 x144 x145 x146 x147 x148 x149 x150 x151 x152 x153 x154 x155 x156 x157 x158 : Value) (w' : World), SideG C.obj w w' p ⟨n, (z :: t)⟩ [Bes.rows 1 csI vv (z :: t)] → Q .normal { tmps := #[u0, u1, u2, u3, u4, p, .int .i64 n, vv, u8, .pointer (some ⟨b, 0, none⟩), u10, u11, u12, u13, u14, u15, x16, x17, u18, u19, u20, u21, u22, u23, u24, u25, u26, u27, u28, u29, u30, u31, u32, u33, u34, u35, u36, u37, u38, u39, u40, u41, u42, u43, u44, u45, u46, u47, u48, u49, u50, u51, u52, u53, u54, u55, u56, u57, u58, u59, u60, u61, u62, u63, u64, u65, u66, u67, u68, u69, u70, u71, u72, u73, u74, u75, u76, u77, u78, u79, u80, u81, u82, u83, u84, u85, u86, u87, u88, u89, u90, u91, u92, u93, u94, u95, u96, u97, u98, u99, x100, x101, x102, x103, x104, x105, x106, x107, x108, x109, x110, x111, x112, x113, x114, x115, x116, x117, x118, x119, x120, x121, x122, x123, x124, x125, x126, x127, x128, x129, x130, x131, x132, x133, x134, x135, x136, x137, x138, x139, x140, x141, x142, x143, x144, x145, x146, x147, x148, x149, x150, x151, x152, x153, x154, x155, x156, x157, x158, u159, u160], defers := [] } w') :
    Code.wp Try.prog (leftC18 doesTailC) (Exit.then K Q) { tmps := #[u0, u1, u2, u3, u4, p, .int .i64 n, vv, u8, .pointer (some ⟨b, 0, none⟩), u10, u11, u12, u13, u14, u15, u16, u17, u18, u19, u20, u21, u22, u23, u24, u25, u26, u27, u28, u29, u30, u31, u32, u33, u34, u35, u36, u37, u38, u39, u40, u41, u42, u43, u44, u45, u46, u47, u48, u49, u50, u51, u52, u53, u54, u55, u56, u57, u58, u59, u60, u61, u62, u63, u64, u65, u66, u67, u68, u69, u70, u71, u72, u73, u74, u75, u76, u77, u78, u79, u80, u81, u82, u83, u84, u85, u86, u87, u88, u89, u90, u91, u92, u93, u94, u95, u96, u97, u98, u99, u100, u101, u102, u103, u104, u105, u106, u107, u108, u109, u110, u111, u112, u113, u114, u115, u116, u117, u118, u119, u120, u121, u122, u123, u124, u125, u126, u127, u128, u129, u130, u131, u132, u133, u134, u135, u136, u137, u138, u139, u140, u141, u142, u143, u144, u145, u146, u147, u148, u149, u150, u151, u152, u153, u154, u155, u156, u157, u158, u159, u160], defers := [] } wc := by
  simp only [doesTailC, rightC18, leftC18, inC18, Option.getD, Try.f3] at hK ⊢
  have HFI := Lib.hid fun w1 (h : SideG C.obj w w1 p ⟨n, (z :: t)⟩ [Bes.rows 1 csI vv (z :: t), Bes.blk b (.int .i64 kk) [.int .i64 y]]) => C.sFirst h
  have hh : hdF (z :: t) = (z, true) := rfl
  simp only [hh] at HFI
  clear hh
  obtain ⟨m, hm⟩ : ∃ m, (z :: t).length = m := ⟨_, rfl⟩
  have HLn := Lib.hid hm
  have m0 : decide (0 < m) = true := by simp at hm ⊢; omega
  have m1 : (0 : Int) < (m : Int) := by simp at hm; omega
  have HAT := Lib.hid fun w1 (h : SideG C.obj w w1 p ⟨n, (z :: t)⟩ [Bes.rows 1 csI vv (z :: t), Bes.blk b (.int .i64 kk) [.int .i64 y]]) => C.sAt y HY.out h
  have HRA := Lib.hid fun w1 (h : SideG C.obj w w1 p ⟨n, (z :: t)⟩ [Bes.rows 1 csI vv (z :: t), Bes.blk b (.int .i64 kk) [.int .i64 y]]) => refAtF_any vv (z :: t) y w1 (RowsAt.ints (SideG.head h)) (by have := HL2.out; omega)
  have HLI := Lib.hid fun w1 (h : SideG C.obj w w1 p ⟨n, (z :: t)⟩ [Bes.rows 1 csI vv (z :: t), Bes.blk b (.int .i64 kk) [.int .i64 y]]) => C.sList h
  have HLE := Lib.hid fun w1 (h : SideG C.obj w w1 p ⟨n, (z :: t)⟩ [Bes.rows 1 csI vv (z :: t), Bes.blk b (.int .i64 kk) [.int .i64 y]]) => C.sLen h
  have HRO := Lib.hid fun w1 (h : SideG C.obj w w1 p ⟨n, (z :: t)⟩ [Bes.rows 1 csI vv (z :: t), Bes.blk b (.int .i64 kk) [.int .i64 y]]) => C.sRoom h
  simp only at HAT HRA HLI HLE HRO
  obtain ⟨pl, hpl⟩ : ∃ pl, plcL (z :: t) y = pl := ⟨_, rfl⟩
  rw [hpl] at HAT HRA
  rw [hm] at HLE
  have HIN := Lib.hid fun w1 v2 (h : SideG C.obj w w1 p ⟨n, (z :: t)⟩ [Bes.rows 1 csI vv (z :: t), Bes.blk b (.int .i64 kk) [.int .i64 y]]) (h2 : IntsAt w1 v2 (z :: t)) => refInts_any v2 vv (z :: t) (z :: t) w1 h2 (RowsAt.ints (SideG.head h)) (by have := HL2.out; omega) (by have := HL2.out; omega)
  simp only [decide_true] at HIN
  obtain ⟨a2, c2, e2⟩ := RowsAt.form (SideG.head HS2.out)
  rw [hm] at e2
  obtain ⟨g1, o1, cc1, e3, _, _, hc3⟩ := (show RowsAt _ 1 csI vv (z :: t) from SideG.head HS2.out).spot 0 (by simp)
  rw [hm, e2] at e3
  obtain ⟨rfl, hcc⟩ : a2 = some ⟨g1, o1, none⟩ ∧ c2 = cc1 := by
    simp only [Value.slice.injEq] at e3
    exact ⟨e3.1, e3.2.2⟩
  subst hcc
  have HC3 := Lib.hid hc3
  clear hc3 e3
  clear hpl hm
  subst e2
  go_upto_region 26 with (go_at_call 13; (with_reducible refine (HFI.out _ HS2.out).mono ?_); rintro e w5 ⟨rfl, hb5⟩; have HS3 := Lib.hid (HS2.out.kept hb5); have HB5 := Lib.hid hb5; clear hb5)
  have b1 : w5.cell? ⟨b, 1, none⟩ = some (.int .i64 y) := Blk.cell (vs := [.int .i64 kk, .int .i64 y]) (SideG.head (SideG.less HS3.out)) 1 rfl
  have b2 : w5.cell? ⟨g1, o1, none⟩ = some (.int .i64 z) := (HB5.out.cell (World.block_lt_of_cell? _ _ (HC3.out 0 _ rfl))).trans (HC3.out 0 _ rfl)
  clear HB5
  refine wp_region_chain 54 [.calm 36, .own (lkIL (z :: t) m), .calm 1, .own (Lk.val1 (.bool true)), .calm 15] [36, 38] rfl (by kernel_rfl) (by simp) (by kernel_rfl) (chainOf_two (by kernel_rfl)) ?_
  simp only [List.take_succ_cons, List.take_zero, List.drop_succ_cons, List.drop_zero]
  refine ⟨by simp, fun M => ?_⟩
  simp only [List.take_succ_cons, List.take_zero, List.drop_succ_cons, List.drop_zero]
  have k1 := fun n : In M.w => n.cell (M.cell b1)
  have k2 := fun n : In M.w => n.cell (M.cell b2)
  have h1 := fun n : In M.w => HAT.out n.w (HS3.out.kept (In.within (m := M) n).h)
  have h2 := fun n : In M.w => HRA.out n.w (HS3.out.kept (In.within (m := M) n).h)
  repeat (go_big_quiet_step (first
    | (go_at_call 14; with_reducible exact In.call (h1 _))
    | (go_at_call 15; with_reducible exact In.call_same (h2 _))))
  refine wpQuiet_nil ?_
  clear k1 k2 h1 h2 M
  refine ⟨rfl, lkIL_at (f := 17) (args := #[p]) HLn.out.symm (fun k => by simp [go_sem]) (fun k => HLI.out k.w (HS3.out.kept k.h)), fun x1 A hA => ?_⟩
  simp [Act.put, lkIL] at hA
  subst hA
  refine ⟨by simp, fun M => ?_⟩
  simp only [List.take_succ_cons, List.take_zero, List.drop_succ_cons, List.drop_zero]
  repeat (go_big_quiet_step (fail))
  refine wpQuiet_nil ?_
  clear M
  refine ⟨rfl, lkSure_at (f := 16) (args := #[.slice x1.1 m x1.2, .slice (some ⟨g1, o1, none⟩) m c2]) (fun k => by simp [go_sem]) (fun k hk => HIN.out k.w _ (HS3.out.kept k.h) hk), fun x2 A hA => ?_⟩
  simp [Act.put, Lk.val1] at hA
  subst hA
  refine ⟨by simp, fun M => ?_⟩
  simp only [List.take_succ_cons, List.take_zero, List.drop_succ_cons, List.drop_zero]
  have h3 := fun n : In M.w => HLE.out n.w (HS3.out.kept (In.within (m := M) n).h)
  have h4 := fun n : In M.w => HRO.out n.w (HS3.out.kept (In.within (m := M) n).h)
  repeat (go_big_quiet_step (first
    | (go_at_call 18; with_reducible exact In.call (h3 _))
    | (go_at_call 19; with_reducible exact In.call (h4 _))))
  refine wpQuiet_nil ?_
  clear h3 h4 M
  refine ⟨rfl, fun w7 hb7 _ => ?_⟩
  have HS4 := Lib.hid ((HS3.out.kept hb7).swap.less)
  clear hb7
  go_wp2
  exact HS4.out

set_option maxHeartbeats 32000000 in
set_option maxRecDepth 100000 in
theorem fifoDoes_any (C : FifoProg) (room : Int) (va : Value) (l : List A18) (w : World) (ha : RowsAt w 2 csA18 va l) (hg : ∀ a ∈ l, In18 a.x) (hr : In18 room) :
    Calls Try.prog 3 #[.int .i64 room, va] w fun e w' => e = .returned (.bool true) ∧ Below w.heap.size w w' := by
  have HAL := Lib.hid fun w => fAlive_any C w
  have HA := Lib.hid ha
  have HG := Lib.hid hg
  obtain ⟨a0, c0, rfl⟩ := RowsAt.form ha
  clear ha hg
  by_cases h100 : l.length ≤ 100
  · have g1 : ¬ (100 : Int) < (l.length : Int) := by omega
    have C0 := Lib.hid (C.sNew room w hr)
    have HCL := Lib.hid fun w => refSatClip_c room 0 1024 w
    rw [clip_is] at HCL
    generalize clipF room = n at *
    go_enter Try.func3, Try.ntmps3
    go_wp2_with (first
      | (go_at_call 6; (with_reducible refine C0.out.mono ?_); rintro e w0 ⟨p, rfl, h⟩; have S0 := Lib.hid h; clear h)
      | (go_at_call 7; (with_reducible refine (HCL.out _).mono ?_); rintro e w1 ⟨rfl, rfl⟩))
    go_loopg [7, 28] l.length (fun kx s7 kv wr => ∃ (k : Nat) (L : List Int) (v : Value), k ≤ l.length ∧ l.length - k ≤ kx ∧ s7 = v ∧ kv = .int .i64 k ∧ Hid (Does18 C w wr p v n L []) ∧ Hid (All18 L k))
    case atStart => exact ⟨0, [], _, Nat.zero_le _, Nat.le_refl _, rfl, rfl, S0.out.add (Below.refl _ _) (Bes.rows 1 csI (.slice none 0 0) []) (RowsAt.nil _ _ _) (fun k h => by have := h.1; simp at this), ⟨Nat.le_refl _, by simp⟩⟩
    case round =>
      clear S0
      obtain ⟨k, L, v, hk, hkx, rfl, rfl, HS, HL⟩ := hrel
      by_cases hlt : k < l.length
      · have HLT := Lib.hid hlt
        have K0 : (0 : Int) ≤ (k : Int) := by omega
        have K1 : (k : Int) < (l.length : Int) := by omega
        have K2 : (k : Int) ≤ 100 := by omega
        obtain ⟨g, o, _, e, _, _, hc⟩ := (RowsAt.kept HA.out (SideG.below HS.out)).spot k hlt
        cases e
        have p0 := hc 0 _ rfl
        have p1 := hc 1 _ rfl
        have hy := HG.out _ (List.getElem_mem hlt)
        obtain ⟨⟨kk, y⟩, har⟩ : ∃ r, l[k]'hlt = r := ⟨_, rfl⟩
        rw [har] at p0 p1 hy
        simp only [Nat.add_zero] at p0 p1 hy
        have HY := Lib.hid hy
        have SB0 := Lib.hid ((SideG.new HS.out (.int .i64 kk) [.int .i64 y] 29).swap)
        obtain ⟨a1, c1, e7⟩ := RowsAt.form (SideG.head HS.out)
        have HE7 := Lib.hid e7
        clear hc hy har hk
        go_upto_block 2 with fail
        go_cut [7] (fun s7 wx => ∃ (L' : List Int) (v : Value), v = s7 ∧ Hid (Does18 C w wx p v n L' [Bes.blk wr.heap.size (.int .i64 kk) [.int .i64 y]]) ∧ Hid (All18 L' (k + 1)))
        case first =>
          by_cases f1 : kk = 1
          · subst f1
            have P := Lib.hid (C.sPut y HY.out SB0.out)
            simp only at P
            obtain ⟨⟨L2, f⟩, hLf⟩ : ∃ r, putF L n y = r := ⟨_, rfl⟩
            have HN := Lib.hid (show All18 L2 (k + 1) by have := HL.out.put n y HY.out; rw [hLf] at this; exact this)
            have HR := Lib.hid fun w1 (h : SideG C.obj w w1 p ⟨n, L2⟩ [Bes.rows 1 csI u7 L, Bes.blk wr.heap.size (.int .i64 1) [.int .i64 y]]) => refPutF_any u7 L n y w1 (RowsAt.ints (SideG.head h)) (by have := HL.out.1; omega)
            rw [hLf] at P HR
            simp only at P HR
            clear hLf
            rw [HE7.out] at HR
            subst e7
            go_wp2_with (first
              | (go_at_call 8; (with_reducible refine P.out.mono ?_); rintro e w3 ⟨rfl, h⟩; have SS := Lib.hid h; have q1 : w3.cell? ⟨wr.heap.size, 1, none⟩ = some (.int .i64 y) := Blk.cell (vs := [.int .i64 1, .int .i64 y]) (SideG.head (SideG.less SS.out)) 1 rfl; clear h)
              | (go_at_call 9; (with_reducible refine (HR.out _ SS.out).mono ?_); rintro e w4 ⟨v4, rfl, i4, f4, b4⟩; have ST := Lib.hid (SS.out.turn b4 (IntsAt.rows i4) f4); clear i4 f4 b4 q1))
            go_meet
            exact ⟨L2, _, rfl, ST.out, HN.out⟩
          · have f1b : (kk == 1) = false := beq_noI f1
            by_cases f2 : kk = 2
            · subst f2
              have P := Lib.hid (C.sTake SB0.out)
              have HN := Lib.hid HL.out.tail
              clear f1 f1b
              cases L with
              | nil =>
                have hh : hdF [] = (0, false) := rfl
                simp only [hh] at P
                clear hh
                have e7b : u7 = .slice a1 0 c1 := e7
                clear e7
                subst e7b
                go_wp2_with (go_at_call 10; (with_reducible refine P.out.mono ?_); rintro e w3 ⟨rfl, h⟩; have SS := Lib.hid h; clear h)
                go_meet
                exact ⟨[], _, rfl, SS.out, HN.out⟩
              | cons z t =>
                have hh : hdF (z :: t) = (z, true) := rfl
                simp only [hh] at P
                clear hh
                obtain ⟨m, hm⟩ : ∃ m, (z :: t).length = m := ⟨_, rfl⟩
                have HMM := Lib.hid hm
                have hm1 : 1 ≤ m := by simp at hm; omega
                have m0 : (0 : Int) < (m : Int) := by omega
                rw [hm] at e7
                obtain ⟨g1, o1, cc1, e3, hcc, _, hc3⟩ := (show RowsAt wr 1 csI u7 (z :: t) from SideG.head HS.out).spot 0 (by simp)
                rw [hm] at e3 hcc
                rw [e7] at e3
                obtain ⟨rfl, rfl⟩ : a1 = some ⟨g1, o1, none⟩ ∧ c1 = cc1 := by
                  simp only [Value.slice.injEq] at e3
                  exact ⟨e3.1, e3.2.2⟩
                clear hc3 e3 hm
                obtain ⟨a4, c4, hsl, hrest, hob⟩ := from18 (some ⟨g1, o1, none⟩) m c1 hm1 hcc
                have HRE := Lib.hid hrest
                have HOB := Lib.hid hob
                have HE8 := Lib.hid e7
                clear hrest hob hcc hm1
                go_wp2_with (go_at_call 10; (with_reducible refine P.out.mono ?_); rintro e w3 ⟨rfl, h⟩; have SS := Lib.hid h; obtain ⟨g2, o2, cc2, e4, _, _, hc4⟩ := (show RowsAt w3 1 csI u7 (z :: t) from SideG.head SS.out).spot 0 (by simp); rw [HMM.out, HE8.out] at e4; obtain ⟨rfl, rfl⟩ : g1 = g2 ∧ o1 = o2 := (by simp only [Value.slice.injEq, Option.some.injEq, Addr.mk.injEq] at e4; exact ⟨e4.1.1, e4.1.2.1⟩); have q1 : w3.cell? ⟨g1, o1, none⟩ = some (.int .i64 z) := (by have := hc4 0 _ rfl; simpa using this); clear h hc4 e4)
                go_meet
                refine ⟨t, _, rfl, SideG.turn SS.out (Below.refl _ _) ?_ ?_, HN.out⟩
                · have := HRE.out _ (z :: t) HMM.out (by have := (show RowsAt _ 1 csI u7 (z :: t) from SideG.head SS.out); rw [HE8.out] at this; exact this)
                  exact this
                · intro _ k hk
                  exact .inl ⟨by rw [HE8.out]; exact HOB.out k hk, by simp⟩
            · have f2b : (kk == 2) = false := beq_noI f2
              by_cases f3 : kk = 3
              · subst f3
                have P := Lib.hid (C.sDrop y HY.out SB0.out)
                have HN := Lib.hid (HL.out.drop y)
                have HR := Lib.hid fun w1 (h : SideG C.obj w w1 p ⟨n, dropF L y⟩ [Bes.rows 1 csI u7 L, Bes.blk wr.heap.size (.int .i64 3) [.int .i64 y]]) => refDropF_any u7 L y w1 (RowsAt.ints (SideG.head h)) (by have := HL.out.1; omega)
                simp only at P
                generalize wasF L y = wf at *
                generalize dropF L y = L2 at *
                rw [HE7.out] at HR
                clear f1 f1b f2 f2b
                subst e7
                go_wp2_with (first
                  | (go_at_call 11; (with_reducible refine P.out.mono ?_); rintro e w3 ⟨rfl, h⟩; have SS := Lib.hid h; have q1 : w3.cell? ⟨wr.heap.size, 1, none⟩ = some (.int .i64 y) := Blk.cell (vs := [.int .i64 3, .int .i64 y]) (SideG.head (SideG.less SS.out)) 1 rfl; clear h)
                  | (go_at_call 12; (with_reducible refine (HR.out _ SS.out).mono ?_); rintro e w4 ⟨v4, rfl, i4, b4⟩; have ST := Lib.hid (SS.out.turn b4 (OwnR.rows csI_len i4) (OwnI.from_ i4)); clear i4 b4 q1))
                go_meet
                exact ⟨L2, _, rfl, ST.out, HN.out⟩
              · have f3b : (kk == 3) = false := beq_noI f3
                subst e7
                go_wp2
                go_meet
                exact ⟨L, _, rfl, SB0.out, HL.out.same⟩
        case rest =>
          clear e7 HE7 SB0 HS HL p0 p1
          obtain ⟨L2, vv, hvv, HS2, HL2⟩ := hcut
          subst hvv
          go_upto_region 25 with fail
          cases L2 with
          | nil =>
            refine doesTail_nil C w wc wr.heap.size p vv n kk y HY HS2 (by show _ ≤ _; simp) (by assumption) fun x16 x17 x100 x101 x102 x103 x104 x105 x106 x107 x108 x109 x110 x111 x112 x113 x114 x115 x116 x117 x118 x119 x120 x121 x122 x123 x124 x125 x126 x127 x128 x129 x130 x131 x132 x133 x134 x135 x136 x137 x138 x139 x140 x141 x142 x143 x144 x145 x146 x147 x148 x149 x150 x151 x152 x153 x154 x155 x156 x157 x158 w' hS => ?_
            have HS4 := Lib.hid hS
            clear hS
            go_wp2
            go_roundg (l.length - (k + 1))
            case measure => have := HLT.out; omega
            case rel => exact ⟨k + 1, [], _, by have := HLT.out; omega, Nat.le_refl _, rfl, by go_num, HS4.out, HL2.out⟩
          | cons z t =>
            refine doesTail_cons C w wc wr.heap.size p vv n kk y z t HY HS2 (by have := HL2.out.1; show _ ≤ _; omega) (by assumption) fun x16 x17 x100 x101 x102 x103 x104 x105 x106 x107 x108 x109 x110 x111 x112 x113 x114 x115 x116 x117 x118 x119 x120 x121 x122 x123 x124 x125 x126 x127 x128 x129 x130 x131 x132 x133 x134 x135 x136 x137 x138 x139 x140 x141 x142 x143 x144 x145 x146 x147 x148 x149 x150 x151 x152 x153 x154 x155 x156 x157 x158 w' hS => ?_
            have HS4 := Lib.hid hS
            clear hS
            go_wp2
            go_roundg (l.length - (k + 1))
            case measure => have := HLT.out; omega
            case rel => exact ⟨k + 1, z :: t, _, by have := HLT.out; omega, Nat.le_refl _, rfl, by go_num, HS4.out, HL2.out⟩
      · have g2 : ¬ (k : Int) < (l.length : Int) := by omega
        have HB := Lib.hid (SideG.below HS.out)
        clear HS HL
        go_wp2_with (go_at_call 5; (with_reducible refine (HAL.out _).mono ?_); rintro e w5 ⟨rfl, hb⟩; have HB2 := Lib.hid (HB.out.trans (hb.mono HB.out.size)); clear hb)
        go_ret
        exact ⟨rfl, HB2.out⟩
  · have g1 : (100 : Int) < (l.length : Int) := by omega
    go_enter Try.func3, Try.ntmps3
    go_wp2_with (go_at_call 5; (with_reducible refine (HAL.out _).mono ?_); rintro e w5 ⟨rfl, hb⟩)
    go_ret
    exact ⟨rfl, hb⟩
end Go.Proofs.Ytcdgclnlpfnglaa
