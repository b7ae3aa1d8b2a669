/- The law LockFair, over the program's contracts as one structure. -/
import Derived.Test.YtdoanlemoegikaaLockLawD
namespace Go.Proofs.Ytdoanlemoegikaa
open Go.RowKit

/-- what holds of a lock that 'mine' neither holds nor waits for -/
structure Fair19 (mine h : Int) (L : List Int) : Prop where
  nd : L.Nodup
  hn : h ∉ L
  pos : ∀ x ∈ L, 1 ≤ x ∧ In18 x
  h0 : 0 ≤ h
  hi : In18 h
  hm : h ≠ mine
  mn : mine ∉ L
  len : L.length ≤ 64
theorem Fair19.ask {mine h t : Int} {L : List Int} (F : Fair19 mine h L) (ht : In18 t) (hne : t ≠ mine) : Fair19 mine h (askL h L t).1 := by
  unfold askL
  split
  · exact F
  · rename_i h1
    split
    · exact F
    · rename_i h2
      split
      · exact F
      · rename_i h3
        have hnt : t ∉ L := fun h => h2 (.inr h)
        refine ⟨List.nodup_append.2 ⟨F.nd, by simp, fun a ha b hb e => hnt (by rw [List.mem_singleton.1 hb] at e; exact e ▸ ha)⟩, ?_, ?_, F.h0, F.hi, F.hm, ?_, by simp; omega⟩
        · intro hm
          rcases List.mem_append.1 hm with hm | hm
          · exact F.hn hm
          · exact h2 (.inl (List.mem_singleton.1 hm))
        · intro x hx
          rcases List.mem_append.1 hx with hx | hx
          · exact F.pos x hx
          · rw [List.mem_singleton.1 hx]; exact ⟨by omega, ht⟩
        · intro hm
          rcases List.mem_append.1 hm with hm | hm
          · exact F.mn hm
          · exact hne (List.mem_singleton.1 hm).symm
theorem Fair19.grant {mine h : Int} {L : List Int} (F : Fair19 mine h L) : Fair19 mine (grantL h L).1 (grantL h L).2.1 := by
  unfold grantL
  split
  · cases L with
    | nil => exact F
    | cons x t =>
      have hn := List.nodup_cons.1 F.nd
      have hp := F.pos x (by simp)
      exact ⟨hn.2, hn.1, fun y hy => F.pos y (by simp [hy]), by show (0 : Int) ≤ x; omega, hp.2, fun e => F.mn (by show mine ∈ x :: t; rw [show x = mine from e]; simp), fun hm => F.mn (by simp [hm]), by have := F.len; simp at this ⊢; omega⟩
  · exact F
theorem Fair19.leave {mine h : Int} {L : List Int} (F : Fair19 mine h L) (h1 : 1 ≤ mine) (t : Int) : Fair19 mine (leaveL h L t).1 (leaveL h L t).2.1 := by
  unfold leaveL
  split
  · exact ⟨F.nd, fun hm => by have := (F.pos 0 hm).1; omega, F.pos, Int.le_refl _, by simp [In18], by show (0 : Int) ≠ mine; omega, F.mn, F.len⟩
  · split
    · have hs : (dropF L t).Sublist L := List.filter_sublist
      exact ⟨F.nd.sublist hs, fun hm => F.hn (hs.subset hm), fun x hx => F.pos x (hs.subset hx), F.h0, F.hi, F.hm, fun hm => F.mn (hs.subset hm), Nat.le_trans (dropF_len L t) F.len⟩
    · exact F
theorem Fair19.mine {mine h : Int} {L : List Int} (F : Fair19 mine h L) : leaveL h L mine = (h, L, 0) := by
  unfold leaveL
  rw [if_neg (fun h => F.hm h.2), if_neg]
  rw [wasF_iff]
  simp [inL, F.mn]
theorem leave_holder {h : Int} {L : List Int} (hp : 0 < h) : leaveL h L h = (0, L, 2) := by
  unfold leaveL
  rw [if_pos ⟨hp, rfl⟩]

/-- one's own list, kept beside an object -/
def Bes.own {α : Type} (K : Nat) (cs : α → List Value) (v : Value) (l : List α) : Bes := ⟨fun w => OwnO w K cs v l, fun k => v.ownBlock = some k, fun h hz he => h.same hz he, fun h k hk => h.lt k hk⟩
/-- it has grown -/
theorem SideG.grown {σ : Type} {C : ObjK σ} {w w1 w2 : World} {p : Value} {q : σ} {α : Type} {K : Nat} {cs : α → List Value} {v v' : Value} {l l' : List α} (hK : ∀ x, (cs x).length = K) (h : SideG C w w1 p q [Bes.own K cs v l]) (hb : ∀ k, v.ownBlock = some k → w.heap.size ≤ k)
    (g : w1.grownBy w2 v.ownBlock) (h' : OwnO w2 K cs v' l') (hv : v'.ownBlock = v.ownBlock ∨ v'.ownBlock = some w1.heap.size) : SideG C w w2 p q [Bes.rows K cs v' l'] := by
  obtain ⟨F, h0, h1, h2, h3⟩ := h
  have hF := (h2 _ List.mem_cons_self).2
  refine ⟨F, C.same h0 g.size fun k hk => g.block k (C.lt h0 k hk) (fun e => hF k e.symm hk), h1, fun x hx => ?_, h3.grown g h3.size hb⟩
  have e : x = Bes.rows K cs v' l' := by simpa using hx
  subst e
  refine ⟨h'.rows hK, fun k hk hf => ?_⟩
  rcases hv with e | e
  · exact hF k (by show v.ownBlock = some k; rw [← e]; exact hk.2) hf
  · have : k = w1.heap.size := by have := hk.2; rw [e] at this; exact (Option.some.inj this).symm
    have := C.lt h0 k hf
    omega
set_option maxHeartbeats 16000000 in
set_option maxRecDepth 100000 in
theorem lockFair_any (C : LockProg) (va : Value) (l : List A19) (tok : Int) (w : World) (ha : RowsAt w 2 csA19 va l) (hg : ∀ a ∈ l, In18 a.x) (ht : 0 ≤ tok ∧ tok ≤ 255) :
    Calls Try.prog 4 #[va, .int .u8 tok] w fun e w' => e = .returned (.bool true) ∧ Below w.heap.size w w' := by
  have HAL := Lib.hid fun w => lAlive_any C w
  have HA := Lib.hid ha
  have HG := Lib.hid hg
  obtain ⟨a0, c0, rfl⟩ := RowsAt.form ha
  clear ha hg
  by_cases h100 : l.length ≤ 200
  · have g1 : ¬ (200 : Int) < (l.length : Int) := by omega
    have C0 := Lib.hid (C.sNew 1 w (by simp [In18]))
    have hq1 : IntKind.i64.wrap tok = tok := by rw [IntKind.wrap_i64]; omega
    obtain ⟨mine, hmine⟩ : ∃ mine, 1 + tok = mine := ⟨_, rfl⟩
    have hq2 : IntKind.i64.wrap mine = mine := by rw [IntKind.wrap_i64]; omega
    have HM := Lib.hid (show 1 ≤ mine ∧ mine ≤ 256 by omega)
    have HMI := Lib.hid (show In18 mine by unfold In18; omega)
    clear ht
    go_enter Try.func4, Try.ntmps4
    go_wp2_with (go_at_call 6; (with_reducible refine C0.out.mono ?_); rintro e w1 ⟨p, rfl, hs⟩; have S0 := Lib.hid hs; clear hs)
    clear hmine hq1 hq2
    go_loopg [32] l.length (fun kx kv wr => ∃ (k : Nat) (h : Int) (L : List Int), k ≤ l.length ∧ l.length - k ≤ kx ∧ kv = .int .i64 k ∧ Hid (SideG C.obj w wr p ⟨1, h, L⟩ []) ∧ Hid (Fair19 mine h L))
    case atStart => exact ⟨0, 0, [], Nat.zero_le _, Nat.le_refl _, rfl, S0.out, ⟨by simp, by simp, by simp, Int.le_refl _, by simp [In18], by have := HM.out; omega, by simp, by simp⟩⟩
    case round =>
      clear S0
      obtain ⟨k, h, L, hk, hkx, rfl, HS, HF⟩ := hrel
      by_cases hlt : k < l.length
      · have HLT := Lib.hid hlt
        have K0 : (0 : Int) ≤ (k : Int) := by omega
        have K1 : (k : Int) < (l.length : Int) := by omega
        have K2 : (k : Int) ≤ 200 := by omega
        obtain ⟨g, o, _, e, _, _, hc⟩ := (RowsAt.kept HA.out (SideG.below HS.out)).spot k hlt
        cases e
        have p0 := hc 0 _ rfl
        have p1 := hc 1 _ rfl
        have hy := HG.out _ (List.getElem_mem hlt)
        obtain ⟨⟨kk, y⟩, har⟩ : ∃ r, l[k]'hlt = r := ⟨_, rfl⟩
        rw [har] at p0 p1 hy
        simp only [Nat.add_zero] at p0 p1 hy
        have HY := Lib.hid hy
        have SB := Lib.hid (SideG.new HS.out (.int .i64 kk) [.int .i64 y] 30)
        clear hc hy har hk
        by_cases f2 : kk = 2
        · subst f2
          have P := Lib.hid (C.sGrant SB.out)
          have HN := Lib.hid HF.out.grant
          simp only at P
          generalize grantL h L = r at *
          go_wp2_with (go_at_call 9; (with_reducible refine P.out.mono ?_); rintro e w3 ⟨rfl, hs⟩; have SS := Lib.hid hs.less; clear hs)
          go_roundg (l.length - (k + 1))
          case measure => have := HLT.out; omega
          case rel => exact ⟨k + 1, r.1, r.2.1, by have := HLT.out; omega, Nat.le_refl _, by go_num, SS.out, HN.out⟩
        · have f2b : (kk == 2) = false := beq_noI f2
          by_cases f1 : kk = 1 ∧ y ≠ mine
          · obtain ⟨rfl, hne⟩ := f1
            have hneb : (y != mine) = true := by simp [hne]
            have P := Lib.hid (C.sAsk y HY.out SB.out)
            have HN := Lib.hid (HF.out.ask HY.out hne)
            simp only at P
            generalize askL h L y = r at *
            clear hne f2
            go_wp2_with (go_at_call 7; (with_reducible refine P.out.mono ?_); rintro e w3 ⟨rfl, hs⟩; have SS := Lib.hid hs.less; clear hs)
            go_roundg (l.length - (k + 1))
            case measure => have := HLT.out; omega
            case rel => exact ⟨k + 1, h, r.1, by have := HLT.out; omega, Nat.le_refl _, by go_num, SS.out, HN.out⟩
          · have P := Lib.hid (C.sLeave y HY.out SB.out)
            have HN := Lib.hid (HF.out.leave HM.out.1 y)
            simp only at P
            generalize leaveL h L y = r at *
            have fb : (kk == 1) = false ∨ ((kk == 1) = true ∧ (y != mine) = false) := by
              by_cases e : kk = 1
              · by_cases e2 : y = mine
                · exact .inr ⟨by simp [e], by simp [e2]⟩
                · exact absurd ⟨e, e2⟩ f1
              · exact .inl (beq_noI e)
            clear f1 f2
            rcases fb with fb | ⟨fb, fb2⟩
            all_goals
              go_wp2_with (go_at_call 11; (with_reducible refine P.out.mono ?_); rintro e w3 ⟨rfl, hs⟩; have SS := Lib.hid hs.less; clear hs)
              go_roundg (l.length - (k + 1))
              case measure => have := HLT.out; omega
              case rel => exact ⟨k + 1, r.1, r.2.1, by have := HLT.out; omega, Nat.le_refl _, by go_num, SS.out, HN.out⟩
      · have g2 : ¬ (k : Int) < (l.length : Int) := by omega
        have P := Lib.hid (C.sLeave mine HMI.out HS.out)
        simp only [HF.out.mine] at P
        have hf2 : ∀ (i h : Int) (v : Value) (w : World), (Instr.field 28 (lkv i h v) 2).run Try.prog w = .ok v w := fun i h v w => by kernel_rfl
        obtain ⟨i0, hi, hz0, hz1, hz2⟩ := info_parts info_int
        have V1 := Lib.hid fun w1 (hs : SideG C.obj w w1 p ⟨1, h, L⟩ []) => C.sView hs
        have A1 := Lib.hid fun w1 bs (hs : SideG C.obj w w1 p ⟨1, h, L⟩ bs) => C.sAsk mine HMI.out hs
        simp only at V1 A1
        obtain ⟨m, hm⟩ : ∃ m, L.length = m := ⟨_, rfl⟩
        have HML := Lib.hid hm
        clear hm hlt hk hkx
        go_upto_region 17 with (first
          | (go_at_call 11; (with_reducible refine P.out.mono ?_); rintro e w3 ⟨rfl, hs⟩; have SS := Lib.hid hs; clear hs)
          | (go_at_call 15; (with_reducible refine (V1.out _ SS.out).mono ?_); rintro e w4 ⟨v4, rfl, i4, b4⟩; have S4 := Lib.hid (SS.out.kept b4); have HV4 := Lib.hid (IntsAt.rows i4); have HN4 := Lib.hid (OwnR.nil w4 w4.heap.size 3 1 csI); clear i4 b4)
          | (at_builtin; refine wpList_append_rows csI_len (by decide) csI_one13 rfl _ _ 26 rfl w4.heap.size 3 i0 (.int .i64 0) 8 Try.underlying26 hi hz0 hz1 hz2 rfl _ _ rfl HN4.out _ L rfl HV4.out (by have := HF.out.len; unfold maxLen; simp; omega) (by have := HF.out.len; simp; omega) (Nat.le_refl _) ?_; intro v5 w5 o5 g5; have HO5 := Lib.hid o5; have HB5 := Lib.hid (OwnR.below HN4.out (Below.refl w4.heap.size w4) (Nat.le_refl _) g5); obtain ⟨a5, c5, e5⟩ := RowsAt.form (OwnR.rows csI_len o5); rw [show ([] ++ L : List Int).length = m from HML.out] at e5; subst e5; clear o5 g5))
        have H4B := Lib.hid (show w.heap.size ≤ w4.heap.size from (SideG.below S4.out).size)
        by_cases h64 : 64 ≤ L.length
        · have e1 : askL h L mine = (L, 9) := by
            unfold askL
            rw [if_neg (by have := HM.out.1; omega), if_neg (fun h => by rcases h with h | h; exact HF.out.hm h; exact HF.out.mn h), if_pos h64]
          rw [e1] at A1
          have S5 := Lib.hid (S4.out.kept HB5.out)
          have hmb : ((m : Int) == 64) = true := by have := HF.out.len; have := HML.out; simp; omega
          have hmb2 : (m == 64) = true := by have := HF.out.len; have := HML.out; simp; omega
          clear e1 h64
          go_wp2_with (first
            | (go_at_call 7; (with_reducible refine (A1.out _ _ S5.out).mono ?_); rintro e w6 ⟨rfl, hs⟩; have HB6 := Lib.hid (SideG.below hs); clear hs)
            | (go_at_call 5; (with_reducible refine (HAL.out _).mono ?_); rintro e w7 ⟨rfl, hb⟩; have HB7 := Lib.hid (HB6.out.trans (hb.mono HB6.out.size)); clear hb))
          go_ret
          exact ⟨rfl, HB7.out⟩
        · have e1 : askL h L mine = (L ++ [mine], 0) := by
            unfold askL
            rw [if_neg (by have := HM.out.1; omega), if_neg (fun h => by rcases h with h | h; exact HF.out.hm h; exact HF.out.mn h), if_neg h64]
          rw [e1] at A1
          simp only at A1
          have HF2 := Lib.hid (show (L ++ [mine]).Nodup ∧ (∀ x ∈ L ++ [mine], 1 ≤ x ∧ In18 x) ∧ (L ++ [mine]).length ≤ 65 ∧ h ∉ L ++ [mine] from ⟨List.nodup_append.2 ⟨HF.out.nd, by simp, fun a ha b hb e => HF.out.mn (by rw [List.mem_singleton.1 hb] at e; exact e ▸ ha)⟩, fun x hx => by
              rcases List.mem_append.1 hx with hx | hx
              · exact HF.out.pos x hx
              · rw [List.mem_singleton.1 hx]; exact ⟨HM.out.1, HMI.out⟩, by have := HF.out.len; simp; omega, fun hm => by
              rcases List.mem_append.1 hm with hm | hm
              · exact HF.out.hn hm
              · exact HF.out.hm (List.mem_singleton.1 hm)⟩)
          have HH := Lib.hid (show 0 ≤ h ∧ In18 h from ⟨HF.out.h0, HF.out.hi⟩)
          have S5 := Lib.hid (S4.out.add HB5.out (Bes.own 1 csI (.slice a5 m c5) L) (OwnR.own HO5.out) (fun k hk => (World.ownsRow.lt HO5.out k hk).1))
          have HBK := Lib.hid (show ∀ k, (Value.slice a5 m c5).ownBlock = some k → w.heap.size ≤ k from fun k hk => Nat.le_trans H4B.out (World.ownsRow.lt HO5.out k hk).1)
          obtain ⟨m6, hm6⟩ : ∃ m6, (L ++ [mine]).length = m6 := ⟨_, rfl⟩
          have HM6 := Lib.hid hm6
          have HLL := Lib.hid (show L.length ≤ 64 from HF.out.len)
          clear e1 h64 hm6 HO5 HN4 HV4
          go_wp2_with (first
            | (go_at_call 7; (with_reducible refine (A1.out _ _ S5.out).mono ?_); rintro e w6 ⟨rfl, hs⟩; have S6 := Lib.hid hs; have S7 := Lib.hid (hs.kept ((Below.refl w6.heap.size w6).alloc (Nat.le_refl _) (.cells #[.int .i64 mine] 3))); clear hs)
            | (at_builtin; refine wpList_append_o rfl _ _ _ _ rfl csI_len (by decide) csI_one13 3 3 i0 (.int .i64 0) Try.underlying26 Try.underlying26 hi hz0 hz1 rfl rfl (show OwnO _ 1 csI _ L from SideG.head S7.out) _ [mine] rfl (oneI13 w6 mine) (by have := HLL.out; unfold maxLen; simp; omega) (by have := HLL.out; rw [hz2]; simp; omega) ?_; intro v8 w8 o8 g8 b8; have S8 := Lib.hid (SideG.grown csI_len S7.out HBK.out g8 o8 b8); obtain ⟨a8, c8, e8⟩ := o8.form; rw [HM6.out] at e8; subst e8; clear o8 g8 b8))
          clear S4 S5 S6 S7 A1 HF HBK V1 P SS HB5 HS
          generalize L ++ [mine] = M at *
          go_loopg [82] m6 (fun kx kv wr => ∃ (i : Nat) (h' : Int), i ≤ m6 ∧ m6 - i ≤ kx ∧ kv = .int .i64 i ∧ Hid (SideG C.obj w wr p ⟨1, h', M.drop i⟩ [Bes.rows 1 csI (.slice a8 m6 c8) M]) ∧ Hid (h' ∉ M.drop i ∧ 0 ≤ h' ∧ In18 h'))
          case atStart => exact ⟨0, h, Nat.zero_le _, Nat.le_refl _, rfl, S8.out, ⟨HF2.out.2.2.2, HH.out.1, HH.out.2⟩⟩
          case round =>
            clear S8 HH
            obtain ⟨i, h', him, hkx, rfl, HS, HH⟩ := hrel
            by_cases hlt : i < m6
            · have hiM : i < M.length := by rw [HM6.out]; exact hlt
              obtain ⟨x, hx⟩ : ∃ x, M[i]'hiM = x := ⟨_, rfl⟩
              have hd : M.drop i = x :: M.drop (i + 1) := by rw [List.drop_eq_getElem_cons hiM, hx]
              have HT1 := Lib.hid (show x ∉ M.drop (i + 1) ∧ 0 ≤ x ∧ In18 x from by
                have hp := HF2.out.2.1 x (hx ▸ List.getElem_mem hiM)
                have hn : (x :: M.drop (i + 1)).Nodup := by rw [← hd]; exact HF2.out.1.sublist (List.drop_sublist i M)
                exact ⟨(List.nodup_cons.1 hn).1, by omega, hp.2⟩)
              rw [hd] at HS HH
              obtain ⟨g8, o8, cc8, e8, _, _, hc8⟩ := (show RowsAt wr 1 csI (.slice a8 m6 c8) M from SideG.head HS.out).spot i hiM
              rw [HM6.out] at e8
              cases e8
              have q8 := hc8 0 _ rfl
              rw [hx] at q8
              simp only [Nat.mul_one, Nat.add_zero] at q8
              obtain ⟨T, hT⟩ : ∃ T, M.drop (i + 1) = T := ⟨_, rfl⟩
              rw [hT] at hd HS HH HT1
              have HTT := Lib.hid hT
              clear hT
              have HLT := Lib.hid hlt
              have I0 : (0 : Int) ≤ (i : Int) := by omega
              have I1 : (i : Int) < (m6 : Int) := by omega
              have I2 : (i : Int) ≤ 65 := by have := HF2.out.2.2.1; have := HM6.out; omega
              have V := Lib.hid (C.sView HS.out)
              simp only at V
              obtain ⟨n2, hn2⟩ : ∃ n2, (x :: T).length = n2 := ⟨_, rfl⟩
              have HN2 := Lib.hid hn2
              have HN65 := Lib.hid (show n2 ≤ 65 from by
                have h1 := congrArg List.length hd
                rw [List.length_drop, hn2] at h1
                have := HF2.out.2.2.1
                omega)
              clear hc8 hx hd hiM hn2 him hlt
              go_upto_region 23 with (go_at_call 15; (with_reducible refine V.out.mono ?_); rintro e w9 ⟨v9, rfl, i9, b9⟩; have S9 := Lib.hid (HS.out.kept b9); obtain ⟨a9, c9, e9⟩ := i9.form; rw [HN2.out] at e9; subst e9; have HV9 := Lib.hid i9; clear i9 b9)
              have S10 := Lib.hid (SideG.new S9.out (.int .i64 1) [.int .i64 h', .slice a9 n2 c9] 28)
              have HV10 := Lib.hid (HV9.out.below ((Below.refl w9.heap.size w9).alloc (Nat.le_refl _) (.cells #[.int .i64 1, .int .i64 h', .slice a9 n2 c9] 28)))
              have y0 := Blk.cell (vs := [.int .i64 1, .int .i64 h', .slice a9 n2 c9]) (SideG.head S10.out) 1 rfl
              have y1 := Blk.cell (vs := [.int .i64 1, .int .i64 h', .slice a9 n2 c9]) (SideG.head S10.out) 2 rfl
              obtain ⟨b9, hb9⟩ : ∃ b9, w9.heap.size = b9 := ⟨_, rfl⟩
              obtain ⟨w10, hw10⟩ : ∃ w10, w9.alloc (.cells #[.int .i64 1, .int .i64 h', .slice a9 n2 c9] 28) = w10 := ⟨_, rfl⟩
              rw [hw10] at y0 y1
              rw [hb9] at y0 y1
              have S11 := Lib.hid (show SideG C.obj w w10 p ⟨1, h', x :: T⟩ [Bes.blk b9 (.int .i64 1) [.int .i64 h', .slice a9 n2 c9], Bes.rows 1 csI (.slice (some ⟨g8, o8, none⟩) m6 c8) M] from by rw [← hw10, ← hb9]; exact S10.out)
              have HV11 := Lib.hid (show IntsAt w10 (.slice a9 n2 c9) (x :: T) from by rw [← hw10]; exact HV10.out)
              rw [hb9]
              try rw [hw10]
              clear hb9 hw10 S10 HV10 S9 HV9 V
              go_wp2
              go_loopg [91] n2 (fun kx jv wr2 => ∃ j : Nat, j ≤ n2 ∧ n2 - j ≤ kx ∧ jv = .int .i64 j ∧ wr2 = w10)
              case atStart => exact ⟨0, Nat.zero_le _, Nat.le_refl _, rfl, rfl⟩
              case round =>
                obtain ⟨j, hj, hkx2, rfl, rfl⟩ := hrel
                by_cases hjl : j < n2
                · have hjT : j < (x :: T).length := by rw [HN2.out]; exact hjl
                  obtain ⟨g9, o9, cc9, e9, _, _, hc9⟩ := (IntsAt.rows HV11.out).spot j hjT
                  rw [HN2.out] at e9
                  cases e9
                  have q9 := hc9 0 _ rfl
                  simp only [Nat.mul_one, Nat.add_zero] at q9
                  obtain ⟨y, hy⟩ : ∃ y, (x :: T)[j]'hjT = y := ⟨_, rfl⟩
                  rw [hy] at q9
                  have hyb : (y == h') = false := beq_noI (fun e => HH.out.1 (by rw [← e, ← hy]; exact List.getElem_mem hjT))
                  have J0 : (0 : Int) ≤ (j : Int) := by omega
                  have J1 : (j : Int) < (n2 : Int) := by omega
                  have J2 : (j : Int) ≤ 65 := by have := HN65.out; omega
                  clear hc9 hy hjT
                  go_wp2
                  go_roundg (n2 - (j + 1))
                  case measure => omega
                  case rel => exact ⟨j + 1, by omega, Nat.le_refl _, by go_num, rfl⟩
                · have J1 : ¬ (j : Int) < (n2 : Int) := by omega
                  have G0 := Lib.hid fun w1 bs (hs : SideG C.obj w w1 p ⟨1, 0, x :: T⟩ bs) => C.sGrant hs
                  have eg : grantL 0 (x :: T) = (x, T, x, true) := by simp [grantL]
                  simp only [eg] at G0
                  clear eg
                  by_cases hp : 0 < h'
                  · have hpb : decide (0 < h') = true := by simpa using hp
                    have P := Lib.hid (C.sLeave h' HH.out.2.2 S11.out)
                    simp only [leave_holder hp] at P
                    go_wp2_with (first
                      | (go_at_call 11; (with_reducible refine P.out.mono ?_); rintro e w12 ⟨rfl, hs⟩; have S12 := Lib.hid hs; clear hs)
                      | (go_at_call 9; (with_reducible refine (G0.out _ _ S12.out).mono ?_); rintro e w13 ⟨rfl, hs⟩; have S13 := Lib.hid hs.less; clear hs))
                    go_roundg (m6 - (i + 1))
                    case measure => have := HLT.out; omega
                    case rel => exact ⟨i + 1, x, by have := HLT.out; omega, Nat.le_refl _, by go_num, by rw [HTT.out]; exact S13.out, by rw [HTT.out]; exact HT1.out⟩
                  · have h0 : h' = 0 := by have := HH.out.2.1; omega
                    subst h0
                    go_wp2_with (go_at_call 9; (with_reducible refine (G0.out _ _ S11.out).mono ?_); rintro e w13 ⟨rfl, hs⟩; have S13 := Lib.hid hs.less; clear hs)
                    go_roundg (m6 - (i + 1))
                    case measure => have := HLT.out; omega
                    case rel => exact ⟨i + 1, x, by have := HLT.out; omega, Nat.le_refl _, by go_num, by rw [HTT.out]; exact S13.out, by rw [HTT.out]; exact HT1.out⟩
            · have hie : i = m6 := by omega
              subst hie
              have hd : M.drop i = [] := List.drop_eq_nil_of_le (by rw [HM6.out]; exact Nat.le_refl _)
              rw [hd] at HS
              have V := Lib.hid fun w1 bs (hs : SideG C.obj w w1 p ⟨1, h', []⟩ bs) => C.sView hs
              simp only at V
              have K1 : ¬ (i : Int) < (i : Int) := by omega
              have hf1 : ∀ (a h : Int) (v : Value) (w : World), (Instr.field 28 (lkv a h v) 1).run Try.prog w = .ok (.int .i64 h) w := fun a h v w => by kernel_rfl
              clear hd HF2 HM6 hkx him hlt
              go_wp2_with (first
                | (go_at_call 9; (with_reducible refine (C.grant_nil _).mono ?_); rintro e w12 ⟨rfl, hb⟩; have S12 := Lib.hid (HS.out.kept hb); clear hb)
                | (go_at_call 13; (with_reducible refine (C.head_nil _).mono ?_); rintro e w13 ⟨rfl, hb⟩; have S13 := Lib.hid (S12.out.kept hb); clear hb)
                | (go_at_call 15; (with_reducible refine (V.out _ _ S13.out).mono ?_); rintro e w14 ⟨v14, rfl, i14, hb⟩; have S14 := Lib.hid (S13.out.kept hb); obtain ⟨a14, c14, e14⟩ := i14.form; have e15 : v14 = .slice a14 0 c14 := e14; clear e14; subst e15; clear i14 hb)
                | (go_at_call 7; (with_reducible refine (C.ask_nil _ _).mono ?_); rintro e w15 ⟨rfl, hb⟩; have S15 := Lib.hid (S14.out.kept hb); clear hb)
                | (go_at_call 11; (with_reducible refine (C.leave_nil _ _).mono ?_); rintro e w16 ⟨rfl, hb⟩; have S16 := Lib.hid (S15.out.kept hb); clear hb)
                | (go_at_call 15; (with_reducible refine (C.view_nil _).mono ?_); rintro e w17 ⟨v17, rfl, hb⟩; have S17 := Lib.hid (S16.out.kept hb); clear hb)
                | (go_at_call 5; (with_reducible refine (HAL.out _).mono ?_); rintro e w18 ⟨rfl, hb⟩; have HB18 := Lib.hid ((SideG.below S17.out).trans (hb.mono (SideG.below S17.out).size)); clear hb))
              go_ret
              exact ⟨rfl, HB18.out⟩
  · have g1 : (200 : Int) < (l.length : Int) := by omega
    go_enter Try.func4, Try.ntmps4
    go_wp2_with (go_at_call 5; (with_reducible refine (HAL.out _).mono ?_); rintro e w5 ⟨rfl, hb⟩)
    go_ret
    exact ⟨rfl, hb⟩
end Go.Proofs.Ytdoanlemoegikaa
