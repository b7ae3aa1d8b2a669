/- The law FifoFair, over the program's contracts as one structure. -/
import Derived.Test.YtcdgclnlpfnglaaFifoLaw
import Derived.Deep.DeepCutAuto
namespace Go.Proofs.Ytcdgclnlpfnglaa
open Go.RowKit

theorem plc_cons (z : Int) (t : List Int) (x : Int) : plcL (z :: t) x = if z = x then 0 else if x ∈ t then plcL t x + 1 else -1 := by
  unfold plcL
  by_cases h : z = x
  · rw [if_pos h, if_pos (by rw [h]; exact List.mem_cons_self), h, List.idxOf_cons_self]
    rfl
  · rw [if_neg h]
    by_cases h2 : x ∈ t
    · rw [if_pos h2, if_pos (List.mem_cons_of_mem _ h2), if_pos h2, List.idxOf_cons, show (z == x) = false from beq_noI h]
      simp
    · rw [if_neg h2, if_neg (fun h3 => by rcases List.mem_cons.1 h3 with e | e; exact h e.symm; exact h2 e)]
/-- nobody falls back; who comes is the last one -/
def FairI (L L' : List Int) (x : Int) : Prop := (0 ≤ plcL L x → plcL L' x ≤ plcL L x) ∧ (plcL L x < 0 → 0 ≤ plcL L' x → plcL L' x = (L'.length : Int) - 1)
theorem fair_same (L : List Int) (x : Int) : FairI L L x := ⟨fun _ => Int.le_refl _, fun h1 h2 => by omega⟩
theorem plc_append {L : List Int} {x : Int} (h : x ∈ L) (y : Int) : plcL (L ++ [y]) x = plcL L x := by
  unfold plcL
  rw [if_pos h, if_pos (List.mem_append_left _ h), List.idxOf_append, if_pos h]
theorem plc_last {L : List Int} {x : Int} (h : x ∉ L) : plcL (L ++ [x]) x = (L.length : Int) := by
  unfold plcL
  rw [if_pos (by simp), List.idxOf_append, if_neg h, List.idxOf_cons_self]
  simp
theorem fair_put (L : List Int) (room y x : Int) : FairI L (putF L room y).1 x := by
  unfold putF
  split
  · exact fair_same L x
  · split
    · exact fair_same L x
    · by_cases h : x ∈ L
      · refine ⟨fun _ => by rw [plc_append h]; exact Int.le_refl _, fun h1 => ?_⟩
        have := plc_ge.2 h
        omega
      · refine ⟨fun h1 => absurd (plc_ge.1 h1) h, fun _ h2 => ?_⟩
        have hm := plc_ge.1 h2
        have hx : x = y := by
          rcases List.mem_append.1 hm with h3 | h3
          · exact absurd h3 h
          · exact List.mem_singleton.1 h3
        subst hx
        show plcL (L ++ [x]) x = ((L ++ [x]).length : Int) - 1
        rw [plc_last h, List.length_append]
        simp
theorem put_nodup {L : List Int} (h : L.Nodup) (room y : Int) : (putF L room y).1.Nodup := by
  unfold putF
  split
  · exact h
  · rename_i hn
    split
    · exact h
    · exact List.nodup_append.2 ⟨h, by simp, fun a ha b hb e => hn (by rw [List.mem_singleton.1 hb] at e; exact e ▸ ha)⟩
theorem fair_take {L : List Int} (h : L.Nodup) (x : Int) : FairI L (L.drop 1) x := by
  cases L with
  | nil => exact fair_same [] x
  | cons z t =>
    have hz := List.nodup_cons.1 h
    show FairI (z :: t) t x
    unfold FairI
    rw [plc_cons]
    by_cases e : z = x
    · subst e
      rw [if_pos rfl, plc_none hz.1]
      exact ⟨fun _ => by omega, fun h => by omega⟩
    · rw [if_neg e]
      by_cases h2 : x ∈ t
      · rw [if_pos h2]
        have := plc_ge.2 h2
        exact ⟨fun _ => by omega, fun h => by omega⟩
      · rw [if_neg h2, plc_none h2]
        exact ⟨fun h => by omega, fun _ h => by omega⟩
theorem take_head (z : Int) (t : List Int) (x : Int) : (z == x) = (plcL (z :: t) x == 0) := by
  rw [plc_cons]
  by_cases e : z = x
  · rw [if_pos e, e]; simp
  · rw [if_neg e]
    rw [beq_noI e]
    refine (beq_noI ?_).symm
    by_cases h2 : x ∈ t
    · rw [if_pos h2]
      have := plc_ge.2 h2
      omega
    · rw [if_neg h2]
      omega
theorem fair_drop (x y : Int) : ∀ L : List Int, FairI L (dropF L y) x := fun L => by
  by_cases h : x ∈ L
  · refine ⟨fun _ => ?_, fun h1 => by have := plc_ge.2 h; omega⟩
    induction L with
    | nil => cases h
    | cons z t ih =>
      have e1 : dropF (z :: t) y = if z = y then dropF t y else z :: dropF t y := by
        unfold dropF
        by_cases e : z = y <;> simp [e]
      rw [e1, plc_cons z t x]
      by_cases ez : z = y
      · rw [if_pos ez]
        by_cases ex : z = x
        · rw [if_pos ex]
          have : x ∉ dropF t y := fun hm => ((dropF_mem _ _ _).1 hm).2 (by rw [← ex, ez])
          rw [plc_none this]
          omega
        · have hxt : x ∈ t := by
            rcases List.mem_cons.1 h with e | e
            · exact absurd e.symm ex
            · exact e
          rw [if_neg ex, if_pos hxt]
          have := ih hxt (plc_ge.2 hxt)
          omega
      · rw [if_neg ez, plc_cons]
        by_cases ex : z = x
        · rw [if_pos ex, if_pos ex]
          exact Int.le_refl _
        · have hxt : x ∈ t := by
            rcases List.mem_cons.1 h with e | e
            · exact absurd e.symm ex
            · exact e
          rw [if_neg ex, if_neg ex, if_pos hxt]
          have := ih hxt (plc_ge.2 hxt)
          have h3 := plc_ge.2 hxt
          split <;> omega
  · have hn : x ∉ dropF L y := fun hm => h ((dropF_mem _ _ _).1 hm).1
    rw [FairI, plc_none h, plc_none hn]
    exact ⟨fun h => by omega, fun _ h => by omega⟩

/-- an act: its kind, its number -/
structure A18 where
  k : Int
  x : Int
deriving Inhabited
def csA18 (a : A18) : List Value := [.int .i64 a.k, .int .i64 a.x]
theorem csA18_len (a : A18) : (csA18 a).length = 2 := rfl

set_option maxHeartbeats 32000000 in
set_option maxRecDepth 100000 in
theorem fifoFair_any (C : FifoProg) (va : Value) (l : List A18) (x : Int) (w : World) (ha : RowsAt w 2 csA18 va l) (hg : ∀ a ∈ l, In18 a.x) (hx : In18 x) :
    Calls Try.prog 4 #[va, .int .i64 x] w fun e w' => e = .returned (.bool true) ∧ Below w.heap.size w w' := by
  have HAL := Lib.hid fun w => fAlive_any C w
  have HA := Lib.hid ha
  have HG := Lib.hid hg
  obtain ⟨a0, c0, rfl⟩ := RowsAt.form ha
  clear ha hg
  by_cases h100 : l.length ≤ 100
  · have g1 : ¬ (100 : Int) < (l.length : Int) := by omega
    have C0 := Lib.hid (C.sNew 1000 w (by simp [In18]))
    rw [show clipF 1000 = 1000 from rfl] at C0
    have P0 := Lib.hid fun w1 p (h : SideG C.obj w w1 p ⟨1000, []⟩ []) => C.sPut x hx h
    have e0 : putF [] 1000 x = ([x], 0) := by simp [putF]
    simp only [e0] at P0
    have e1 : plcL [x] x = 0 := by rw [plc_cons]; simp
    have A0 := Lib.hid fun w1 p (h : SideG C.obj w w1 p ⟨1000, [x]⟩ []) => C.sAt x hx h
    simp only [e1] at A0
    have E1 := Lib.hid e1
    clear e0 e1
    go_enter Try.func4, Try.ntmps4
    go_wp2_with (first
      | (go_at_call 6; (with_reducible refine C0.out.mono ?_); rintro e w0 ⟨p, rfl, h⟩; have S0 := Lib.hid h; clear h)
      | (go_at_call 8; (with_reducible refine (P0.out _ _ S0.out).mono ?_); rintro e w1 ⟨rfl, h⟩; have S1 := Lib.hid h; clear h)
      | (go_at_call 14; (with_reducible refine (A0.out _ _ S1.out).mono ?_); rintro e w2 ⟨rfl, hb⟩; have S2 := Lib.hid (S1.out.kept hb); clear hb))
    go_loopw [6, 30] (fun av kv wr => ∃ (k : Nat) (L : List Int), k ≤ l.length ∧ kv = .int .i64 k ∧ av = .int .i64 (plcL L x) ∧ SideG C.obj w wr p ⟨1000, L⟩ [] ∧ L.Nodup ∧ L.length ≤ k + 1) (fun _ kv _ => l.length - (intOf kv).toNat)
    case atStart => exact ⟨0, [x], Nat.zero_le _, rfl, by rw [E1.out], S2.out, by simp, by simp⟩
    case round =>
      obtain ⟨k, L, hk, rfl, rfl, hS, hnd, hle⟩ := hrel
      have HS := Lib.hid hS
      have HNDL := Lib.hid hnd
      have HLL := Lib.hid hle
      by_cases hlt : k < l.length
      · have HLT := Lib.hid hlt
        have K0 : (0 : Int) ≤ (k : Int) := by omega
        have K1 : (k : Int) < (l.length : Int) := by omega
        have K2 : (k : Int) ≤ 100 := by omega
        obtain ⟨g, o, _, e, _, _, hc⟩ := (RowsAt.kept HA.out (hS.below)).spot k hlt
        cases e
        have p0 := hc 0 _ rfl
        have p1 := hc 1 _ rfl
        have hy := HG.out _ (List.getElem_mem hlt)
        obtain ⟨⟨kk, y⟩, har⟩ : ∃ r, l[k]'hlt = r := ⟨_, rfl⟩
        rw [har] at p0 p1 hy
        simp only [Nat.add_zero] at p0 p1 hy
        have HY := Lib.hid hy
        have hbx := hS.new (.int .i64 kk) [.int .i64 y] 29
        have SB := Lib.hid hbx
        obtain ⟨a, ha⟩ : ∃ a, plcL L x = a := ⟨_, rfl⟩
        rw [ha]
        clear hc hy har hS hnd hle hbx
        by_cases e1 : kk = 1
        · subst e1
          have P := Lib.hid (C.sPut y HY.out SB.out)
          have HFI := Lib.hid (fair_put L 1000 y x)
          have HND := Lib.hid (put_nodup HNDL.out 1000 y)
          have HNL := Lib.hid (show (putF L 1000 y).1.length ≤ k + 2 by have := putF_len L 1000 y; have := HLL.out; omega)
          simp only at P
          go_upto_region 18 with (go_at_call 8; (with_reducible refine P.out.mono ?_); rintro e w3 ⟨rfl, h⟩; have SS := Lib.hid h; clear h p0 p1)
          clear P SB HS
          have hF := HFI.out
          have ND := HND.out
          have NL := HNL.out
          generalize hLL : ((putF L 1000 y).1) = L' at *
          obtain ⟨n, hn⟩ : ∃ n, plcL L' x = n := ⟨_, rfl⟩
          have HN := Lib.hid hn
          have G := Lib.hid fun w1 (h : SideG C.obj w w1 p ⟨1000, L'⟩ [Bes.blk wr.heap.size (.int .i64 1) [.int .i64 y]]) => C.sAt x hx h
          rw [hn] at G
          have hf1 := hF.1
          have hf2 := hF.2
          rw [hn, ha] at hf1 hf2
          have HNDN := Lib.hid ND
          have HNLN := Lib.hid NL
          clear hF ND NL hLL hn HFI HND HNL
          by_cases h1 : 0 ≤ a
          · have C1 := Lib.hid (show decide (0 ≤ a) = true by simp; omega)
            have C2 := Lib.hid (show decide (a < n) = false by have := hf1 h1; simp; omega)
            have C3 := Lib.hid (show decide (a < 0) = false by simp; omega)
            clear hf1 hf2 h1
            have c1 := C1.out
            have c2 := C2.out
            have c3 := C3.out
            go_wp2_with ((go_at_call 14; (with_reducible refine (G.out _ SS.out).mono ?_); rintro e w3 ⟨rfl, hb⟩; have S3 := Lib.hid ((SS.out.kept hb).less); clear hb))
            go_roundw
            case rel => exact ⟨k + 1, L', by have := HLT.out; omega, by go_num, by rw [HN.out], S3.out, HNDN.out, by have := HNLN.out; omega⟩
            case measure => have := HLT.out; simp [intOf] <;> omega
          · have C1 := Lib.hid (show decide (0 ≤ a) = false by simp; omega)
            have C3 := Lib.hid (show decide (a < 0) = true by simp; omega)
            by_cases h2 : 0 ≤ n
            · have C4 := Lib.hid (show decide (0 ≤ n) = true by simp; omega)
              have C5 := Lib.hid (show (n != (L'.length : Int) - 1) = false by have := hf2 (by omega) h2; simp; omega)
              have hL2 : (L'.length : Int) ≤ 1000 := by have := HNLN.out; omega
              have GL := Lib.hid fun w1 (h : SideG C.obj w w1 p ⟨1000, L'⟩ [Bes.blk wr.heap.size (.int .i64 1) [.int .i64 y]]) => C.sLen h
              clear hf1 hf2 h1 h2
              have c1 := C1.out
              have c3 := C3.out
              have c4 := C4.out
              have c5 := C5.out
              go_wp2_with (first | (go_at_call 14; (with_reducible refine (G.out _ SS.out).mono ?_); rintro e w3 ⟨rfl, hb⟩; have S3 := Lib.hid (SS.out.kept hb); clear hb) | (go_at_call 18; (with_reducible refine (GL.out _ S3.out).mono ?_); rintro e w4 ⟨rfl, hb⟩; have S4 := Lib.hid ((S3.out.kept hb).less); clear hb))
              go_roundw
              case rel => exact ⟨k + 1, L', by have := HLT.out; omega, by go_num, by rw [HN.out], S4.out, HNDN.out, by have := HNLN.out; omega⟩
              case measure => have := HLT.out; simp [intOf] <;> omega
            · have C4 := Lib.hid (show decide (0 ≤ n) = false by simp; omega)
              clear hf1 hf2 h1 h2
              have c1 := C1.out
              have c3 := C3.out
              have c4 := C4.out
              go_wp2_with ((go_at_call 14; (with_reducible refine (G.out _ SS.out).mono ?_); rintro e w3 ⟨rfl, hb⟩; have S3 := Lib.hid ((SS.out.kept hb).less); clear hb))
              go_roundw
              case rel => exact ⟨k + 1, L', by have := HLT.out; omega, by go_num, by rw [HN.out], S3.out, HNDN.out, by have := HNLN.out; omega⟩
              case measure => have := HLT.out; simp [intOf] <;> omega
        · by_cases e2 : kk = 2
          · subst e2
            have P := Lib.hid (C.sTake SB.out)
            have HFI := Lib.hid (fair_take HNDL.out x)
            have HND := Lib.hid (HNDL.out.sublist (List.drop_sublist 1 L))
            have HNL := Lib.hid (show (L.drop 1).length ≤ k + 2 by rw [List.length_drop]; have := HLL.out; omega)
            simp only at P
            clear e1
            cases L with
            | nil =>
              have hh : hdF [] = (0, false) := rfl
              rw [hh] at P
              simp only at P
              clear hh
              go_upto_region 18 with (go_at_call 10; (with_reducible refine P.out.mono ?_); rintro e w3 ⟨rfl, h⟩; have SS := Lib.hid h; clear h p0 p1)
              clear P SB HS
              have hF := HFI.out
              have ND := HND.out
              have NL := HNL.out
              generalize hLL : (([] : List Int).drop 1) = L' at *
              obtain ⟨n, hn⟩ : ∃ n, plcL L' x = n := ⟨_, rfl⟩
              have HN := Lib.hid hn
              have G := Lib.hid fun w1 (h : SideG C.obj w w1 p ⟨1000, L'⟩ [Bes.blk wr.heap.size (.int .i64 2) [.int .i64 y]]) => C.sAt x hx h
              rw [hn] at G
              have hf1 := hF.1
              have hf2 := hF.2
              rw [hn, ha] at hf1 hf2
              have HNDN := Lib.hid ND
              have HNLN := Lib.hid NL
              clear hF ND NL hLL hn HFI HND HNL
              by_cases h1 : 0 ≤ a
              · have C1 := Lib.hid (show decide (0 ≤ a) = true by simp; omega)
                have C2 := Lib.hid (show decide (a < n) = false by have := hf1 h1; simp; omega)
                have C3 := Lib.hid (show decide (a < 0) = false by simp; omega)
                clear hf1 hf2 h1
                have c1 := C1.out
                have c2 := C2.out
                have c3 := C3.out
                go_wp2_with ((go_at_call 14; (with_reducible refine (G.out _ SS.out).mono ?_); rintro e w3 ⟨rfl, hb⟩; have S3 := Lib.hid ((SS.out.kept hb).less); clear hb))
                go_roundw
                case rel => exact ⟨k + 1, L', by have := HLT.out; omega, by go_num, by rw [HN.out], S3.out, HNDN.out, by have := HNLN.out; omega⟩
                case measure => have := HLT.out; simp [intOf] <;> omega
              · have C1 := Lib.hid (show decide (0 ≤ a) = false by simp; omega)
                have C3 := Lib.hid (show decide (a < 0) = true by simp; omega)
                by_cases h2 : 0 ≤ n
                · have C4 := Lib.hid (show decide (0 ≤ n) = true by simp; omega)
                  have C5 := Lib.hid (show (n != (L'.length : Int) - 1) = false by have := hf2 (by omega) h2; simp; omega)
                  have hL2 : (L'.length : Int) ≤ 1000 := by have := HNLN.out; omega
                  have GL := Lib.hid fun w1 (h : SideG C.obj w w1 p ⟨1000, L'⟩ [Bes.blk wr.heap.size (.int .i64 2) [.int .i64 y]]) => C.sLen h
                  clear hf1 hf2 h1 h2
                  have c1 := C1.out
                  have c3 := C3.out
                  have c4 := C4.out
                  have c5 := C5.out
                  go_wp2_with (first | (go_at_call 14; (with_reducible refine (G.out _ SS.out).mono ?_); rintro e w3 ⟨rfl, hb⟩; have S3 := Lib.hid (SS.out.kept hb); clear hb) | (go_at_call 18; (with_reducible refine (GL.out _ S3.out).mono ?_); rintro e w4 ⟨rfl, hb⟩; have S4 := Lib.hid ((S3.out.kept hb).less); clear hb))
                  go_roundw
                  case rel => exact ⟨k + 1, L', by have := HLT.out; omega, by go_num, by rw [HN.out], S4.out, HNDN.out, by have := HNLN.out; omega⟩
                  case measure => have := HLT.out; simp [intOf] <;> omega
                · have C4 := Lib.hid (show decide (0 ≤ n) = false by simp; omega)
                  clear hf1 hf2 h1 h2
                  have c1 := C1.out
                  have c3 := C3.out
                  have c4 := C4.out
                  go_wp2_with ((go_at_call 14; (with_reducible refine (G.out _ SS.out).mono ?_); rintro e w3 ⟨rfl, hb⟩; have S3 := Lib.hid ((SS.out.kept hb).less); clear hb))
                  go_roundw
                  case rel => exact ⟨k + 1, L', by have := HLT.out; omega, by go_num, by rw [HN.out], S3.out, HNDN.out, by have := HNLN.out; omega⟩
                  case measure => have := HLT.out; simp [intOf] <;> omega
            | cons z t =>
              have hh : hdF (z :: t) = (z, true) := rfl
              rw [hh] at P
              simp only at P
              clear hh
              by_cases hage : 0 ≤ a
              · have hth := take_head z t x
                rw [ha] at hth
                obtain ⟨bb, hbb⟩ : ∃ bb, (a == 0) = bb := ⟨_, rfl⟩
                rw [hbb] at hth
                have D1 := Lib.hid (show decide (0 ≤ a) = true by simp; omega)
                have D2 := Lib.hid hth
                have D3 := Lib.hid hbb
                clear hage hth hbb
                have d1 := D1.out
                have d2 := D2.out
                have d3 := D3.out
                go_upto_region 18 with (go_at_call 10; (with_reducible refine P.out.mono ?_); rintro e w3 ⟨rfl, h⟩; have SS := Lib.hid h; clear h p0 p1)
                clear P SB HS d1 d2 d3
                have hF := HFI.out
                have ND := HND.out
                have NL := HNL.out
                generalize hLL : ((z :: t).drop 1) = L' at *
                obtain ⟨n, hn⟩ : ∃ n, plcL L' x = n := ⟨_, rfl⟩
                have HN := Lib.hid hn
                have G := Lib.hid fun w1 (h : SideG C.obj w w1 p ⟨1000, L'⟩ [Bes.blk wr.heap.size (.int .i64 2) [.int .i64 y]]) => C.sAt x hx h
                rw [hn] at G
                have hf1 := hF.1
                have hf2 := hF.2
                rw [hn, ha] at hf1 hf2
                have HNDN := Lib.hid ND
                have HNLN := Lib.hid NL
                clear hF ND NL hLL hn HFI HND HNL
                by_cases h1 : 0 ≤ a
                · have C1 := Lib.hid (show decide (0 ≤ a) = true by simp; omega)
                  have C2 := Lib.hid (show decide (a < n) = false by have := hf1 h1; simp; omega)
                  have C3 := Lib.hid (show decide (a < 0) = false by simp; omega)
                  clear hf1 hf2 h1
                  have c1 := C1.out
                  have c2 := C2.out
                  have c3 := C3.out
                  go_wp2_with ((go_at_call 14; (with_reducible refine (G.out _ SS.out).mono ?_); rintro e w3 ⟨rfl, hb⟩; have S3 := Lib.hid ((SS.out.kept hb).less); clear hb))
                  go_roundw
                  case rel => exact ⟨k + 1, L', by have := HLT.out; omega, by go_num, by rw [HN.out], S3.out, HNDN.out, by have := HNLN.out; omega⟩
                  case measure => have := HLT.out; simp [intOf] <;> omega
                · have C1 := Lib.hid (show decide (0 ≤ a) = false by simp; omega)
                  have C3 := Lib.hid (show decide (a < 0) = true by simp; omega)
                  by_cases h2 : 0 ≤ n
                  · have C4 := Lib.hid (show decide (0 ≤ n) = true by simp; omega)
                    have C5 := Lib.hid (show (n != (L'.length : Int) - 1) = false by have := hf2 (by omega) h2; simp; omega)
                    have hL2 : (L'.length : Int) ≤ 1000 := by have := HNLN.out; omega
                    have GL := Lib.hid fun w1 (h : SideG C.obj w w1 p ⟨1000, L'⟩ [Bes.blk wr.heap.size (.int .i64 2) [.int .i64 y]]) => C.sLen h
                    clear hf1 hf2 h1 h2
                    have c1 := C1.out
                    have c3 := C3.out
                    have c4 := C4.out
                    have c5 := C5.out
                    go_wp2_with (first | (go_at_call 14; (with_reducible refine (G.out _ SS.out).mono ?_); rintro e w3 ⟨rfl, hb⟩; have S3 := Lib.hid (SS.out.kept hb); clear hb) | (go_at_call 18; (with_reducible refine (GL.out _ S3.out).mono ?_); rintro e w4 ⟨rfl, hb⟩; have S4 := Lib.hid ((S3.out.kept hb).less); clear hb))
                    go_roundw
                    case rel => exact ⟨k + 1, L', by have := HLT.out; omega, by go_num, by rw [HN.out], S4.out, HNDN.out, by have := HNLN.out; omega⟩
                    case measure => have := HLT.out; simp [intOf] <;> omega
                  · have C4 := Lib.hid (show decide (0 ≤ n) = false by simp; omega)
                    clear hf1 hf2 h1 h2
                    have c1 := C1.out
                    have c3 := C3.out
                    have c4 := C4.out
                    go_wp2_with ((go_at_call 14; (with_reducible refine (G.out _ SS.out).mono ?_); rintro e w3 ⟨rfl, hb⟩; have S3 := Lib.hid ((SS.out.kept hb).less); clear hb))
                    go_roundw
                    case rel => exact ⟨k + 1, L', by have := HLT.out; omega, by go_num, by rw [HN.out], S3.out, HNDN.out, by have := HNLN.out; omega⟩
                    case measure => have := HLT.out; simp [intOf] <;> omega
              · have D1 := Lib.hid (show decide (0 ≤ a) = false by simp; omega)
                clear hage
                have d1 := D1.out
                go_upto_region 18 with (go_at_call 10; (with_reducible refine P.out.mono ?_); rintro e w3 ⟨rfl, h⟩; have SS := Lib.hid h; clear h p0 p1)
                clear P SB HS d1
                have hF := HFI.out
                have ND := HND.out
                have NL := HNL.out
                generalize hLL : ((z :: t).drop 1) = L' at *
                obtain ⟨n, hn⟩ : ∃ n, plcL L' x = n := ⟨_, rfl⟩
                have HN := Lib.hid hn
                have G := Lib.hid fun w1 (h : SideG C.obj w w1 p ⟨1000, L'⟩ [Bes.blk wr.heap.size (.int .i64 2) [.int .i64 y]]) => C.sAt x hx h
                rw [hn] at G
                have hf1 := hF.1
                have hf2 := hF.2
                rw [hn, ha] at hf1 hf2
                have HNDN := Lib.hid ND
                have HNLN := Lib.hid NL
                clear hF ND NL hLL hn HFI HND HNL
                by_cases h1 : 0 ≤ a
                · have C1 := Lib.hid (show decide (0 ≤ a) = true by simp; omega)
                  have C2 := Lib.hid (show decide (a < n) = false by have := hf1 h1; simp; omega)
                  have C3 := Lib.hid (show decide (a < 0) = false by simp; omega)
                  clear hf1 hf2 h1
                  have c1 := C1.out
                  have c2 := C2.out
                  have c3 := C3.out
                  go_wp2_with ((go_at_call 14; (with_reducible refine (G.out _ SS.out).mono ?_); rintro e w3 ⟨rfl, hb⟩; have S3 := Lib.hid ((SS.out.kept hb).less); clear hb))
                  go_roundw
                  case rel => exact ⟨k + 1, L', by have := HLT.out; omega, by go_num, by rw [HN.out], S3.out, HNDN.out, by have := HNLN.out; omega⟩
                  case measure => have := HLT.out; simp [intOf] <;> omega
                · have C1 := Lib.hid (show decide (0 ≤ a) = false by simp; omega)
                  have C3 := Lib.hid (show decide (a < 0) = true by simp; omega)
                  by_cases h2 : 0 ≤ n
                  · have C4 := Lib.hid (show decide (0 ≤ n) = true by simp; omega)
                    have C5 := Lib.hid (show (n != (L'.length : Int) - 1) = false by have := hf2 (by omega) h2; simp; omega)
                    have hL2 : (L'.length : Int) ≤ 1000 := by have := HNLN.out; omega
                    have GL := Lib.hid fun w1 (h : SideG C.obj w w1 p ⟨1000, L'⟩ [Bes.blk wr.heap.size (.int .i64 2) [.int .i64 y]]) => C.sLen h
                    clear hf1 hf2 h1 h2
                    have c1 := C1.out
                    have c3 := C3.out
                    have c4 := C4.out
                    have c5 := C5.out
                    go_wp2_with (first | (go_at_call 14; (with_reducible refine (G.out _ SS.out).mono ?_); rintro e w3 ⟨rfl, hb⟩; have S3 := Lib.hid (SS.out.kept hb); clear hb) | (go_at_call 18; (with_reducible refine (GL.out _ S3.out).mono ?_); rintro e w4 ⟨rfl, hb⟩; have S4 := Lib.hid ((S3.out.kept hb).less); clear hb))
                    go_roundw
                    case rel => exact ⟨k + 1, L', by have := HLT.out; omega, by go_num, by rw [HN.out], S4.out, HNDN.out, by have := HNLN.out; omega⟩
                    case measure => have := HLT.out; simp [intOf] <;> omega
                  · have C4 := Lib.hid (show decide (0 ≤ n) = false by simp; omega)
                    clear hf1 hf2 h1 h2
                    have c1 := C1.out
                    have c3 := C3.out
                    have c4 := C4.out
                    go_wp2_with ((go_at_call 14; (with_reducible refine (G.out _ SS.out).mono ?_); rintro e w3 ⟨rfl, hb⟩; have S3 := Lib.hid ((SS.out.kept hb).less); clear hb))
                    go_roundw
                    case rel => exact ⟨k + 1, L', by have := HLT.out; omega, by go_num, by rw [HN.out], S3.out, HNDN.out, by have := HNLN.out; omega⟩
                    case measure => have := HLT.out; simp [intOf] <;> omega
          · by_cases e3 : kk = 3
            · subst e3
              have P := Lib.hid (C.sDrop y HY.out SB.out)
              have HFI := Lib.hid (fair_drop x y L)
              have HND := Lib.hid (show (dropF L y).Nodup from HNDL.out.sublist List.filter_sublist)
              have HNL := Lib.hid (show (dropF L y).length ≤ k + 2 by have := dropF_len L y; have := HLL.out; omega)
              simp only at P
              clear e1 e2
              go_upto_region 18 with (go_at_call 11; (with_reducible refine P.out.mono ?_); rintro e w3 ⟨rfl, h⟩; have SS := Lib.hid h; clear h p0 p1)
              clear P SB HS
              have hF := HFI.out
              have ND := HND.out
              have NL := HNL.out
              generalize hLL : (dropF L y) = L' at *
              obtain ⟨n, hn⟩ : ∃ n, plcL L' x = n := ⟨_, rfl⟩
              have HN := Lib.hid hn
              have G := Lib.hid fun w1 (h : SideG C.obj w w1 p ⟨1000, L'⟩ [Bes.blk wr.heap.size (.int .i64 3) [.int .i64 y]]) => C.sAt x hx h
              rw [hn] at G
              have hf1 := hF.1
              have hf2 := hF.2
              rw [hn, ha] at hf1 hf2
              have HNDN := Lib.hid ND
              have HNLN := Lib.hid NL
              clear hF ND NL hLL hn HFI HND HNL
              by_cases h1 : 0 ≤ a
              · have C1 := Lib.hid (show decide (0 ≤ a) = true by simp; omega)
                have C2 := Lib.hid (show decide (a < n) = false by have := hf1 h1; simp; omega)
                have C3 := Lib.hid (show decide (a < 0) = false by simp; omega)
                clear hf1 hf2 h1
                have c1 := C1.out
                have c2 := C2.out
                have c3 := C3.out
                go_wp2_with ((go_at_call 14; (with_reducible refine (G.out _ SS.out).mono ?_); rintro e w3 ⟨rfl, hb⟩; have S3 := Lib.hid ((SS.out.kept hb).less); clear hb))
                go_roundw
                case rel => exact ⟨k + 1, L', by have := HLT.out; omega, by go_num, by rw [HN.out], S3.out, HNDN.out, by have := HNLN.out; omega⟩
                case measure => have := HLT.out; simp [intOf] <;> omega
              · have C1 := Lib.hid (show decide (0 ≤ a) = false by simp; omega)
                have C3 := Lib.hid (show decide (a < 0) = true by simp; omega)
                by_cases h2 : 0 ≤ n
                · have C4 := Lib.hid (show decide (0 ≤ n) = true by simp; omega)
                  have C5 := Lib.hid (show (n != (L'.length : Int) - 1) = false by have := hf2 (by omega) h2; simp; omega)
                  have hL2 : (L'.length : Int) ≤ 1000 := by have := HNLN.out; omega
                  have GL := Lib.hid fun w1 (h : SideG C.obj w w1 p ⟨1000, L'⟩ [Bes.blk wr.heap.size (.int .i64 3) [.int .i64 y]]) => C.sLen h
                  clear hf1 hf2 h1 h2
                  have c1 := C1.out
                  have c3 := C3.out
                  have c4 := C4.out
                  have c5 := C5.out
                  go_wp2_with (first | (go_at_call 14; (with_reducible refine (G.out _ SS.out).mono ?_); rintro e w3 ⟨rfl, hb⟩; have S3 := Lib.hid (SS.out.kept hb); clear hb) | (go_at_call 18; (with_reducible refine (GL.out _ S3.out).mono ?_); rintro e w4 ⟨rfl, hb⟩; have S4 := Lib.hid ((S3.out.kept hb).less); clear hb))
                  go_roundw
                  case rel => exact ⟨k + 1, L', by have := HLT.out; omega, by go_num, by rw [HN.out], S4.out, HNDN.out, by have := HNLN.out; omega⟩
                  case measure => have := HLT.out; simp [intOf] <;> omega
                · have C4 := Lib.hid (show decide (0 ≤ n) = false by simp; omega)
                  clear hf1 hf2 h1 h2
                  have c1 := C1.out
                  have c3 := C3.out
                  have c4 := C4.out
                  go_wp2_with ((go_at_call 14; (with_reducible refine (G.out _ SS.out).mono ?_); rintro e w3 ⟨rfl, hb⟩; have S3 := Lib.hid ((SS.out.kept hb).less); clear hb))
                  go_roundw
                  case rel => exact ⟨k + 1, L', by have := HLT.out; omega, by go_num, by rw [HN.out], S3.out, HNDN.out, by have := HNLN.out; omega⟩
                  case measure => have := HLT.out; simp [intOf] <;> omega
            · obtain ⟨L2, hL2⟩ : ∃ L2, L = L2 := ⟨L, rfl⟩
              have hfi := fair_same L x
              unfold FairI at hfi
              have SS := SB
              have hnd2 := HNDL.out
              have hnl2 := HLL.out
              have HFI := Lib.hid (show FairI L L2 x from by rw [← hL2]; exact hfi)
              rw [hL2] at SS hnd2 hnl2
              have HND := Lib.hid hnd2
              have HNL := Lib.hid (show L2.length ≤ k + 2 by omega)
              clear hL2 hfi hnd2 hnl2
              have f1 : (kk == 1) = false := beq_noI e1
              have f2 : (kk == 2) = false := beq_noI e2
              have f3 : (kk == 3) = false := beq_noI e3
              clear e1 e2 e3
              go_upto_region 18 with (fail)
              clear SB HS p0 p1
              have hF := HFI.out
              have ND := HND.out
              have NL := HNL.out
              generalize hLL : (L2) = L' at *
              obtain ⟨n, hn⟩ : ∃ n, plcL L' x = n := ⟨_, rfl⟩
              have HN := Lib.hid hn
              have G := Lib.hid fun w1 (h : SideG C.obj w w1 p ⟨1000, L'⟩ [Bes.blk wr.heap.size (.int .i64 kk) [.int .i64 y]]) => C.sAt x hx h
              rw [hn] at G
              have hf1 := hF.1
              have hf2 := hF.2
              rw [hn, ha] at hf1 hf2
              have HNDN := Lib.hid ND
              have HNLN := Lib.hid NL
              clear hF ND NL hLL hn HFI HND HNL
              by_cases h1 : 0 ≤ a
              · have C1 := Lib.hid (show decide (0 ≤ a) = true by simp; omega)
                have C2 := Lib.hid (show decide (a < n) = false by have := hf1 h1; simp; omega)
                have C3 := Lib.hid (show decide (a < 0) = false by simp; omega)
                clear hf1 hf2 h1
                have c1 := C1.out
                have c2 := C2.out
                have c3 := C3.out
                go_wp2_with ((go_at_call 14; (with_reducible refine (G.out _ SS.out).mono ?_); rintro e w3 ⟨rfl, hb⟩; have S3 := Lib.hid ((SS.out.kept hb).less); clear hb))
                go_roundw
                case rel => exact ⟨k + 1, L', by have := HLT.out; omega, by go_num, by rw [HN.out], S3.out, HNDN.out, by have := HNLN.out; omega⟩
                case measure => have := HLT.out; simp [intOf] <;> omega
              · have C1 := Lib.hid (show decide (0 ≤ a) = false by simp; omega)
                have C3 := Lib.hid (show decide (a < 0) = true by simp; omega)
                by_cases h2 : 0 ≤ n
                · have C4 := Lib.hid (show decide (0 ≤ n) = true by simp; omega)
                  have C5 := Lib.hid (show (n != (L'.length : Int) - 1) = false by have := hf2 (by omega) h2; simp; omega)
                  have hL2 : (L'.length : Int) ≤ 1000 := by have := HNLN.out; omega
                  have GL := Lib.hid fun w1 (h : SideG C.obj w w1 p ⟨1000, L'⟩ [Bes.blk wr.heap.size (.int .i64 kk) [.int .i64 y]]) => C.sLen h
                  clear hf1 hf2 h1 h2
                  have c1 := C1.out
                  have c3 := C3.out
                  have c4 := C4.out
                  have c5 := C5.out
                  go_wp2_with (first | (go_at_call 14; (with_reducible refine (G.out _ SS.out).mono ?_); rintro e w3 ⟨rfl, hb⟩; have S3 := Lib.hid (SS.out.kept hb); clear hb) | (go_at_call 18; (with_reducible refine (GL.out _ S3.out).mono ?_); rintro e w4 ⟨rfl, hb⟩; have S4 := Lib.hid ((S3.out.kept hb).less); clear hb))
                  go_roundw
                  case rel => exact ⟨k + 1, L', by have := HLT.out; omega, by go_num, by rw [HN.out], S4.out, HNDN.out, by have := HNLN.out; omega⟩
                  case measure => have := HLT.out; simp [intOf] <;> omega
                · have C4 := Lib.hid (show decide (0 ≤ n) = false by simp; omega)
                  clear hf1 hf2 h1 h2
                  have c1 := C1.out
                  have c3 := C3.out
                  have c4 := C4.out
                  go_wp2_with ((go_at_call 14; (with_reducible refine (G.out _ SS.out).mono ?_); rintro e w3 ⟨rfl, hb⟩; have S3 := Lib.hid ((SS.out.kept hb).less); clear hb))
                  go_roundw
                  case rel => exact ⟨k + 1, L', by have := HLT.out; omega, by go_num, by rw [HN.out], S3.out, HNDN.out, by have := HNLN.out; omega⟩
                  case measure => have := HLT.out; simp [intOf] <;> omega
      · have hke : k = l.length := by omega
        subst hke
        have BB := Lib.hid hS.below
        clear hS hnd hle hlt
        go_wp2_with (first
          | (go_at_call 10; (with_reducible refine (C.take_nil _).mono ?_); rintro e w' ⟨rfl, hb⟩; replace BB := Lib.hid (BB.out.trans (hb.mono BB.out.size)); clear hb)
          | (go_at_call 13; (with_reducible refine (C.first_nil _).mono ?_); rintro e w' ⟨rfl, hb⟩; replace BB := Lib.hid (BB.out.trans (hb.mono BB.out.size)); clear hb)
          | (go_at_call 8; (with_reducible refine (C.put_nil _ _).mono ?_); rintro e w' ⟨rfl, hb⟩; replace BB := Lib.hid (BB.out.trans (hb.mono BB.out.size)); clear hb)
          | (go_at_call 11; (with_reducible refine (C.drop_nil _ _).mono ?_); rintro e w' ⟨rfl, hb⟩; replace BB := Lib.hid (BB.out.trans (hb.mono BB.out.size)); clear hb)
          | (go_at_call 14; (with_reducible refine (C.at_nil _ _).mono ?_); rintro e w' ⟨rfl, hb⟩; replace BB := Lib.hid (BB.out.trans (hb.mono BB.out.size)); clear hb)
          | (go_at_call 18; (with_reducible refine (C.len_nil _).mono ?_); rintro e w' ⟨rfl, hb⟩; replace BB := Lib.hid (BB.out.trans (hb.mono BB.out.size)); clear hb)
          | (go_at_call 19; (with_reducible refine (C.room_nil _).mono ?_); rintro e w' ⟨rfl, hb⟩; replace BB := Lib.hid (BB.out.trans (hb.mono BB.out.size)); clear hb)
          | (go_at_call 5; (with_reducible refine (HAL.out _).mono ?_); rintro e w' ⟨rfl, hb⟩; replace BB := Lib.hid (BB.out.trans (hb.mono BB.out.size)); clear hb))
        go_ret
        exact ⟨rfl, BB.out⟩
  · have g1 : (100 : Int) < (l.length : Int) := by omega
    clear h100
    go_enter Try.func4, Try.ntmps4
    go_wp2_with (go_at_call 5; (with_reducible refine (HAL.out _).mono ?_); rintro e w7 ⟨rfl, hb⟩)
    go_ret
    exact ⟨rfl, hb⟩
end Go.Proofs.Ytcdgclnlpfnglaa
