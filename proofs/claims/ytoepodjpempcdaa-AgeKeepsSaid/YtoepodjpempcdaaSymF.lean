/- slices.SortStableFunc at structs: the whole. Written by wip/tools/gen_stab.py. -/
import Derived.Test.YtoepodjpempcdaaSymE
import Derived.Test.YtoepodjpempcdaaStabMathC
namespace Go.Proofs.Ytoepodjpempcdaa
open Go.RowKit Go.Shelf Go.Lib Go.Sort

set_option maxHeartbeats 4000000 in
set_option maxRecDepth 1000000 in
theorem sStable_any {α : Type} [Inhabited α] (T S : TypeId) (hT : 23 = T) (hS : 28 = S) (K : Nat) (ty : TyK Try.prog T S K) (enc : α → List Value) (cf : α → α → Int) (hO : SWO (ltOf cf)) (g : Nat) (fi ca : Array Value) (eg : ∀ args w, (callFunc g args).run Try.prog w = .ok (.enter g args) w) (blk off cap len : Nat) (d0 d : Array α) (w0 w : World) (hlen : d.size = len)
    (hcmp : CmpF Try.prog g fi ca enc K cf blk off len w0) (R : RowK enc K w0 blk off d0) (hs : d0.size = len) (W : SWB enc K w0 blk off d w) (hsz0 : len < 1152921504606846976) :
    Calls Try.prog 41 #[.slice (some ⟨blk, off, none⟩) len cap, .int .i64 (len : Nat), .func (.func g) fi ca] w fun e w' => e = .returned (.tuple #[]) ∧ ∃ d', d'.toList.Perm d.toList ∧ Ord (ltOf cf) d'.toList ∧ d'.size = len ∧ Aside (SWB enc K w0 blk off d' w') := by
  have hsz : len < 4611686018427387904 := by omega
  have HI : Aside (∀ (a b : Nat) (az bz : Int) (dk : Array α) (w : World) (X M Y : List α), az = a → bz = b → dk.size = len → SWB enc K w0 blk off dk w → dk.toList = X ++ (M ++ Y) → a = X.length → b = a + M.length → _) := fun a b az bz dk w X M Y h1 h2 h3 h4 h5 h6 h7 => sInsertion_any T S hT hS K ty enc cf hO g fi ca eg blk off cap len a b az bz d0 dk w0 w X M Y h1 h2 h3 hcmp R hs h4 h5 h6 h7 hsz
  have HM : Aside (∀ N, SymSays K enc cf g fi ca blk off cap len w0 N) := sSymMerge_any T S hT hS K ty enc cf hO g fi ca eg blk off cap len d0 w0 hcmp R hs hsz
  have S0 : Aside (SWB enc K w0 blk off d w) := W
  have F0 : Aside (Firsts (ltOf cf) 20 0 d.toList d.toList) := Firsts.start _ _ _
  have hda : d.size = len := hlen
  clear W hlen hcmp hT hS ty
  go_enter Try.func41, Try.ntmps41
  go_wp2
  go_loopg [7, 8] len (fun kx s7 s8 wr => ∃ (a : Nat) (dk : Array α), s7 = .int .i64 a ∧ s8 = .int .i64 ((a : Int) + 20) ∧ a ≤ len ∧ len - a ≤ kx ∧ dk.size = len ∧ Aside (SWB enc K w0 blk off dk wr) ∧ Aside (Firsts (ltOf cf) 20 a d.toList dk.toList))
  case atStart => exact ⟨0, d, rfl, by simp, by omega, by omega, hda, S0, F0⟩
  case round =>
    clear S0 F0
    obtain ⟨a, dk, rfl, rfl, hal, hkx, hds, S1, F1⟩ := hrel
    have hdl : dk.toList.length = len := by simpa using hds
    by_cases hlt : a + 20 ≤ len
    · have hltz : (a : Int) + 20 ≤ (len : Int) := by omega
      obtain ⟨X, M, Y, e1, e2, e3, e4⟩ := F1.out.next (by omega)
      have HR := HI.out a (a + 20) a ((a : Int) + 20) dk wr X M Y rfl (by omega) hds S1.out e1 e2 (by omega)
      have E4 : Aside _ := e4
      have q1 : IntKind.i64.wrap ((a : Int) + 20 + 20) = (a : Int) + 20 + 20 := by rw [IntKind.wrap_i64]; omega
      clear e1 e2 e3 e4 S1 F1 hdl
      go_wp2_with (go_at_call 44; refine HR.mono ?_; rintro e w' ⟨rfl, d', Z, e1, e2, e3, e4, S2⟩; have E1 : Aside _ := e1; clear e1)
      go_roundg (len - (a + 20))
      case measure => omega
      case rel => exact ⟨a + 20, d', by simp, by simp, by omega, Nat.le_refl _, e4, S2, E4.out _ Z E1.out e2 e3⟩
    · have hltz : ¬ (a : Int) + 20 ≤ (len : Int) := by omega
      obtain ⟨X, M, e1, e2, e3, e4⟩ := F1.out.done (by omega)
      have HR := HI.out a len a len dk wr X M [] rfl rfl hds S1.out e1 e2 (by omega)
      have E4 : Aside _ := e4
      clear e1 e2 e3 e4 S1 F1 hdl hkx hds
      go_wp2_with (go_at_call 44; refine HR.mono ?_; rintro e w' ⟨rfl, d', Z, e1, e2, e3, e4, S2⟩; have E1 : Aside _ := e1; clear e1)
      have B0 : Aside (Blocks (ltOf cf) 20 d.toList d'.toList) := E4.out _ Z E1.out e2 e3
      clear E4 E1 e2 e3 HR
      go_loopg [6] len (fun kx s6 wr => ∃ (bs : Nat) (dk : Array α), s6 = .int .i64 bs ∧ 20 ≤ bs ∧ len - bs ≤ kx ∧ dk.size = len ∧ Aside (SWB enc K w0 blk off dk wr) ∧ Aside (Blocks (ltOf cf) bs d.toList dk.toList))
      case atStart => exact ⟨20, d', rfl, by omega, by omega, e4, S2, B0⟩
      case round =>
        clear S2 B0 e4
        obtain ⟨bs, dk, rfl, hb20, hkx, hds, S1, B1⟩ := hrel
        have hdl : dk.toList.length = len := by simpa using hds
        by_cases hbn : bs < len
        · have hbz : (bs : Int) < (len : Int) := by omega
          have P0 : Aside (Pairing (ltOf cf) bs 0 d.toList dk.toList) := B1.out.pairing
          have q1 : IntKind.i64.wrap (2 * (bs : Int)) = 2 * (bs : Int) := by rw [IntKind.wrap_i64]; omega
          clear hdl B1
          go_wp2
          go_loopg [7, 8] len (fun kx s7 s8 wr => ∃ (a : Nat) (dk : Array α), s7 = .int .i64 a ∧ s8 = .int .i64 ((a : Int) + 2 * (bs : Int)) ∧ a ≤ len ∧ len - a ≤ kx ∧ dk.size = len ∧ Aside (SWB enc K w0 blk off dk wr) ∧ Aside (Pairing (ltOf cf) bs a d.toList dk.toList))
          case atStart => exact ⟨0, dk, rfl, by simp, by omega, by omega, hds, S1, P0⟩
          case round =>
            clear S1 P0 hds
            obtain ⟨a, dk, rfl, rfl, hal, hkx2, hds, S1, P1⟩ := hrel
            have hdl : dk.toList.length = len := by simpa using hds
            have q2 : IntKind.i64.wrap ((a : Int) + (bs : Int)) = (a : Int) + (bs : Int) := by rw [IntKind.wrap_i64]; omega
            by_cases hlt : a + 2 * bs ≤ len
            · have hltz : (a : Int) + 2 * (bs : Int) ≤ (len : Int) := by omega
              obtain ⟨X, U, V, Y, e1, e2, e3, e4, e5, e6, e7, e8⟩ := P1.out.two (by omega)
              have HR := HM.out (2 * bs) a (a + bs) (a + 2 * bs) a ((a : Int) + (bs : Int)) ((a : Int) + 2 * (bs : Int)) dk wr X U V Y rfl (by omega) (by omega) hds S1.out e1 e2 (by omega) (by omega) (by omega) (by omega) e5 e6 (by omega)
              have E4 : Aside _ := e8
              have q3 : IntKind.i64.wrap ((a : Int) + 2 * (bs : Int) + 2 * (bs : Int)) = (a : Int) + 2 * (bs : Int) + 2 * (bs : Int) := by rw [IntKind.wrap_i64]; omega
              clear e1 e2 e3 e4 e5 e6 e7 e8 S1 P1 hdl hkx
              go_wp2_with (go_at_call 45; refine HR.mono ?_; rintro e w' ⟨rfl, d', Z, e1, e2, e3, e4, S2⟩; have E1 : Aside _ := e1; clear e1)
              go_roundg (len - (a + 2 * bs))
              case measure => omega
              case rel => exact ⟨a + 2 * bs, d', by simp, by simp, by omega, Nat.le_refl _, e4, S2, E4.out _ Z E1.out e2 e3⟩
            · have hltz : ¬ (a : Int) + 2 * (bs : Int) ≤ (len : Int) := by omega
              have q3 : IntKind.i64.wrap ((bs : Int) * 2) = (bs : Int) * 2 := by rw [IntKind.wrap_i64]; omega
              by_cases hm : a + bs < len
              · have hmz : (a : Int) + (bs : Int) < (len : Int) := by omega
                obtain ⟨X, U, V, e1, e2, e3, e4, e5, e6, e7, e8, e9⟩ := P1.out.last (by omega) (by omega)
                have HR := HM.out len a (a + bs) len a ((a : Int) + (bs : Int)) len dk wr X U V [] rfl (by omega) rfl hds S1.out e1 e2 (by omega) (by omega) (by omega) e5 e6 e7 (by omega)
                have E4 : Aside _ := e9
                clear e1 e2 e3 e4 e5 e6 e7 e8 e9 S1 P1 hdl hkx2
                go_wp2_with (go_at_call 45; refine HR.mono ?_; rintro e w' ⟨rfl, d', Z, e1, e2, e3, e4, S2⟩; have E1 : Aside _ := e1; clear e1)
                go_roundg (len - 2 * bs)
                case measure => omega
                case rel => exact ⟨2 * bs, d', by simp; omega, by omega, Nat.le_refl _, e4, S2, E4.out _ Z E1.out e2 e3⟩
              · have hmz : ¬ (a : Int) + (bs : Int) < (len : Int) := by omega
                have E4 : Aside (Blocks (ltOf cf) (2 * bs) d.toList dk.toList) := P1.out.rest (by omega) (by omega)
                clear P1 hdl hkx2
                go_wp2
                go_roundg (len - 2 * bs)
                case measure => omega
                case rel => exact ⟨2 * bs, dk, by simp; omega, by omega, Nat.le_refl _, hds, S1, E4⟩
        · have hbz : ¬ (bs : Int) < (len : Int) := by omega
          have hD := B1.out.done (by omega)
          clear hdl B1
          go_wp2
          go_end0
          exact ⟨rfl, dk, hD.2, hD.1, hds, S1⟩

end Go.Proofs.Ytoepodjpempcdaa
