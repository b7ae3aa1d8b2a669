/- slices.SortStableFunc at structs: merging in place, the whole. Written by wip/tools/gen_stab.py. -/
import Derived.Test.YtoepodjpempcdaaSymD
namespace Go.Proofs.Ytoepodjpempcdaa
open Go.RowKit Go.Shelf Go.Lib Go.Sort

def SymSays {α : Type} [Inhabited α] (K : Nat) (enc : α → List Value) (cf : α → α → Int) (g : Nat) (fi ca : Array Value) (blk off cap len : Nat) (w0 : World) (N : Nat) : Prop :=
  ∀ (a m b : Nat) (az mz bz : Int) (d : Array α) (w : World) (X U V Y : List α), az = a → mz = m → bz = b → d.size = len → SWB enc K w0 blk off d w → d.toList = X ++ (U ++ (V ++ Y)) → a = X.length → m = a + U.length → b = m + V.length →
    0 < U.length → 0 < V.length → Ord (ltOf cf) U → Ord (ltOf cf) V → b - a ≤ N →
    Calls Try.prog 45 #[.slice (some ⟨blk, off, none⟩) len cap, .int .i64 az, .int .i64 mz, .int .i64 bz, .func (.func g) fi ca] w fun e w' => e = .returned (.tuple #[]) ∧ ∃ d' Z, d'.toList = X ++ (Z ++ Y) ∧ Z.Perm (U ++ V) ∧ Ord (ltOf cf) Z ∧ d'.size = len ∧ Aside (SWB enc K w0 blk off d' w')

def rightC : Code → Code | .seq _ y => y | c => c
def leftC : Code → Code | .seq x _ => x | c => c
noncomputable def symT1 : Code := rightC (rightC (rightC (rightC (rightC (rightC (rightC (rightC ((Try.f45.body).getD .skip))))))))
noncomputable def symT2 : Code := rightC symT1
noncomputable def symT3 : Code := rightC symT2
noncomputable def symT4 : Code := rightC symT3
theorem symT1_eq : symT1 = .seq (leftC symT1) symT2 := rfl
theorem symT2_eq : symT2 = .seq (leftC symT2) symT3 := rfl
theorem symT3_eq : symT3 = .seq (leftC symT3) symT4 := rfl

set_option maxHeartbeats 4000000 in
set_option maxRecDepth 1000000 in
theorem sSym_t4 {α : Type} [Inhabited α] (K : Nat) (enc : α → List Value) (cf : α → α → Int) (g : Nat) (fi ca : Array Value) (blk off cap len a m b mid s N : Nat) (w0 : World) (X U V Y U1 U2 V1 V2 : List α) (IH : Aside (SymSays K enc cf g fi ca blk off cap len w0 N)) (_hsz : len < 4611686018427387904)
    (LN : Aside (U1.length = s - a ∧ U2.length = m - s ∧ V1.length = mid - s ∧ V2.length = b - m - (mid - s) ∧ a = X.length ∧ a + 1 < m ∧ m + 1 < b ∧ a < mid ∧ mid < b ∧ a ≤ s ∧ s ≤ m ∧ s ≤ mid ∧ m ≤ mid + m - s ∧ mid + m - s ≤ b ∧ mid ≤ mid + m - s ∧ b ≤ len ∧ b - a ≤ N + 1))
    (LE : Aside (LeA (ltOf cf) (U1 ++ V1) (U2 ++ V2))) (OR : Aside (Ord (ltOf cf) U1 ∧ Ord (ltOf cf) U2 ∧ Ord (ltOf cf) V1 ∧ Ord (ltOf cf) V2)) (PP : Aside ((U1 ++ (V1 ++ (U2 ++ V2))).Perm (U ++ V)))
    (d3 : Array α) (Z1 : List α) (w : World) (hd3 : d3.size = len) (S3 : Aside (SWB enc K w0 blk off d3 w)) (D3 : Aside (d3.toList = X ++ (Z1 ++ (U2 ++ (V2 ++ Y))) ∧ Z1.Perm (U1 ++ V1) ∧ Ord (ltOf cf) Z1)) {u5 u6 u7 u8 u9 u10 u11 u12 u13 u14 u15 u16 u17 u21 u22 u23 u25 u26 u27 u28 u29 u30 u31 u32 u33 u34 u35 u36 u37 u38 u39 u40 u41 u42 u43 u44 u45 u46 u47 u48 u49 u50 u51 u52 u53 u54 u55 u56 u57 u58 u59 u60 u61 u62 u63 u64 u65 u66 u67 u68 u69 u70 u71 u72 u73 u74 u75 u76 u77 u78 u79 u80 u81 u82 u83 u84 u85 u86 u87 u88 u89 u90 u91 u92 u93 u94 u95 u96 u97 u98 u99 u100 u101 u102 u103 u104 u105 u106 u107 u108 u109 u110 u111 u112 u113 u114 u115 u116 u117 u118 u119 u120 u121 u122 u123 u124 u125 u126 u127 u128 u129 u130 u131 u132 u133 u134 u135 u136 u137 u138 u139 u140 u141 u142 u143 u144 u145 u146 u147 u148 u149 u150 u151 u152 u153 u154 u155 u156 u157 u158 u159 u160 u161 u162 u163 u164 u165 u166 u167 u168 u169 u170 u171 u172 u173 u174 u175 u176 u177 u178 u179 u180 u181 u182 u183 u184 u185 u186 u187 u188 u189 u190 u191 u192 u193 u194 u195 u196 u197 u198 u199 u200 u201 u202 u203 u204 u205 u206 u207 u208 u209 u210 u211 u212 u213 u214 u215 u216 u217 u218 u219 : Value} :
    Code.wp Try.prog symT4 (bodyPost Try.prog Try.f45 (fun e w' => e = .returned (.tuple #[]) ∧ ∃ d' Z, d'.toList = X ++ (Z ++ Y) ∧ Z.Perm (U ++ V) ∧ Ord (ltOf cf) Z ∧ d'.size = len ∧ Aside (SWB enc K w0 blk off d' w')))
      { tmps := #[.slice (some ⟨blk, off, none⟩) len cap, .int .i64 a, .int .i64 m, .int .i64 b, .func (.func g) fi ca, u5, u6, u7, u8, u9, u10, u11, u12, u13, u14, u15, u16, u17, .int .i64 mid, .int .i64 ((mid : Int) + (m : Int)), .int .i64 s, u21, u22, u23, .int .i64 ((mid : Int) + (m : Int) - (s : Int)), u25, u26, u27, u28, u29, u30, u31, u32, u33, u34, u35, u36, u37, u38, u39, u40, u41, u42, u43, u44, u45, u46, u47, u48, u49, u50, u51, u52, u53, u54, u55, u56, u57, u58, u59, u60, u61, u62, u63, u64, u65, u66, u67, u68, u69, u70, u71, u72, u73, u74, u75, u76, u77, u78, u79, u80, u81, u82, u83, u84, u85, u86, u87, u88, u89, u90, u91, u92, u93, u94, u95, u96, u97, u98, u99, u100, u101, u102, u103, u104, u105, u106, u107, u108, u109, u110, u111, u112, u113, u114, u115, u116, u117, u118, u119, u120, u121, u122, u123, u124, u125, u126, u127, u128, u129, u130, u131, u132, u133, u134, u135, u136, u137, u138, u139, u140, u141, u142, u143, u144, u145, u146, u147, u148, u149, u150, u151, u152, u153, u154, u155, u156, u157, u158, u159, u160, u161, u162, u163, u164, u165, u166, u167, u168, u169, u170, u171, u172, u173, u174, u175, u176, u177, u178, u179, u180, u181, u182, u183, u184, u185, u186, u187, u188, u189, u190, u191, u192, u193, u194, u195, u196, u197, u198, u199, u200, u201, u202, u203, u204, u205, u206, u207, u208, u209, u210, u211, u212, u213, u214, u215, u216, u217, u218, u219], defers := [] } w := by
  obtain ⟨n1, n2, n3, n4, n5, n6, n7, n8, n9, n10, n11, n12, n13, n14, n15, n16, n17⟩ := LN.out
  simp only [symT4, symT3, symT2, symT1, rightC, Option.getD, Try.f45]
  by_cases p1 : mid < mid + m - s
  · have p1z : (mid : Int) < (mid : Int) + (m : Int) - (s : Int) := by omega
    by_cases p2 : mid + m - s < b
    · have p2z : (mid : Int) + (m : Int) - (s : Int) < (b : Int) := by omega
      have HR := IH.out mid (mid + m - s) b mid ((mid : Int) + (m : Int) - (s : Int)) b d3 w (X ++ Z1) U2 V2 Y rfl (by omega) rfl hd3 S3.out (by rw [D3.out.1]; simp only [List.append_assoc])
        (by have f := D3.out.2.1.length_eq; simp at f ⊢; omega) (by omega) (by omega) (by omega) (by omega) OR.out.2.1 OR.out.2.2.2 (by omega)
      clear S3
      clear n1 n2 n3 n4 n5 n6 n7 n8 n9 n10 n11 n12 n13 n14 n15 n16 n17
      go_wp2_with (go_at_call 45; refine HR.mono ?_; rintro e w' ⟨rfl, d', Z, e1, e2, e3, e4, S4⟩; have E1 : Aside _ := e1; clear e1)
      go_end0
      refine ⟨rfl, d', Z1 ++ Z, by rw [E1.out]; simp only [List.append_assoc], ?_, Ord.app.2 ⟨D3.out.2.2, e3, LE.out.perm D3.out.2.1 e2⟩, e4, S4⟩
      refine (List.Perm.append D3.out.2.1 e2).trans ?_
      have := PP.out
      simpa only [List.append_assoc] using this
    · have p2z : ¬ (mid : Int) + (m : Int) - (s : Int) < (b : Int) := by omega
      have hz : U2 = [] ∨ V2 = [] := by
        by_cases h1 : mid < mid + m - s
        · exact Or.inr (List.eq_nil_of_length_eq_zero (by omega))
        · exact Or.inl (List.eq_nil_of_length_eq_zero (by omega))
      have ho : Ord (ltOf cf) (U2 ++ V2) := by
        rcases hz with rfl | rfl
        · simpa using OR.out.2.2.2
        · simpa using OR.out.2.1
      have HO : Aside _ := ho
      clear ho hz
      clear n1 n2 n3 n4 n5 n6 n7 n8 n9 n10 n11 n12 n13 n14 n15 n16 n17
      go_wp2
      go_end0
      refine ⟨rfl, d3, Z1 ++ (U2 ++ V2), by rw [D3.out.1]; simp only [List.append_assoc], ?_, Ord.app.2 ⟨D3.out.2.2, HO.out, LE.out.perm D3.out.2.1 (List.Perm.refl _)⟩, hd3, S3⟩
      refine (List.Perm.append D3.out.2.1 (List.Perm.refl _)).trans ?_
      have := PP.out
      simpa only [List.append_assoc] using this
  · have p1z : ¬ (mid : Int) < (mid : Int) + (m : Int) - (s : Int) := by omega
    have hz : U2 = [] ∨ V2 = [] := by
      by_cases h1 : mid < mid + m - s
      · exact Or.inr (List.eq_nil_of_length_eq_zero (by omega))
      · exact Or.inl (List.eq_nil_of_length_eq_zero (by omega))
    have ho : Ord (ltOf cf) (U2 ++ V2) := by
      rcases hz with rfl | rfl
      · simpa using OR.out.2.2.2
      · simpa using OR.out.2.1
    have HO : Aside _ := ho
    clear ho hz
    clear n1 n2 n3 n4 n5 n6 n7 n8 n9 n10 n11 n12 n13 n14 n15 n16 n17
    go_wp2
    go_end0
    refine ⟨rfl, d3, Z1 ++ (U2 ++ V2), by rw [D3.out.1]; simp only [List.append_assoc], ?_, Ord.app.2 ⟨D3.out.2.2, HO.out, LE.out.perm D3.out.2.1 (List.Perm.refl _)⟩, hd3, S3⟩
    refine (List.Perm.append D3.out.2.1 (List.Perm.refl _)).trans ?_
    have := PP.out
    simpa only [List.append_assoc] using this

set_option maxHeartbeats 4000000 in
set_option maxRecDepth 1000000 in
theorem sSym_t3 {α : Type} [Inhabited α] (K : Nat) (enc : α → List Value) (cf : α → α → Int) (g : Nat) (fi ca : Array Value) (blk off cap len a m b mid s N : Nat) (w0 : World) (X U V Y U1 U2 V1 V2 : List α) (IH : Aside (SymSays K enc cf g fi ca blk off cap len w0 N)) (hsz : len < 4611686018427387904)
    (LN : Aside (U1.length = s - a ∧ U2.length = m - s ∧ V1.length = mid - s ∧ V2.length = b - m - (mid - s) ∧ a = X.length ∧ a + 1 < m ∧ m + 1 < b ∧ a < mid ∧ mid < b ∧ a ≤ s ∧ s ≤ m ∧ s ≤ mid ∧ m ≤ mid + m - s ∧ mid + m - s ≤ b ∧ mid ≤ mid + m - s ∧ b ≤ len ∧ b - a ≤ N + 1))
    (LE : Aside (LeA (ltOf cf) (U1 ++ V1) (U2 ++ V2))) (OR : Aside (Ord (ltOf cf) U1 ∧ Ord (ltOf cf) U2 ∧ Ord (ltOf cf) V1 ∧ Ord (ltOf cf) V2)) (PP : Aside ((U1 ++ (V1 ++ (U2 ++ V2))).Perm (U ++ V)))
    (d2 : Array α) (w : World) (hd2 : d2.size = len) (S2 : Aside (SWB enc K w0 blk off d2 w)) (D2 : Aside (d2.toList = X ++ (U1 ++ (V1 ++ (U2 ++ (V2 ++ Y)))))) {u5 u6 u7 u8 u9 u10 u11 u12 u13 u14 u15 u16 u17 u21 u22 u23 u25 u26 u27 u28 u29 u30 u31 u32 u33 u34 u35 u36 u37 u38 u39 u40 u41 u42 u43 u44 u45 u46 u47 u48 u49 u50 u51 u52 u53 u54 u55 u56 u57 u58 u59 u60 u61 u62 u63 u64 u65 u66 u67 u68 u69 u70 u71 u72 u73 u74 u75 u76 u77 u78 u79 u80 u81 u82 u83 u84 u85 u86 u87 u88 u89 u90 u91 u92 u93 u94 u95 u96 u97 u98 u99 u100 u101 u102 u103 u104 u105 u106 u107 u108 u109 u110 u111 u112 u113 u114 u115 u116 u117 u118 u119 u120 u121 u122 u123 u124 u125 u126 u127 u128 u129 u130 u131 u132 u133 u134 u135 u136 u137 u138 u139 u140 u141 u142 u143 u144 u145 u146 u147 u148 u149 u150 u151 u152 u153 u154 u155 u156 u157 u158 u159 u160 u161 u162 u163 u164 u165 u166 u167 u168 u169 u170 u171 u172 u173 u174 u175 u176 u177 u178 u179 u180 u181 u182 u183 u184 u185 u186 u187 u188 u189 u190 u191 u192 u193 u194 u195 u196 u197 u198 u199 u200 u201 u202 u203 u204 u205 u206 u207 u208 u209 u210 u211 u212 u213 u214 u215 u216 u217 u218 u219 : Value} :
    Code.wp Try.prog symT3 (bodyPost Try.prog Try.f45 (fun e w' => e = .returned (.tuple #[]) ∧ ∃ d' Z, d'.toList = X ++ (Z ++ Y) ∧ Z.Perm (U ++ V) ∧ Ord (ltOf cf) Z ∧ d'.size = len ∧ Aside (SWB enc K w0 blk off d' w')))
      { tmps := #[.slice (some ⟨blk, off, none⟩) len cap, .int .i64 a, .int .i64 m, .int .i64 b, .func (.func g) fi ca, u5, u6, u7, u8, u9, u10, u11, u12, u13, u14, u15, u16, u17, .int .i64 mid, .int .i64 ((mid : Int) + (m : Int)), .int .i64 s, u21, u22, u23, .int .i64 ((mid : Int) + (m : Int) - (s : Int)), u25, u26, u27, u28, u29, u30, u31, u32, u33, u34, u35, u36, u37, u38, u39, u40, u41, u42, u43, u44, u45, u46, u47, u48, u49, u50, u51, u52, u53, u54, u55, u56, u57, u58, u59, u60, u61, u62, u63, u64, u65, u66, u67, u68, u69, u70, u71, u72, u73, u74, u75, u76, u77, u78, u79, u80, u81, u82, u83, u84, u85, u86, u87, u88, u89, u90, u91, u92, u93, u94, u95, u96, u97, u98, u99, u100, u101, u102, u103, u104, u105, u106, u107, u108, u109, u110, u111, u112, u113, u114, u115, u116, u117, u118, u119, u120, u121, u122, u123, u124, u125, u126, u127, u128, u129, u130, u131, u132, u133, u134, u135, u136, u137, u138, u139, u140, u141, u142, u143, u144, u145, u146, u147, u148, u149, u150, u151, u152, u153, u154, u155, u156, u157, u158, u159, u160, u161, u162, u163, u164, u165, u166, u167, u168, u169, u170, u171, u172, u173, u174, u175, u176, u177, u178, u179, u180, u181, u182, u183, u184, u185, u186, u187, u188, u189, u190, u191, u192, u193, u194, u195, u196, u197, u198, u199, u200, u201, u202, u203, u204, u205, u206, u207, u208, u209, u210, u211, u212, u213, u214, u215, u216, u217, u218, u219], defers := [] } w := by
  obtain ⟨n1, n2, n3, n4, n5, n6, n7, n8, n9, n10, n11, n12, n13, n14, n15, n16, n17⟩ := LN.out
  rw [symT3_eq]
  refine wp_seq ?_
  generalize hT4 : symT4 = T4
  simp only [leftC, symT3, symT2, symT1, rightC, Option.getD, Try.f45]
  by_cases p1 : a < s
  · have p1z : (a : Int) < (s : Int) := by omega
    by_cases p2 : s < mid
    · have p2z : (s : Int) < (mid : Int) := by omega
      have HR := IH.out a s mid a s mid d2 w X U1 V1 (U2 ++ (V2 ++ Y)) rfl rfl rfl hd2 S2.out D2.out (by omega) (by omega) (by omega) (by omega) (by omega) OR.out.1 OR.out.2.2.1 (by omega)
      clear S2
      clear n1 n2 n3 n4 n5 n6 n7 n8 n9 n10 n11 n12 n13 n14 n15 n16 n17
      go_wp2_with (go_at_call 45; refine HR.mono ?_; rintro e w' ⟨rfl, d', Z, e1, e2, e3, e4, S3⟩; have E1 : Aside _ := e1; clear e1)
      show Code.wp _ T4 _ _ _
      subst hT4
      exact sSym_t4 K enc cf g fi ca blk off cap len a m b mid s N w0 X U V Y U1 U2 V1 V2 IH hsz LN LE OR PP d' Z _ e4 S3 ⟨E1.out, e2, e3⟩
    · have p2z : ¬ (s : Int) < (mid : Int) := by omega
      have hz : U1 = [] ∨ V1 = [] := by
        by_cases h1 : a < s
        · exact Or.inr (List.eq_nil_of_length_eq_zero (by omega))
        · exact Or.inl (List.eq_nil_of_length_eq_zero (by omega))
      have ho : Ord (ltOf cf) (U1 ++ V1) := by
        rcases hz with rfl | rfl
        · simpa using OR.out.2.2.1
        · simpa using OR.out.1
      have HO : Aside _ := ho
      clear ho hz
      clear n1 n2 n3 n4 n5 n6 n7 n8 n9 n10 n11 n12 n13 n14 n15 n16 n17
      go_wp2
      show Code.wp _ T4 _ _ _
      subst hT4
      exact sSym_t4 K enc cf g fi ca blk off cap len a m b mid s N w0 X U V Y U1 U2 V1 V2 IH hsz LN LE OR PP d2 (U1 ++ V1) _ hd2 S2 ⟨by rw [D2.out]; simp only [List.append_assoc], List.Perm.refl _, HO.out⟩
  · have p1z : ¬ (a : Int) < (s : Int) := by omega
    have hz : U1 = [] ∨ V1 = [] := by
      by_cases h1 : a < s
      · exact Or.inr (List.eq_nil_of_length_eq_zero (by omega))
      · exact Or.inl (List.eq_nil_of_length_eq_zero (by omega))
    have ho : Ord (ltOf cf) (U1 ++ V1) := by
      rcases hz with rfl | rfl
      · simpa using OR.out.2.2.1
      · simpa using OR.out.1
    have HO : Aside _ := ho
    clear ho hz
    clear n1 n2 n3 n4 n5 n6 n7 n8 n9 n10 n11 n12 n13 n14 n15 n16 n17
    go_wp2
    show Code.wp _ T4 _ _ _
    subst hT4
    exact sSym_t4 K enc cf g fi ca blk off cap len a m b mid s N w0 X U V Y U1 U2 V1 V2 IH hsz LN LE OR PP d2 (U1 ++ V1) _ hd2 S2 ⟨by rw [D2.out]; simp only [List.append_assoc], List.Perm.refl _, HO.out⟩

set_option maxHeartbeats 4000000 in
set_option maxRecDepth 1000000 in
theorem sSym_t2 {α : Type} [Inhabited α] (K : Nat) (enc : α → List Value) (cf : α → α → Int) (g : Nat) (fi ca : Array Value) (blk off cap len a m b mid s N : Nat) (w0 : World) (X U V Y U1 U2 V1 V2 : List α) (IH : Aside (SymSays K enc cf g fi ca blk off cap len w0 N)) (hsz : len < 4611686018427387904)
    (LN : Aside (U1.length = s - a ∧ U2.length = m - s ∧ V1.length = mid - s ∧ V2.length = b - m - (mid - s) ∧ a = X.length ∧ a + 1 < m ∧ m + 1 < b ∧ a < mid ∧ mid < b ∧ a ≤ s ∧ s ≤ m ∧ s ≤ mid ∧ m ≤ mid + m - s ∧ mid + m - s ≤ b ∧ mid ≤ mid + m - s ∧ b ≤ len ∧ b - a ≤ N + 1))
    (LE : Aside (LeA (ltOf cf) (U1 ++ V1) (U2 ++ V2))) (OR : Aside (Ord (ltOf cf) U1 ∧ Ord (ltOf cf) U2 ∧ Ord (ltOf cf) V1 ∧ Ord (ltOf cf) V2)) (PP : Aside ((U1 ++ (V1 ++ (U2 ++ V2))).Perm (U ++ V)))
    (T S : TypeId) (HT : Aside (23 = T)) (HS : Aside (28 = S)) (TY : Aside (TyK Try.prog T S K)) (d0 d : Array α) (w : World) (R : RowK enc K w0 blk off d0) (hs : d0.size = len) (hd : d.size = len) (S1 : Aside (SWB enc K w0 blk off d w)) (D1 : Aside (d.toList = (X ++ U1) ++ (U2 ++ (V1 ++ (V2 ++ Y))))) {u5 u6 u7 u8 u9 u10 u11 u12 u13 u14 u15 u16 u17 u21 u22 u23 u25 u26 u27 u28 u29 u30 u31 u32 u33 u34 u35 u36 u37 u38 u39 u40 u41 u42 u43 u44 u45 u46 u47 u48 u49 u50 u51 u52 u53 u54 u55 u56 u57 u58 u59 u60 u61 u62 u63 u64 u65 u66 u67 u68 u69 u70 u71 u72 u73 u74 u75 u76 u77 u78 u79 u80 u81 u82 u83 u84 u85 u86 u87 u88 u89 u90 u91 u92 u93 u94 u95 u96 u97 u98 u99 u100 u101 u102 u103 u104 u105 u106 u107 u108 u109 u110 u111 u112 u113 u114 u115 u116 u117 u118 u119 u120 u121 u122 u123 u124 u125 u126 u127 u128 u129 u130 u131 u132 u133 u134 u135 u136 u137 u138 u139 u140 u141 u142 u143 u144 u145 u146 u147 u148 u149 u150 u151 u152 u153 u154 u155 u156 u157 u158 u159 u160 u161 u162 u163 u164 u165 u166 u167 u168 u169 u170 u171 u172 u173 u174 u175 u176 u177 u178 u179 u180 u181 u182 u183 u184 u185 u186 u187 u188 u189 u190 u191 u192 u193 u194 u195 u196 u197 u198 u199 u200 u201 u202 u203 u204 u205 u206 u207 u208 u209 u210 u211 u212 u213 u214 u215 u216 u217 u218 u219 : Value} :
    Code.wp Try.prog symT2 (bodyPost Try.prog Try.f45 (fun e w' => e = .returned (.tuple #[]) ∧ ∃ d' Z, d'.toList = X ++ (Z ++ Y) ∧ Z.Perm (U ++ V) ∧ Ord (ltOf cf) Z ∧ d'.size = len ∧ Aside (SWB enc K w0 blk off d' w')))
      { tmps := #[.slice (some ⟨blk, off, none⟩) len cap, .int .i64 a, .int .i64 m, .int .i64 b, .func (.func g) fi ca, u5, u6, u7, u8, u9, u10, u11, u12, u13, u14, u15, u16, u17, .int .i64 mid, .int .i64 ((mid : Int) + (m : Int)), .int .i64 s, u21, u22, u23, .int .i64 ((mid : Int) + (m : Int) - (s : Int)), u25, u26, u27, u28, u29, u30, u31, u32, u33, u34, u35, u36, u37, u38, u39, u40, u41, u42, u43, u44, u45, u46, u47, u48, u49, u50, u51, u52, u53, u54, u55, u56, u57, u58, u59, u60, u61, u62, u63, u64, u65, u66, u67, u68, u69, u70, u71, u72, u73, u74, u75, u76, u77, u78, u79, u80, u81, u82, u83, u84, u85, u86, u87, u88, u89, u90, u91, u92, u93, u94, u95, u96, u97, u98, u99, u100, u101, u102, u103, u104, u105, u106, u107, u108, u109, u110, u111, u112, u113, u114, u115, u116, u117, u118, u119, u120, u121, u122, u123, u124, u125, u126, u127, u128, u129, u130, u131, u132, u133, u134, u135, u136, u137, u138, u139, u140, u141, u142, u143, u144, u145, u146, u147, u148, u149, u150, u151, u152, u153, u154, u155, u156, u157, u158, u159, u160, u161, u162, u163, u164, u165, u166, u167, u168, u169, u170, u171, u172, u173, u174, u175, u176, u177, u178, u179, u180, u181, u182, u183, u184, u185, u186, u187, u188, u189, u190, u191, u192, u193, u194, u195, u196, u197, u198, u199, u200, u201, u202, u203, u204, u205, u206, u207, u208, u209, u210, u211, u212, u213, u214, u215, u216, u217, u218, u219], defers := [] } w := by
  obtain ⟨n1, n2, n3, n4, n5, n6, n7, n8, n9, n10, n11, n12, n13, n14, n15, n16, n17⟩ := LN.out
  rw [symT2_eq]
  refine wp_seq ?_
  generalize hT3 : symT3 = T3
  simp only [leftC, symT2, symT1, rightC, Option.getD, Try.f45]
  by_cases p1 : s < m
  · have p1z : (s : Int) < (m : Int) := by omega
    by_cases p2 : m < mid + m - s
    · have p2z : (m : Int) < (mid : Int) + (m : Int) - (s : Int) := by omega
      have HR := sRotate_any T S HT.out HS.out K TY.out enc (.func (.func g) fi ca) blk off cap len s m (mid + m - s) s m ((mid : Int) + (m : Int) - (s : Int)) d0 d w0 w (X ++ U1) U2 V1 (V2 ++ Y) rfl rfl (by omega) hd R hs S1.out D1.out
        (by simp; omega) (by omega) (by omega) (by omega) (by omega) hsz
      clear S1
      clear n1 n2 n3 n4 n5 n6 n7 n8 n9 n10 n11 n12 n13 n14 n15 n16 n17
      go_wp2_with (go_at_call 46; refine HR.mono ?_; rintro e w' ⟨rfl, d', e1, S2⟩; have E1 : Aside _ := e1; clear e1)
      show Code.wp _ T3 _ _ _
      subst hT3
      exact sSym_t3 K enc cf g fi ca blk off cap len a m b mid s N w0 X U V Y U1 U2 V1 V2 IH hsz LN LE OR PP d' _ (by have f1 := size_split E1.out; have f2 := size_split D1.out; simp at f1 f2; omega) S2 (by rw [E1.out]; show _ = _; simp only [List.append_assoc])
    · have p2z : ¬ (m : Int) < (mid : Int) + (m : Int) - (s : Int) := by omega
      have hz : U2 = [] ∨ V1 = [] := by
        by_cases h1 : s < m
        · exact Or.inr (List.eq_nil_of_length_eq_zero (by omega))
        · exact Or.inl (List.eq_nil_of_length_eq_zero (by omega))
      have HZ : Aside _ := hz
      clear hz
      clear n1 n2 n3 n4 n5 n6 n7 n8 n9 n10 n11 n12 n13 n14 n15 n16 n17
      go_wp2
      show Code.wp _ T3 _ _ _
      subst hT3
      exact sSym_t3 K enc cf g fi ca blk off cap len a m b mid s N w0 X U V Y U1 U2 V1 V2 IH hsz LN LE OR PP d _ hd S1 (by rw [D1.out]; show _ = _; rcases HZ.out with rfl | rfl <;> simp)
  · have p1z : ¬ (s : Int) < (m : Int) := by omega
    have hz : U2 = [] ∨ V1 = [] := by
      by_cases h1 : s < m
      · exact Or.inr (List.eq_nil_of_length_eq_zero (by omega))
      · exact Or.inl (List.eq_nil_of_length_eq_zero (by omega))
    have HZ : Aside _ := hz
    clear hz
    clear n1 n2 n3 n4 n5 n6 n7 n8 n9 n10 n11 n12 n13 n14 n15 n16 n17
    go_wp2
    show Code.wp _ T3 _ _ _
    subst hT3
    exact sSym_t3 K enc cf g fi ca blk off cap len a m b mid s N w0 X U V Y U1 U2 V1 V2 IH hsz LN LE OR PP d _ hd S1 (by rw [D1.out]; show _ = _; rcases HZ.out with rfl | rfl <;> simp)

set_option maxHeartbeats 4000000 in
set_option maxRecDepth 1000000 in
theorem sSym_t1 {α : Type} [Inhabited α] (K : Nat) (enc : α → List Value) (cf : α → α → Int) (g : Nat) (fi ca : Array Value) (blk off cap len a m b mid s N : Nat) (w0 : World) (X U V Y U1 U2 V1 V2 : List α) (IH : Aside (SymSays K enc cf g fi ca blk off cap len w0 N)) (hsz : len < 4611686018427387904)
    (LN : Aside (U1.length = s - a ∧ U2.length = m - s ∧ V1.length = mid - s ∧ V2.length = b - m - (mid - s) ∧ a = X.length ∧ a + 1 < m ∧ m + 1 < b ∧ a < mid ∧ mid < b ∧ a ≤ s ∧ s ≤ m ∧ s ≤ mid ∧ m ≤ mid + m - s ∧ mid + m - s ≤ b ∧ mid ≤ mid + m - s ∧ b ≤ len ∧ b - a ≤ N + 1))
    (LE : Aside (LeA (ltOf cf) (U1 ++ V1) (U2 ++ V2))) (OR : Aside (Ord (ltOf cf) U1 ∧ Ord (ltOf cf) U2 ∧ Ord (ltOf cf) V1 ∧ Ord (ltOf cf) V2)) (PP : Aside ((U1 ++ (V1 ++ (U2 ++ V2))).Perm (U ++ V)))
    (T S : TypeId) (HT : Aside (23 = T)) (HS : Aside (28 = S)) (TY : Aside (TyK Try.prog T S K)) (d0 d : Array α) (w : World) (R : RowK enc K w0 blk off d0) (hs : d0.size = len) (hd : d.size = len) (S1 : Aside (SWB enc K w0 blk off d w)) (D1 : Aside (d.toList = (X ++ U1) ++ (U2 ++ (V1 ++ (V2 ++ Y))))) {u5 u6 u7 u8 u9 u10 u11 u12 u13 u14 u15 u16 u17 u21 u22 u23 u24 u25 u26 u27 u28 u29 u30 u31 u32 u33 u34 u35 u36 u37 u38 u39 u40 u41 u42 u43 u44 u45 u46 u47 u48 u49 u50 u51 u52 u53 u54 u55 u56 u57 u58 u59 u60 u61 u62 u63 u64 u65 u66 u67 u68 u69 u70 u71 u72 u73 u74 u75 u76 u77 u78 u79 u80 u81 u82 u83 u84 u85 u86 u87 u88 u89 u90 u91 u92 u93 u94 u95 u96 u97 u98 u99 u100 u101 u102 u103 u104 u105 u106 u107 u108 u109 u110 u111 u112 u113 u114 u115 u116 u117 u118 u119 u120 u121 u122 u123 u124 u125 u126 u127 u128 u129 u130 u131 u132 u133 u134 u135 u136 u137 u138 u139 u140 u141 u142 u143 u144 u145 u146 u147 u148 u149 u150 u151 u152 u153 u154 u155 u156 u157 u158 u159 u160 u161 u162 u163 u164 u165 u166 u167 u168 u169 u170 u171 u172 u173 u174 u175 u176 u177 u178 u179 u180 u181 u182 u183 u184 u185 u186 u187 u188 u189 u190 u191 u192 u193 u194 u195 u196 u197 u198 u199 u200 u201 u202 u203 u204 u205 u206 u207 u208 u209 u210 u211 u212 u213 u214 u215 u216 u217 u218 u219 : Value} :
    Code.wp Try.prog symT1 (bodyPost Try.prog Try.f45 (fun e w' => e = .returned (.tuple #[]) ∧ ∃ d' Z, d'.toList = X ++ (Z ++ Y) ∧ Z.Perm (U ++ V) ∧ Ord (ltOf cf) Z ∧ d'.size = len ∧ Aside (SWB enc K w0 blk off d' w')))
      { tmps := #[.slice (some ⟨blk, off, none⟩) len cap, .int .i64 a, .int .i64 m, .int .i64 b, .func (.func g) fi ca, u5, u6, u7, u8, u9, u10, u11, u12, u13, u14, u15, u16, u17, .int .i64 mid, .int .i64 ((mid : Int) + (m : Int)), .int .i64 s, u21, u22, u23, u24, u25, u26, u27, u28, u29, u30, u31, u32, u33, u34, u35, u36, u37, u38, u39, u40, u41, u42, u43, u44, u45, u46, u47, u48, u49, u50, u51, u52, u53, u54, u55, u56, u57, u58, u59, u60, u61, u62, u63, u64, u65, u66, u67, u68, u69, u70, u71, u72, u73, u74, u75, u76, u77, u78, u79, u80, u81, u82, u83, u84, u85, u86, u87, u88, u89, u90, u91, u92, u93, u94, u95, u96, u97, u98, u99, u100, u101, u102, u103, u104, u105, u106, u107, u108, u109, u110, u111, u112, u113, u114, u115, u116, u117, u118, u119, u120, u121, u122, u123, u124, u125, u126, u127, u128, u129, u130, u131, u132, u133, u134, u135, u136, u137, u138, u139, u140, u141, u142, u143, u144, u145, u146, u147, u148, u149, u150, u151, u152, u153, u154, u155, u156, u157, u158, u159, u160, u161, u162, u163, u164, u165, u166, u167, u168, u169, u170, u171, u172, u173, u174, u175, u176, u177, u178, u179, u180, u181, u182, u183, u184, u185, u186, u187, u188, u189, u190, u191, u192, u193, u194, u195, u196, u197, u198, u199, u200, u201, u202, u203, u204, u205, u206, u207, u208, u209, u210, u211, u212, u213, u214, u215, u216, u217, u218, u219], defers := [] } w := by
  obtain ⟨n1, n2, n3, n4, n5, n6, n7, n8, n9, n10, n11, n12, n13, n14, n15, n16, n17⟩ := LN.out
  have q11 : IntKind.i64.wrap ((mid : Int) + (m : Int) - (s : Int)) = (mid : Int) + (m : Int) - (s : Int) := by rw [IntKind.wrap_i64]; omega
  rw [symT1_eq]
  refine wp_seq ?_
  generalize hT2 : symT2 = T2
  simp only [leftC, symT1, rightC, Option.getD, Try.f45]
  clear n1 n2 n3 n4 n5 n6 n7 n8 n9 n10 n11 n12 n13 n14 n15 n16 n17
  go_wp2
  show Code.wp _ T2 _ _ _
  subst hT2
  exact sSym_t2 K enc cf g fi ca blk off cap len a m b mid s N w0 X U V Y U1 U2 V1 V2 IH hsz LN LE OR PP T S HT HS TY d0 d _ R hs hd S1 D1

set_option maxHeartbeats 4000000 in
set_option maxRecDepth 1000000 in
theorem sSym_both {α : Type} [Inhabited α] (T S : TypeId) (hT : 23 = T) (hS : 28 = S) (K : Nat) (ty : TyK Try.prog T S K) (enc : α → List Value) (cf : α → α → Int) (hO : SWO (ltOf cf)) (g : Nat) (fi ca : Array Value) (eg : ∀ args w, (callFunc g args).run Try.prog w = .ok (.enter g args) w) (blk off cap len a m b : Nat) (az mz bz : Int) (d0 d : Array α) (w0 w : World) (X U V Y : List α) (ha' : az = a) (hm' : mz = m) (hb' : bz = b) (hlen : d.size = len) (W : SWB enc K w0 blk off d w) (hd : d.toList = X ++ (U ++ (V ++ Y))) (ha : a = X.length) (hm : m = a + U.length) (hb : b = m + V.length)
    (hcmp : CmpF Try.prog g fi ca enc K cf blk off len w0) (R : RowK enc K w0 blk off d0) (hs : d0.size = len) (hU1 : 1 < U.length) (hV1 : 1 < V.length) (hU : Ord (ltOf cf) U) (hV : Ord (ltOf cf) V) (hsz : len < 4611686018427387904)
    (N : Nat) (hN : b - a ≤ N + 1) (ih : SymSays K enc cf g fi ca blk off cap len w0 N) :
    Calls Try.prog 45 #[.slice (some ⟨blk, off, none⟩) len cap, .int .i64 az, .int .i64 mz, .int .i64 bz, .func (.func g) fi ca] w fun e w' => e = .returned (.tuple #[]) ∧ ∃ d' Z, d'.toList = X ++ (Z ++ Y) ∧ Z.Perm (U ++ V) ∧ Ord (ltOf cf) Z ∧ d'.size = len ∧ Aside (SWB enc K w0 blk off d' w') := by
  subst ha' hm' hb'
  have HT : Aside (23 = T) := hT
  have HS : Aside (28 = S) := hS
  have TY : Aside (TyK Try.prog T S K) := ty
  have IH : Aside _ := ih
  obtain ⟨tA, tZ, tS⟩ := ty
  have tU := run_underlying tS
  have mixed : Try.prog.follows .mixedOrders = true := by kernel_rfl
  have HC : Aside _ := hcmp
  have hbl : b ≤ len := by rw [← hlen, size_split hd]; simp; omega
  have ham : a + 1 < m := by omega
  have hmb : m + 1 < b := by omega
  obtain ⟨mid, hmid⟩ : ∃ mid, mid = (a + b) / 2 := ⟨_, rfl⟩
  obtain ⟨lo, hi, hH⟩ := Halves.get (a := a) (m := m) (b := b) (by omega) (by omega) hmid
  obtain ⟨g1, g2, g3, g4, g5, g6, g7⟩ := hH.bd
  have g8 : a < mid := by omega
  have MM : Aside (Mono (fun c => !(ltOf cf d[mid + m - 1 - c]! d[c]!)) lo hi) := mono3 hO hd hU hV ha hm hb hH
  have H0 : Aside (d.toList = X ++ (U ++ (V ++ Y)) ∧ a = X.length ∧ m = a + U.length ∧ b = m + V.length ∧ Ord (ltOf cf) U ∧ Ord (ltOf cf) V ∧ Halves a m b lo hi mid) := ⟨hd, ha, hm, hb, hU, hV, hH⟩
  have S0 : Aside (SWB enc K w0 blk off d w) := W
  have hda : d.size = len := hlen
  have q0 : IntKind.i64.wrap ((m : Int) - (a : Int)) = (m : Int) - (a : Int) := by rw [IntKind.wrap_i64]; omega
  have q1 : ((m : Int) - (a : Int) == 1) = false := by simp; omega
  have q2 : IntKind.i64.wrap ((b : Int) - (m : Int)) = (b : Int) - (m : Int) := by rw [IntKind.wrap_i64]; omega
  have q3 : ((b : Int) - (m : Int) == 1) = false := by simp; omega
  have q4 : IntKind.i64.wrap ((a : Int) + (b : Int)) = (a : Int) + (b : Int) := by rw [IntKind.wrap_i64]; omega
  have q5 : IntKind.u64.wrap ((a : Int) + (b : Int)) = (a : Int) + (b : Int) := wrap_u64_id (by omega) (by omega)
  have q6 : ((a : Int) + (b : Int)) / 2 = (mid : Int) := by omega
  have q7 : IntKind.i64.wrap (mid : Int) = (mid : Int) := by rw [IntKind.wrap_i64]; omega
  have q8 : IntKind.i64.wrap ((mid : Int) + (m : Int)) = (mid : Int) + (m : Int) := by rw [IntKind.wrap_i64]; omega
  have q9 : IntKind.i64.wrap ((mid : Int) + (m : Int) - (b : Int)) = (mid : Int) + (m : Int) - (b : Int) := by rw [IntKind.wrap_i64]; omega
  have q10 : IntKind.i64.wrap ((mid : Int) + (m : Int) - 1) = (mid : Int) + (m : Int) - 1 := by rw [IntKind.wrap_i64]; omega
  have B0 : Aside (BS (fun c => !(ltOf cf d[mid + m - 1 - c]! d[c]!)) lo hi lo hi) := BS.start _ g2
  clear W hd ha hb hm hcmp hlen hU hV hU1 hV1 hmid hH ih
  go_enter Try.func45, Try.ntmps45
  simp only [load_T hT, store_T hT, index_T hS]
  clear hT hS
  show Code.wp _ (Code.seq _ (Code.seq _ (Code.seq _ (Code.seq _ (Code.seq _ (Code.seq _ (Code.seq _ (Code.seq _ symT1)))))))) _ _ _
  generalize hT1 : symT1 = T1
  go_upto_if 140 with fail
  go_cut [20, 21] (fun s r wx => s = .int .i64 (lo : Nat) ∧ r = .int .i64 (hi : Nat) ∧ wx = w)
  case first =>
    rcases H0.out.2.2.2.2.2.2.hc with ⟨x1, x2, x3⟩ | ⟨x1, x2, x3⟩
    · have x1z : (mid : Int) < (m : Int) := by omega
      have e1 : (mid : Int) + (m : Int) - (b : Int) = (lo : Int) := by omega
      have e2 : (mid : Int) = (hi : Int) := by omega
      have E1 : Aside _ := e1
      have E2 : Aside _ := e2
      clear x2 x3 e1 e2
      go_wp2_with fail
      go_meet
      exact ⟨by rw [E1.out], by rw [E2.out], rfl⟩
    · have x1z : ¬ (mid : Int) < (m : Int) := by omega
      have E1 : Aside (lo = a) := x2
      have E2 : Aside (hi = m) := x3
      clear x2 x3
      go_wp2_with fail
      go_meet
      exact ⟨by rw [E1.out], by rw [E2.out], rfl⟩
  case rest =>
    obtain ⟨rfl, rfl, rfl⟩ := hcut
    go_wp2
    go_loopg [20, 21] (hi - lo) (fun kx s20 s21 wr => ∃ (i j : Nat), s20 = .int .i64 i ∧ s21 = .int .i64 j ∧ lo ≤ i ∧ i ≤ j ∧ j ≤ hi ∧ j - i ≤ kx ∧ Aside (SWB enc K w0 blk off d wr) ∧ Aside (BS (fun c => !(ltOf cf d[mid + m - 1 - c]! d[c]!)) lo hi i j))
    case atStart => exact ⟨lo, hi, rfl, rfl, by omega, by omega, by omega, by omega, S0, B0⟩
    case round =>
      clear S0 B0 q0 q1 q2 q3 q4 q5 q6 q7 q9 q10
      obtain ⟨i, j, rfl, rfl, hmi, hij, hjb, hkx, S1, B1⟩ := hrel
      by_cases hlt : i < j
      · obtain ⟨h, hh⟩ : ∃ h, h = (i + j) / 2 := ⟨_, rfl⟩
        have hh1 : i ≤ h ∧ h < j := by omega
        have qa : IntKind.i64.wrap ((i : Int) + (j : Int)) = (i : Int) + (j : Int) := by rw [IntKind.wrap_i64]; omega
        have qb : IntKind.u64.wrap ((i : Int) + (j : Int)) = (i : Int) + (j : Int) := wrap_u64_id (by omega) (by omega)
        have qc : ((i : Int) + (j : Int)) / 2 = (h : Int) := by omega
        have qd : IntKind.i64.wrap (h : Int) = (h : Int) := by rw [IntKind.wrap_i64]; omega
        have hijz : (i : Int) < (j : Int) := by omega
        clear hh
        obtain ⟨p, hp⟩ : ∃ p, p = mid + m - 1 - h := ⟨_, rfl⟩
        have hpz : (mid : Int) + (m : Int) - 1 - (h : Int) = (p : Int) := by omega
        have hpl : p < len := by omega
        have HP : Aside (p = mid + m - 1 - h) := hp
        clear hp
        cases hL : ltOf cf d[p]! d[h]! with
        | true =>
          have ea4 : ((p : Int)).toNat = p := by omega
          have pa4 : (0 : Int) ≤ (p : Int) := by omega
          have ba4 : (p : Int) < (len : Int) := by omega
          have ra4 : IntKind.i64.wrap ((p : Int)) = (p : Int) := by rw [IntKind.wrap_i64]; omega
          have ec4 : ((h : Int)).toNat = h := by omega
          have pc4 : (0 : Int) ≤ (h : Int) := by omega
          have bc4 : (h : Int) < (len : Int) := by omega
          have rc4 : IntKind.i64.wrap ((h : Int)) = (h : Int) := by rw [IntKind.wrap_i64]; omega
          obtain ⟨x4, hx4⟩ : ∃ x, x = d[p]! := ⟨_, rfl⟩
          obtain ⟨y4, hy4⟩ : ∃ x, x = d[h]! := ⟨_, rfl⟩
          have L4 : Aside (∀ n : In wr, Sem.run Try.prog (loadCellsFrom ⟨blk, off + (p) * K, none⟩ 0 K #[]) n.w = .ok (enc x4).toArray n.w ∧ Sem.run Try.prog (loadCellsFrom ⟨blk, off + (h) * K, none⟩ 0 K #[]) n.w = .ok (enc y4).toArray n.w ∧ Calls Try.prog g (fi ++ (#[.agg (enc x4).toArray, .agg (enc y4).toArray] ++ ca)) n.w fun e w' => e = .returned (.int .i64 (cf x4 y4)) ∧ Below n.w.heap.size n.w w') := fun n => ⟨by rw [hx4]; exact (S1.out.at R n).load R Try.prog (p) (by omega), by rw [hy4]; exact (S1.out.at R n).load R Try.prog (h) (by omega), HC.out _ _ (S1.out.at R n) (by omega) x4 y4⟩
          have hv4 : cf x4 y4 < 0 := by rw [hx4, hy4]; exact of_decide_eq_true hL
          have hd4 : decide (cf x4 y4 < 0) = true := decide_eq_true hv4
          clear hx4 hy4
          go_wp2_with fail
          refine wp_region_calm0 (by kernel_rfl) (by kernel_rfl) fun M => ?_
          have l4a := fun n : In M.w => (L4.out (In.within (m := M) n)).1
          have l4b := fun n : In M.w => (L4.out (In.within (m := M) n)).2.1
          have hc4 := fun n : In M.w => (L4.out (In.within (m := M) n)).2.2
          simp only [In.within] at l4a l4b hc4
          repeat (go_big_quiet_step ((go_at_fn g; exact In.call (hc4 _))))
          refine wpQuiet_nil ?_
          intro w2 hb4
          have S2 : Aside (SWB enc K w0 blk off d w2) := S1.out.below R hb4
          clear L4 l4a l4b hc4 S1 hb4 M
          go_wp2
          go_roundg (h - i)
          case measure => omega
          case rel => exact ⟨i, h, rfl, rfl, by omega, hh1.1, by omega, Nat.le_refl _, S2, B1.out.dn MM.out hh1.1 hh1.2 (by simp only [← HP.out, hL]; rfl)⟩
        | false =>
          have ea5 : ((p : Int)).toNat = p := by omega
          have pa5 : (0 : Int) ≤ (p : Int) := by omega
          have ba5 : (p : Int) < (len : Int) := by omega
          have ra5 : IntKind.i64.wrap ((p : Int)) = (p : Int) := by rw [IntKind.wrap_i64]; omega
          have ec5 : ((h : Int)).toNat = h := by omega
          have pc5 : (0 : Int) ≤ (h : Int) := by omega
          have bc5 : (h : Int) < (len : Int) := by omega
          have rc5 : IntKind.i64.wrap ((h : Int)) = (h : Int) := by rw [IntKind.wrap_i64]; omega
          obtain ⟨x5, hx5⟩ : ∃ x, x = d[p]! := ⟨_, rfl⟩
          obtain ⟨y5, hy5⟩ : ∃ x, x = d[h]! := ⟨_, rfl⟩
          have L5 : Aside (∀ n : In wr, Sem.run Try.prog (loadCellsFrom ⟨blk, off + (p) * K, none⟩ 0 K #[]) n.w = .ok (enc x5).toArray n.w ∧ Sem.run Try.prog (loadCellsFrom ⟨blk, off + (h) * K, none⟩ 0 K #[]) n.w = .ok (enc y5).toArray n.w ∧ Calls Try.prog g (fi ++ (#[.agg (enc x5).toArray, .agg (enc y5).toArray] ++ ca)) n.w fun e w' => e = .returned (.int .i64 (cf x5 y5)) ∧ Below n.w.heap.size n.w w') := fun n => ⟨by rw [hx5]; exact (S1.out.at R n).load R Try.prog (p) (by omega), by rw [hy5]; exact (S1.out.at R n).load R Try.prog (h) (by omega), HC.out _ _ (S1.out.at R n) (by omega) x5 y5⟩
          have hv5 : ¬ cf x5 y5 < 0 := by rw [hx5, hy5]; exact of_decide_eq_false hL
          have hd5 : decide (cf x5 y5 < 0) = false := decide_eq_false hv5
          clear hx5 hy5
          go_wp2_with fail
          refine wp_region_calm0 (by kernel_rfl) (by kernel_rfl) fun M => ?_
          have l5a := fun n : In M.w => (L5.out (In.within (m := M) n)).1
          have l5b := fun n : In M.w => (L5.out (In.within (m := M) n)).2.1
          have hc5 := fun n : In M.w => (L5.out (In.within (m := M) n)).2.2
          simp only [In.within] at l5a l5b hc5
          repeat (go_big_quiet_step ((go_at_fn g; exact In.call (hc5 _))))
          refine wpQuiet_nil ?_
          intro w2 hb5
          have S2 : Aside (SWB enc K w0 blk off d w2) := S1.out.below R hb5
          clear L5 l5a l5b hc5 S1 hb5 M
          go_wp2
          go_roundg (j - (h + 1))
          case measure => omega
          case rel => exact ⟨h + 1, j, by go_num, rfl, by omega, by omega, hjb, Nat.le_refl _, S2, B1.out.up MM.out hh1.1 hh1.2 (by simp only [← HP.out, hL]; rfl)⟩
      · have hijz : ¬ (i : Int) < (j : Int) := by omega
        have : i = j := by omega
        subst this
        obtain ⟨s, hs0⟩ : ∃ s, s = i := ⟨_, rfl⟩
        subst hs0
        obtain ⟨e0, e1, e2, e3, e4, e5, e6⟩ := H0.out
        obtain ⟨k1, k2, k3, k4, k5, k6⟩ := cut_bd e6 B1.out
        have LE : Aside (LeA (ltOf cf) (U.take (s - a) ++ V.take (mid - s)) (U.drop (s - a) ++ V.drop (mid - s))) := cut_le hO e0 e4 e5 e1 e2 e3 e6 B1.out
        have OR : Aside (Ord (ltOf cf) (U.take (s - a)) ∧ Ord (ltOf cf) (U.drop (s - a)) ∧ Ord (ltOf cf) (V.take (mid - s)) ∧ Ord (ltOf cf) (V.drop (mid - s))) := by
          have f1 : Ord (ltOf cf) (U.take (s - a) ++ U.drop (s - a)) := by rw [List.take_append_drop]; exact e4
          have f2 : Ord (ltOf cf) (V.take (mid - s) ++ V.drop (mid - s)) := by rw [List.take_append_drop]; exact e5
          exact ⟨(Ord.app.1 f1).1, (Ord.app.1 f1).2.1, (Ord.app.1 f2).1, (Ord.app.1 f2).2.1⟩
        have LN : Aside ((U.take (s - a)).length = s - a ∧ (U.drop (s - a)).length = m - s ∧ (V.take (mid - s)).length = mid - s ∧ (V.drop (mid - s)).length = b - m - (mid - s) ∧ a = X.length) := by
          refine ⟨?_, ?_, ?_, ?_, e1⟩ <;> simp <;> omega
        have PP : Aside ((U.take (s - a) ++ (V.take (mid - s) ++ (U.drop (s - a) ++ V.drop (mid - s)))).Perm (U ++ V)) := by
          have f1 := List.take_append_drop (s - a) U
          have f2 := List.take_append_drop (mid - s) V
          have f3 : (U ++ V) = U.take (s - a) ++ (U.drop (s - a) ++ (V.take (mid - s) ++ V.drop (mid - s))) := by rw [f2, ← List.append_assoc, f1]
          rw [f3]
          refine List.Perm.append_left _ ?_
          rw [← List.append_assoc, ← List.append_assoc]
          exact List.Perm.append_right _ List.perm_append_comm
        have D1 : Aside (d.toList = (X ++ U.take (s - a)) ++ (U.drop (s - a) ++ (V.take (mid - s) ++ (V.drop (mid - s) ++ Y)))) := by
          have f1 := List.take_append_drop (s - a) U
          have f2 := List.take_append_drop (mid - s) V
          rw [e0]; show _ = _
          conv => lhs; rw [← f1, ← f2]
          simp only [List.append_assoc]
        generalize U.take (s - a) = U1 at LE OR LN PP D1
        generalize U.drop (s - a) = U2 at LE OR LN PP D1
        generalize V.take (mid - s) = V1 at LE OR LN PP D1
        generalize V.drop (mid - s) = V2 at LE OR LN PP D1
        have LN2 : Aside (U1.length = s - a ∧ U2.length = m - s ∧ V1.length = mid - s ∧ V2.length = b - m - (mid - s) ∧ a = X.length ∧ a + 1 < m ∧ m + 1 < b ∧ a < mid ∧ mid < b ∧ a ≤ s ∧ s ≤ m ∧ s ≤ mid ∧ m ≤ mid + m - s ∧ mid + m - s ≤ b ∧ mid ≤ mid + m - s ∧ b ≤ len ∧ b - a ≤ N + 1) := by
          obtain ⟨n1, n2, n3, n4, n5⟩ := LN.out
          exact ⟨n1, n2, n3, n4, n5, ham, hmb, g8, g5, k1, k2, k3, k4, k5, k6, hbl, hN⟩
        clear e0 e1 e2 e3 e4 e5 e6 B1 MM H0 hij hkx hmi hjb hlt
        go_wp2
        subst hT1
        exact sSym_t1 K enc cf g fi ca blk off cap len a m b mid s N w0 X U V Y U1 U2 V1 V2 IH hsz LN2 LE OR PP T S HT HS TY d0 d _ R hs hda S1 D1

set_option maxHeartbeats 4000000 in
set_option maxRecDepth 1000000 in
theorem sSymMerge_any {α : Type} [Inhabited α] (T S : TypeId) (hT : 23 = T) (hS : 28 = S) (K : Nat) (ty : TyK Try.prog T S K) (enc : α → List Value) (cf : α → α → Int) (hO : SWO (ltOf cf)) (g : Nat) (fi ca : Array Value) (eg : ∀ args w, (callFunc g args).run Try.prog w = .ok (.enter g args) w) (blk off cap len : Nat) (d0 : Array α) (w0 : World) (hcmp : CmpF Try.prog g fi ca enc K cf blk off len w0) (R : RowK enc K w0 blk off d0) (hs : d0.size = len) (hsz : len < 4611686018427387904) :
    ∀ N, SymSays K enc cf g fi ca blk off cap len w0 N := by
  intro N
  induction N with
  | zero => intro a m b az mz bz d w X U V Y h1 h2 h3 h4 h5 h6 h7 h8 h9 h10 h11 h12 h13 h14; omega
  | succ N ih =>
    intro a m b az mz bz d w X U V Y h1 h2 h3 h4 h5 h6 h7 h8 h9 h10 h11 h12 h13 h14
    by_cases c1 : U.length = 1
    · exact sSym_one T S hT hS K ty enc cf hO g fi ca eg blk off cap len a m b az mz bz d0 d w0 w X U V Y h1 h2 h3 h4 h5 h6 h7 h8 h9 hcmp R hs c1 h11 h13 hsz
    · by_cases c2 : V.length = 1
      · exact sSym_last T S hT hS K ty enc cf hO g fi ca eg blk off cap len a m b az mz bz d0 d w0 w X U V Y h1 h2 h3 h4 h5 h6 h7 h8 h9 hcmp R hs (by omega) c2 h12 hsz
      · exact sSym_both T S hT hS K ty enc cf hO g fi ca eg blk off cap len a m b az mz bz d0 d w0 w X U V Y h1 h2 h3 h4 h5 h6 h7 h8 h9 hcmp R hs (by omega) (by omega) h12 h13 hsz N h14 ih
end Go.Proofs.Ytoepodjpempcdaa
