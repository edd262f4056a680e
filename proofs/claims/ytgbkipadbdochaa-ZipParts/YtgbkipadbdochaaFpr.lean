/-
  ZipParts: what its walk leans on, and the walk of its last region.
-/
import Derived.Test.YtgbkipadbdochaaZpa
import Derived.BigQuiet
namespace Go.Proofs.Ytgbkipadbdochaa
open Go.RowKit
set_option linter.unusedVariables false
set_option linter.unusedSimpArgs false

/-- What is known of the i-th entry's parts in the archive S. -/
structure PartAt (S : ByteArray) (es : List It) (i A B : Nat) (e : Ent) (C D T4 : ByteArray) : Prop where
  x1 : (S.extract A (A + 4)).toList == [80, 75, 3, 4]
  x2 : S.extract (A + 30) (A + 30 + e.nm.size) = e.nm
  x3 : S.extract (A + (30 + e.nm.size + 26)) (A + (30 + e.nm.size + 26) + e.pk.size) = e.pk
  x4 : (S.extract B (B + 4)).toList == [80, 75, 1, 2]
  x5 : S.extract (B + 42) (B + 46) = T4
  x6 : S.extract (B + 6) (B + 32) = C
  x7 : S.extract (A + 4) (A + 30) = C
  x8 : S.extract (B + 46) (B + 46 + e.nm.size + 26) = D
  x9 : S.extract (A + 30) (A + (30 + e.nm.size + 26)) = D
theorem part_at {es : List It} (hw : writeB es = true) (i : Nat) (hi : i < es.length) :
    PartAt (zipT es) es i (firsts (es.take i)).length ((firsts es).length + (seconds 0 (es.take i)).length) es[i].1 (textOf (commonL es[i].1)) (textOf (calledL es[i])) (textOf (le 4 (firsts (es.take i)).length)) := by
  have hh := writeB_held hw _ (List.getElem_mem hi)
  have hT : zipT es = textOf (zipL es) := by rw [zipT, hw, cond_true]
  obtain ⟨Q1, q1⟩ := zip_first i hi
  obtain ⟨Q2, q2⟩ := zip_second i hi
  obtain ⟨f1, f2, f3, f4, f5⟩ := first_pieces hh
  obtain ⟨s1, s2, s3, s4⟩ := second_pieces hh (firsts (es.take i)).length
  have l1 := firstL_len hh
  have l2 := secondL_len hh (firsts (es.take i)).length
  have cutA := fun u v (hv : v ≤ (firstL es[i]).length) => cut_at _ _ _ _ q1 (firsts (es.take i)).length u v rfl hv
  have cutB := fun u v (hv : v ≤ (secondL es[i] (firsts (es.take i)).length).length) => cut_at _ _ _ _ q2 ((firsts es).length + (seconds 0 (es.take i)).length) u v (by rw [List.length_append]) hv
  rw [← hT] at cutA cutB
  generalize (firsts (es.take i)).length = A at *
  generalize (firsts es).length + (seconds 0 (es.take i)).length = B at *
  refine ⟨?_, ?_, ?_, ?_, ?_, ?_, ?_, ?_, ?_⟩
  · have := cutA 0 4 (by omega)
    rw [f1, Nat.add_zero] at this
    rw [this, toList_data]; rfl
  · have := cutA 30 (30 + es[i].1.nm.size) (by omega)
    rw [f3, textOf_bytes, ← Nat.add_assoc] at this
    exact this
  · have := cutA (56 + es[i].1.nm.size) (56 + es[i].1.nm.size + es[i].1.pk.size) (by omega)
    rw [f5, textOf_bytes] at this
    rw [show 30 + es[i].1.nm.size + 26 = 56 + es[i].1.nm.size by omega, Nat.add_assoc A]
    exact this
  · have := cutB 0 4 (by omega)
    rw [s1, Nat.add_zero] at this
    rw [this, toList_data]; rfl
  · have := cutB 42 46 (by omega)
    rw [s3] at this
    exact this
  · have := cutB 6 32 (by omega)
    rw [s2] at this
    exact this
  · have := cutA 4 30 (by omega)
    rw [f2] at this
    exact this
  · have := cutB 46 (72 + es[i].1.nm.size) (by omega)
    rw [s4] at this
    rw [show B + 46 + es[i].1.nm.size + 26 = B + (72 + es[i].1.nm.size) by omega]
    exact this
  · have := cutA 30 (56 + es[i].1.nm.size) (by omega)
    rw [f4] at this
    rw [show 30 + es[i].1.nm.size + 26 = 56 + es[i].1.nm.size by omega]
    exact this
theorem ftake_mono {es : List It} (h : ∀ x ∈ es, heldB x = true) (i : Nat) (hi : i < es.length) : (firsts (es.take (i + 1))).length = (firsts (es.take i)).length + (30 + es[i].1.nm.size + 26) + es[i].1.pk.size ∧ (firsts (es.take (i + 1))).length ≤ (firsts es).length ∧ (seconds 0 (es.take (i + 1))).length = (seconds 0 (es.take i)).length + 46 + es[i].1.nm.size + 26 ∧ (seconds 0 (es.take (i + 1))).length ≤ (seconds 0 es).length := by
  have hh := h _ (List.getElem_mem hi)
  refine ⟨by rw [firsts_take i hi, List.length_append, firstL_len hh]; omega, ?_, by rw [seconds_take i hi, List.length_append, secondL_len hh]; omega, ?_⟩
  · conv => rhs; rw [← List.take_append_drop (i + 1) es, firsts_append, List.length_append]
    omega
  · conv => rhs; rw [← List.take_append_drop (i + 1) es, seconds_append, List.length_append]
    omega

theorem wrap_sm (x : Int) (h0 : 0 ≤ x) (h1 : x ≤ 100000) : IntKind.i64.wrap x = x := by
  simp only [IntKind.wrap, IntKind.bits, IntKind.signed]; simp; omega
theorem pos_facts (A B n q z A4 A30 A3n Ak Aq B4 B42 B46 B6 B32 Bn Bk : Nat) (h1 : A + (30 + n + 26) + q ≤ z) (h2 : B + 46 + n + 26 ≤ z) (h3 : z ≤ 4096) (hA4 : A + 4 = A4) (hA30 : A + 30 = A30) (hA3n : A30 + n = A3n) (hAk : A + (30 + n + 26) = Ak) (hAq : Ak + q = Aq) (hB4 : B + 4 = B4) (hB42 : B + 42 = B42) (hB46 : B + 46 = B46) (hB6 : B + 6 = B6) (hB32 : B + 32 = B32) (hBn : B46 + n = Bn) (hBk : Bn + 26 = Bk) :
    (IntKind.i64.wrap ((A : Int) + 4) = (A4 : Int)) ∧ (IntKind.i64.wrap ((A : Int) + 30) = (A30 : Int)) ∧ (IntKind.i64.wrap ((A30 : Int) + (n : Int)) = (A3n : Int)) ∧ (IntKind.i64.wrap ((A : Int) + (30 + (n : Int) + 26)) = (Ak : Int)) ∧ (IntKind.i64.wrap ((Ak : Int) + (q : Int)) = (Aq : Int)) ∧ (IntKind.i64.wrap ((B : Int) + 4) = (B4 : Int)) ∧ (IntKind.i64.wrap ((B : Int) + 42) = (B42 : Int)) ∧ (IntKind.i64.wrap ((B : Int) + 46) = (B46 : Int)) ∧ (IntKind.i64.wrap ((B : Int) + 6) = (B6 : Int)) ∧ (IntKind.i64.wrap ((B : Int) + 32) = (B32 : Int)) ∧ (IntKind.i64.wrap ((B46 : Int) + (n : Int)) = (Bn : Int)) ∧ (IntKind.i64.wrap ((Bn : Int) + 26) = (Bk : Int)) ∧ ((A : Int) ≤ (A4 : Int)) ∧ ((A30 : Int) ≤ (A3n : Int)) ∧ ((Ak : Int) ≤ (Aq : Int)) ∧ ((B : Int) ≤ (B4 : Int)) ∧ ((B42 : Int) ≤ (B46 : Int)) ∧ ((B6 : Int) ≤ (B32 : Int)) ∧ ((A4 : Int) ≤ (A30 : Int)) ∧ ((B46 : Int) ≤ (Bk : Int)) ∧ ((A30 : Int) ≤ (Ak : Int)) ∧ ((A4 : Int) ≤ (z : Int)) ∧ ((A3n : Int) ≤ (z : Int)) ∧ ((Aq : Int) ≤ (z : Int)) ∧ ((B4 : Int) ≤ (z : Int)) ∧ ((B46 : Int) ≤ (z : Int)) ∧ ((B32 : Int) ≤ (z : Int)) ∧ ((A30 : Int) ≤ (z : Int)) ∧ ((Bk : Int) ≤ (z : Int)) ∧ ((Ak : Int) ≤ (z : Int)) ∧ ((0 : Int) ≤ (A : Int)) ∧ ((0 : Int) ≤ (A30 : Int)) ∧ ((0 : Int) ≤ (Ak : Int)) ∧ ((0 : Int) ≤ (B : Int)) ∧ ((0 : Int) ≤ (B42 : Int)) ∧ ((0 : Int) ≤ (B6 : Int)) ∧ ((0 : Int) ≤ (A4 : Int)) ∧ ((0 : Int) ≤ (B46 : Int)) := by
  refine ⟨?_, ?_, ?_, ?_, ?_, ?_, ?_, ?_, ?_, ?_, ?_, ?_, ?_, ?_, ?_, ?_, ?_, ?_, ?_, ?_, ?_, ?_, ?_, ?_, ?_, ?_, ?_, ?_, ?_, ?_, ?_, ?_, ?_, ?_, ?_, ?_, ?_, ?_⟩
  · rw [wrap_sm _ (by omega) (by omega)]; omega
  · rw [wrap_sm _ (by omega) (by omega)]; omega
  · rw [wrap_sm _ (by omega) (by omega)]; omega
  · rw [wrap_sm _ (by omega) (by omega)]; omega
  · rw [wrap_sm _ (by omega) (by omega)]; omega
  · rw [wrap_sm _ (by omega) (by omega)]; omega
  · rw [wrap_sm _ (by omega) (by omega)]; omega
  · rw [wrap_sm _ (by omega) (by omega)]; omega
  · rw [wrap_sm _ (by omega) (by omega)]; omega
  · rw [wrap_sm _ (by omega) (by omega)]; omega
  · rw [wrap_sm _ (by omega) (by omega)]; omega
  · rw [wrap_sm _ (by omega) (by omega)]; omega
  · omega
  · omega
  · omega
  · omega
  · omega
  · omega
  · omega
  · omega
  · omega
  · omega
  · omega
  · omega
  · omega
  · omega
  · omega
  · omega
  · omega
  · omega
  · omega
  · omega
  · omega
  · omega
  · omega
  · omega
  · omega
  · omega


/-- A region of a text of code. -/
def regOf (n : Nat) : Code → Option Code
  | .region k ops d => if k = n then some (.region k ops d) else none
  | .loop c => regOf n c
  | .seq a b => match regOf n a with
    | some c => some c
    | none => regOf n b
  | .block _ c => regOf n c
  | .scope c => regOf n c
  | .cond _ a b => match regOf n a with
    | some c => some c
    | none => regOf n b
  | _ => none

set_option maxHeartbeats 16000000 in
set_option maxRecDepth 1000000 in
theorem reg20 {S nm pk C D T4 : ByteArray} {A B b5 : Nat} {w : World} {Q : Exit → Act → World → Prop} {u0 u1 u2 u4 u5 u6 u9 u12 u13 u14 u15 u16 u17 u18 u19 u20 u21 u22 u23 u24 u25 u26 u27 u28 u29 u30 u31 u32 u33 u34 u35 u36 u37 u38 u39 u40 u41 u42 u43 u44 u45 u46 u47 u48 u49 u50 u51 u52 u53 u54 u55 u56 u57 u58 u59 u60 u61 u62 u63 u64 u65 u66 u67 u68 u69 u70 u71 u72 u73 u74 u75 u76 u77 u78 u79 u80 u81 u82 u83 u84 u85 u86 u87 u88 u89 u90 u91 u92 u93 u94 u95 u96 u97 u98 u99 u100 u101 u102 u103 u104 u105 u106 u107 u108 u109 u110 u111 u112 u113 u114 u115 u116 u117 u118 u119 u120 u121 u122 u123 u124 u125 u126 u127 u128 u129 u130 u131 u132 u133 u134 u135 u136 u137 u138 u139 u140 u141 u142 u143 u144 u145 u146 u147 u148 u149 u150 u151 u152 u153 u154 u155 u156 u157 u158 u159 u160 u161 u162 u163 u164 u165 u166 u167 u168 u169 u170 u171 u172 u173 u174 u175 u176 u177 u178 u179 u180 u181 u182 u183 u184 u185 u186 u187 u188 u189 u190 u191 u192 u193 u194 u195 u196 u197 u198 u199 u200 u201 u202 u203 u204 u205 u206 u207 u208 u209 u210 u211 u212 u213 u214 u215 u216 u217 u218 u219 u220 u221 u222 u223 u224 u225 : Value}
    (x1 : ((S.extract A (A + 4)).toList == [80, 75, 3, 4]) = true) (x2 : S.extract (A + 30) (A + 30 + nm.size) = nm) (x3 : S.extract (A + (30 + nm.size + 26)) (A + (30 + nm.size + 26) + pk.size) = pk) (x4 : ((S.extract B (B + 4)).toList == [80, 75, 1, 2]) = true) (x5 : S.extract (B + 42) (B + 46) = T4) (x6 : S.extract (B + 6) (B + 32) = C) (x7 : S.extract (A + 4) (A + 30) = C) (x8 : S.extract (B + 46) (B + 46 + nm.size + 26) = D) (x9 : S.extract (A + 30) (A + (30 + nm.size + 26)) = D)
    (g1 : A + (30 + nm.size + 26) + pk.size ≤ S.size) (g2 : B + 46 + nm.size + 26 ≤ S.size) (g3 : S.size ≤ 4096)
    (HN4 : Hid (∀ w', Calls Try.prog 11 #[.string T4] w' fun r w'' => r = .returned (.int .i64 (A : Int)) ∧ w'' = w'))
    (c0 : w.cell? ⟨b5, 0, none⟩ = some (.string nm)) (c6 : w.cell? ⟨b5, 6, none⟩ = some (.string pk))
    (h : ∀ (n : Nat) (v109 v110 v111 v112 v113 v114 v115 v116 v117 v118 v119 v120 v121 v122 v123 v124 v125 v126 v127 v128 v129 v130 v131 v132 v133 v134 v135 v136 v137 v138 v139 v140 v141 v142 v143 v144 v145 v146 v147 v148 v149 v150 v151 v152 v153 v154 v155 v156 v157 v158 v159 v160 v161 v162 v163 v164 v165 v166 v167 v168 v169 v170 v171 v172 v173 v174 v175 v176 v177 v178 v179 v180 v181 v182 v183 v184 v185 v186 v187 v188 v189 v190 v191 v192 v193 v194 v195 v196 v197 v198 v199 v200 : Value), Q .normal ⟨#[u0, u1, u2, .string S, u4, u5, u6, .int .i64 (A : Int), .int .i64 (B : Int), u9, .pointer (some ⟨b5, 0, none⟩), .int .i64 (30 + (nm.size : Int) + 26), u12, u13, u14, u15, u16, u17, u18, u19, u20, u21, u22, u23, u24, u25, u26, u27, u28, u29, u30, u31, u32, u33, u34, u35, u36, u37, u38, u39, u40, u41, u42, u43, u44, u45, u46, u47, u48, u49, u50, u51, u52, u53, u54, u55, u56, u57, u58, u59, u60, u61, u62, u63, u64, u65, u66, u67, u68, u69, u70, u71, u72, u73, u74, u75, u76, u77, u78, u79, u80, u81, u82, u83, u84, u85, u86, u87, u88, u89, u90, u91, u92, u93, u94, u95, u96, u97, u98, u99, u100, u101, u102, u103, u104, u105, u106, u107, u108, v109, v110, v111, v112, v113, v114, v115, v116, v117, v118, v119, v120, v121, v122, v123, v124, v125, v126, v127, v128, v129, v130, v131, v132, v133, v134, v135, v136, v137, v138, v139, v140, v141, v142, v143, v144, v145, v146, v147, v148, v149, v150, v151, v152, v153, v154, v155, v156, v157, v158, v159, v160, v161, v162, v163, v164, v165, v166, v167, v168, v169, v170, v171, v172, v173, v174, v175, v176, v177, v178, v179, v180, v181, v182, v183, v184, v185, v186, v187, v188, v189, v190, v191, v192, v193, v194, v195, v196, v197, v198, v199, v200, .bool false, u202, u203, u204, u205, u206, u207, u208, u209, u210, u211, u212, u213, u214, u215, u216, u217, u218, u219, u220, u221, u222, u223, u224, u225], []⟩ (w.drewN n)) :
    Code.wp Try.prog ((Try.f3.body.bind (regOf 20)).getD .skip) Q ⟨#[u0, u1, u2, .string S, u4, u5, u6, .int .i64 (A : Int), .int .i64 (B : Int), u9, .pointer (some ⟨b5, 0, none⟩), .int .i64 (30 + (nm.size : Int) + 26), u12, u13, u14, u15, u16, u17, u18, u19, u20, u21, u22, u23, u24, u25, u26, u27, u28, u29, u30, u31, u32, u33, u34, u35, u36, u37, u38, u39, u40, u41, u42, u43, u44, u45, u46, u47, u48, u49, u50, u51, u52, u53, u54, u55, u56, u57, u58, u59, u60, u61, u62, u63, u64, u65, u66, u67, u68, u69, u70, u71, u72, u73, u74, u75, u76, u77, u78, u79, u80, u81, u82, u83, u84, u85, u86, u87, u88, u89, u90, u91, u92, u93, u94, u95, u96, u97, u98, u99, u100, u101, u102, u103, u104, u105, u106, u107, u108, u109, u110, u111, u112, u113, u114, u115, u116, u117, u118, u119, u120, u121, u122, u123, u124, u125, u126, u127, u128, u129, u130, u131, u132, u133, u134, u135, u136, u137, u138, u139, u140, u141, u142, u143, u144, u145, u146, u147, u148, u149, u150, u151, u152, u153, u154, u155, u156, u157, u158, u159, u160, u161, u162, u163, u164, u165, u166, u167, u168, u169, u170, u171, u172, u173, u174, u175, u176, u177, u178, u179, u180, u181, u182, u183, u184, u185, u186, u187, u188, u189, u190, u191, u192, u193, u194, u195, u196, u197, u198, u199, u200, u201, u202, u203, u204, u205, u206, u207, u208, u209, u210, u211, u212, u213, u214, u215, u216, u217, u218, u219, u220, u221, u222, u223, u224, u225], []⟩ w := by
  have HH : Hid (∀ (n : Nat) (v109 v110 v111 v112 v113 v114 v115 v116 v117 v118 v119 v120 v121 v122 v123 v124 v125 v126 v127 v128 v129 v130 v131 v132 v133 v134 v135 v136 v137 v138 v139 v140 v141 v142 v143 v144 v145 v146 v147 v148 v149 v150 v151 v152 v153 v154 v155 v156 v157 v158 v159 v160 v161 v162 v163 v164 v165 v166 v167 v168 v169 v170 v171 v172 v173 v174 v175 v176 v177 v178 v179 v180 v181 v182 v183 v184 v185 v186 v187 v188 v189 v190 v191 v192 v193 v194 v195 v196 v197 v198 v199 v200 : Value), Q .normal ⟨#[u0, u1, u2, .string S, u4, u5, u6, .int .i64 (A : Int), .int .i64 (B : Int), u9, .pointer (some ⟨b5, 0, none⟩), .int .i64 (30 + (nm.size : Int) + 26), u12, u13, u14, u15, u16, u17, u18, u19, u20, u21, u22, u23, u24, u25, u26, u27, u28, u29, u30, u31, u32, u33, u34, u35, u36, u37, u38, u39, u40, u41, u42, u43, u44, u45, u46, u47, u48, u49, u50, u51, u52, u53, u54, u55, u56, u57, u58, u59, u60, u61, u62, u63, u64, u65, u66, u67, u68, u69, u70, u71, u72, u73, u74, u75, u76, u77, u78, u79, u80, u81, u82, u83, u84, u85, u86, u87, u88, u89, u90, u91, u92, u93, u94, u95, u96, u97, u98, u99, u100, u101, u102, u103, u104, u105, u106, u107, u108, v109, v110, v111, v112, v113, v114, v115, v116, v117, v118, v119, v120, v121, v122, v123, v124, v125, v126, v127, v128, v129, v130, v131, v132, v133, v134, v135, v136, v137, v138, v139, v140, v141, v142, v143, v144, v145, v146, v147, v148, v149, v150, v151, v152, v153, v154, v155, v156, v157, v158, v159, v160, v161, v162, v163, v164, v165, v166, v167, v168, v169, v170, v171, v172, v173, v174, v175, v176, v177, v178, v179, v180, v181, v182, v183, v184, v185, v186, v187, v188, v189, v190, v191, v192, v193, v194, v195, v196, v197, v198, v199, v200, .bool false, u202, u203, u204, u205, u206, u207, u208, u209, u210, u211, u212, u213, u214, u215, u216, u217, u218, u219, u220, u221, u222, u223, u224, u225], []⟩ (w.drewN n)) := h
  obtain ⟨A4, hA4⟩ : ∃ A4 : Nat, A + 4 = A4 := ⟨_, rfl⟩
  obtain ⟨A30, hA30⟩ : ∃ A30 : Nat, A + 30 = A30 := ⟨_, rfl⟩
  obtain ⟨A3n, hA3n⟩ : ∃ A3n : Nat, A30 + nm.size = A3n := ⟨_, rfl⟩
  obtain ⟨Ak, hAk⟩ : ∃ Ak : Nat, A + (30 + nm.size + 26) = Ak := ⟨_, rfl⟩
  obtain ⟨Aq, hAq⟩ : ∃ Aq : Nat, Ak + pk.size = Aq := ⟨_, rfl⟩
  obtain ⟨B4, hB4⟩ : ∃ B4 : Nat, B + 4 = B4 := ⟨_, rfl⟩
  obtain ⟨B42, hB42⟩ : ∃ B42 : Nat, B + 42 = B42 := ⟨_, rfl⟩
  obtain ⟨B46, hB46⟩ : ∃ B46 : Nat, B + 46 = B46 := ⟨_, rfl⟩
  obtain ⟨B6, hB6⟩ : ∃ B6 : Nat, B + 6 = B6 := ⟨_, rfl⟩
  obtain ⟨B32, hB32⟩ : ∃ B32 : Nat, B + 32 = B32 := ⟨_, rfl⟩
  obtain ⟨Bn, hBn⟩ : ∃ Bn : Nat, B46 + nm.size = Bn := ⟨_, rfl⟩
  obtain ⟨Bk, hBk⟩ : ∃ Bk : Nat, Bn + 26 = Bk := ⟨_, rfl⟩
  rw [hA4] at x1 x7
  rw [hA30, hA3n] at x2
  rw [hAk, hAq] at x3
  rw [hB4] at x4
  rw [hB42, hB46] at x5
  rw [hB6, hB32] at x6
  rw [hA30] at x7
  rw [hB46, hBn, hBk] at x8
  rw [hA30, hAk] at x9
  have hL := pos_facts A B nm.size pk.size S.size A4 A30 A3n Ak Aq B4 B42 B46 B6 B32 Bn Bk g1 g2 g3 hA4 hA30 hA3n hAk hAq hB4 hB42 hB46 hB6 hB32 hBn hBk
  clear h hA4 hA30 hA3n hAk hAq hB4 hB42 hB46 hB6 hB32 hBn hBk g1 g2 g3
  obtain ⟨f0, f1, f2, f3, f4, f5, f6, f7, f8, f9, f10, f11, f12, f13, f14, f15, f16, f17, f18, f19, f20, f21, f22, f23, f24, f25, f26, f27, f28, f29, f30, f31, f32, f33, f34, f35, f36, f37⟩ := hL
  conv => arg 2; whnf
  try simp only [List.append]
  go_quiet ((go_at_call 11; exact Calls.quiet_of_same (HN4.out _)))
  exact HH.out _ _ _ _ _ _ _ _ _ _ _ _ _ _ _ _ _ _ _ _ _ _ _ _ _ _ _ _ _ _ _ _ _ _ _ _ _ _ _ _ _ _ _ _ _ _ _ _ _ _ _ _ _ _ _ _ _ _ _ _ _ _ _ _ _ _ _ _ _ _ _ _ _ _ _ _ _ _ _ _ _ _ _ _ _ _ _ _ _ _ _ _ _

end Go.Proofs.Ytgbkipadbdochaa
