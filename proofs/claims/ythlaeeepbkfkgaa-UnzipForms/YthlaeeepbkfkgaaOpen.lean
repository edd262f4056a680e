/-
  An entry that came in, laid open.
-/
import Derived.Test.YthlaeeepbkfkgaaSame
import Derived.ProofKit
import Derived.OpenShut
import Derived.ShutString
import Derived.SizedLaws
namespace Go.Proofs.Ythlaeeepbkfkgaa
open Go.RowKit Go.ChangeShapes Go.WideShapes Go.ChangeAt
set_option linter.unusedVariables false
set_option linter.unusedSimpArgs false

theorem lits_len {H : Type} (k : IntKind) (l : List Int) : (lits (H := H) k l).length = l.length := by simp [lits]
theorem weigh_all {H : Type} {P : Program} : ∀ {ts : List TypeId} {ds : List (DataW H)} {j : Nat} {t : TypeId} {d : DataW H}, ts[j]? = some t → ds[j]? = some d → ∀ n ∈ d.weights P t, n ∈ DataW.weightsEach P ts ds := DataW.weights_mem_each
theorem cells1 : Try.prog.cellsOf 9 = 1 ∧ Try.prog.cellsOf 4 = 1 ∧ Try.prog.cellsOf 44 = 1 ∧ Try.prog.cellsOf 3 = 1 ∧ Try.prog.cellsOf 46 = 9 ∧ Try.prog.bytesOf 3 = 8 := ⟨by kernel_rfl, by kernel_rfl, by kernel_rfl, by kernel_rfl, by kernel_rfl, by kernel_rfl⟩

set_option maxHeartbeats 2000000 in
set_option maxRecDepth 1000000 in
theorem ent_open {H : Type} {enc : TypeId × Value → H} {W : World} {cs : Array Value} {d : DataW H} {p : List MemPlace} (h : DataW.Trod enc Try.prog W 0 (fun _ => true) true 46 (.agg cs) d p) (hsz : ∀ n ∈ d.weights Try.prog 46, n ≤ reachBytes) :
    ∃ (e : Ent) (ys : List Int), cs = #[.string e.nm, .bool e.gn, .slice e.va e.vn e.vc, .int .i64 e.st, .int .i64 e.nd, .int .i64 e.mt, .string e.pk, .int .i64 e.sz, .int .i64 e.cr] ∧ e.vn = ys.length ∧ Row W e.va ys ∧ Came e.va ys.length e.vc ∧ ys.length * 8 + 4096 ≤ 140737488355328 ∧ e.nm.size + 4096 ≤ 140737488355328 ∧ e.pk.size + 4096 ≤ 140737488355328 := by
  obtain ⟨c9, c4, c22, c3, cE, b3⟩ := cells1
  have hr : reachBytes = 140737488351232 := rfl
  obtain ⟨fuel, h⟩ := h
  obtain ⟨xs, n, _, hx, hl, hxl, hf⟩ := DataW.trod_struct Try.underlying46 h
  rw [cE] at hl
  simp only [Value.cells] at hl hf
  obtain ⟨cl⟩ := cs
  simp only at hl hf
  match xs, hxl, cl, hl with
  | [y0, y1, y2, y3, y4, y5, y6, y7, y8], _, [v0, v1, v2, v3, v4, v5, v6, v7, v8], _ =>
    have g0 : DataW.trod enc Try.prog W 0 (fun _ => true) true n 9 (([v0, v1, v2, v3, v4, v5, v6, v7, v8].drop 0).take (Try.prog.cellsOf 9)) = some y0 := hf 0 _ rfl
    rw [c9] at g0
    replace g0 : DataW.trod enc Try.prog W 0 (fun _ => true) true n 9 [v0] = some y0 := g0
    have g1 : DataW.trod enc Try.prog W 0 (fun _ => true) true n 4 (([v0, v1, v2, v3, v4, v5, v6, v7, v8].drop 1).take (Try.prog.cellsOf 4)) = some y1 := hf 1 _ rfl
    rw [c4] at g1
    replace g1 : DataW.trod enc Try.prog W 0 (fun _ => true) true n 4 [v1] = some y1 := g1
    have g2 : DataW.trod enc Try.prog W 0 (fun _ => true) true n 44 (([v0, v1, v2, v3, v4, v5, v6, v7, v8].drop 2).take (Try.prog.cellsOf 44)) = some y2 := hf 2 _ rfl
    rw [c22] at g2
    replace g2 : DataW.trod enc Try.prog W 0 (fun _ => true) true n 44 [v2] = some y2 := g2
    have g3 : DataW.trod enc Try.prog W 0 (fun _ => true) true n 3 (([v0, v1, v2, v3, v4, v5, v6, v7, v8].drop 3).take (Try.prog.cellsOf 3)) = some y3 := hf 3 _ rfl
    rw [c3] at g3
    replace g3 : DataW.trod enc Try.prog W 0 (fun _ => true) true n 3 [v3] = some y3 := g3
    have g4 : DataW.trod enc Try.prog W 0 (fun _ => true) true n 3 (([v0, v1, v2, v3, v4, v5, v6, v7, v8].drop 4).take (Try.prog.cellsOf 3)) = some y4 := hf 4 _ rfl
    rw [c3] at g4
    replace g4 : DataW.trod enc Try.prog W 0 (fun _ => true) true n 3 [v4] = some y4 := g4
    have g5 : DataW.trod enc Try.prog W 0 (fun _ => true) true n 3 (([v0, v1, v2, v3, v4, v5, v6, v7, v8].drop 5).take (Try.prog.cellsOf 3)) = some y5 := hf 5 _ rfl
    rw [c3] at g5
    replace g5 : DataW.trod enc Try.prog W 0 (fun _ => true) true n 3 [v5] = some y5 := g5
    have g6 : DataW.trod enc Try.prog W 0 (fun _ => true) true n 9 (([v0, v1, v2, v3, v4, v5, v6, v7, v8].drop 6).take (Try.prog.cellsOf 9)) = some y6 := hf 6 _ rfl
    rw [c9] at g6
    replace g6 : DataW.trod enc Try.prog W 0 (fun _ => true) true n 9 [v6] = some y6 := g6
    have g7 : DataW.trod enc Try.prog W 0 (fun _ => true) true n 3 (([v0, v1, v2, v3, v4, v5, v6, v7, v8].drop 7).take (Try.prog.cellsOf 3)) = some y7 := hf 7 _ rfl
    rw [c3] at g7
    replace g7 : DataW.trod enc Try.prog W 0 (fun _ => true) true n 3 [v7] = some y7 := g7
    have g8 : DataW.trod enc Try.prog W 0 (fun _ => true) true n 3 (([v0, v1, v2, v3, v4, v5, v6, v7, v8].drop 8).take (Try.prog.cellsOf 3)) = some y8 := hf 8 _ rfl
    rw [c3] at g8
    replace g8 : DataW.trod enc Try.prog W 0 (fun _ => true) true n 3 [v8] = some y8 := g8
    clear hf
    obtain ⟨nm, e0, x0, _⟩ := DataW.trod_string Try.underlying9 g0
    obtain ⟨gn, e1, x1⟩ := DataW.trod_bool Try.underlying4 g1
    obtain ⟨st, e3, x3, _⟩ := DataW.trod_int Try.underlying3 g3
    obtain ⟨nd, e4, x4, _⟩ := DataW.trod_int Try.underlying3 g4
    obtain ⟨mt, e5, x5, _⟩ := DataW.trod_int Try.underlying3 g5
    obtain ⟨pk, e6, x6, _⟩ := DataW.trod_string Try.underlying9 g6
    obtain ⟨sz, e7, x7, _⟩ := DataW.trod_int Try.underlying3 g7
    obtain ⟨cr, e8, x8, _⟩ := DataW.trod_int Try.underlying3 g8
    simp only [List.cons.injEq, and_true] at e0 e1 e3 e4 e5 e6 e7 e8
    subst e0 e1 e3 e4 e5 e6 e7 e8 x0 x1 x3 x4 x5 x6 x7 x8
    simp only [Prod.mk.injEq] at hx
    obtain ⟨rfl, _⟩ := hx
    have hw : ∀ (j : Nat) (t : TypeId) (d : DataW H), ([9, 4, 44, 3, 3, 3, 9, 3, 3] : List TypeId)[j]? = some t → (List.map (fun x => x.fst) [(DataW.lit (Lit.string nm.data.toList), ([] : List MemPlace)), (DataW.lit (Lit.bool gn), []), y2, (DataW.lit (Lit.int .i64 st), []), (DataW.lit (Lit.int .i64 nd), []), (DataW.lit (Lit.int .i64 mt), []), (DataW.lit (Lit.string pk.data.toList), []), (DataW.lit (Lit.int .i64 sz), []), (DataW.lit (Lit.int .i64 cr), [])])[j]? = some d → ∀ n ∈ d.weights Try.prog t, n ≤ reachBytes := fun j t d ht hd n hn => by
      apply hsz
      simp only [DataW.weights, Try.underlying46]
      exact DataW.weights_mem_each (j := j) (t := t) (d := d) ht hd n hn
    have z0 := hw 0 _ _ rfl rfl nm.data.toList.length (by simp [DataW.weights])
    have z6 := hw 6 _ _ rfl rfl pk.data.toList.length (by simp [DataW.weights])
    rw [Array.length_toList] at z0 z6
    have z0' : nm.size ≤ reachBytes := z0
    have z6' : pk.size ≤ reachBytes := z6
    rcases open_ints Try.underlying44 Try.underlying3 c3 g2 with ⟨hcs, _⟩ | ⟨a, len, cap, zs, hcs, _, hlc, hm, hz, hd, hcell, hwz⟩
    · simp only [List.cons.injEq, and_true] at hcs
      subst hcs
      exact ⟨⟨nm, gn, none, 0, 0, st, nd, mt, pk, sz, cr⟩, [], rfl, rfl, .inl rfl, .inl ⟨rfl, rfl, rfl⟩, by decide, by show nm.size + 4096 ≤ _; omega, by show pk.size + 4096 ≤ _; omega⟩
    · simp only [List.cons.injEq, and_true] at hcs
      subst hcs
      have hi : IsRow .i64 W (some a) len cap zs := .inr ⟨a, rfl, hlc, hm, by simpa using hz, hcell, hwz⟩
      obtain ⟨ys, hyl, hyr, _, hyc⟩ := hi.rowC
      refine ⟨⟨nm, gn, some a, len, cap, st, nd, mt, pk, sz, cr⟩, ys, rfl, hyl.symm, hyr, hyc, ?_, by show nm.size + 4096 ≤ _; omega, by show pk.size + 4096 ≤ _; omega⟩
      subst hd
      have z2 := hw 2 _ _ rfl rfl (((lits (H := H) .i64 (zs.take len)).length + (lits (H := H) .i64 (zs.drop len)).length) * Try.prog.bytesOf 3) (by simp [DataW.weights, Try.underlying44])
      rw [lits_len, lits_len, List.length_take, List.length_drop, b3] at z2
      simp at hz
      omega

end Go.Proofs.Ythlaeeepbkfkgaa
