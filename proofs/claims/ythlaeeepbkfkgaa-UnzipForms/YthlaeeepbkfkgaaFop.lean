/-
  A folder that came in, laid open.
-/
import Derived.Test.YthlaeeepbkfkgaaFaw
import Derived.Test.YthlaeeepbkfkgaaOpen
import Derived.Deep.Slices
namespace Go.Proofs.Ythlaeeepbkfkgaa
open Go.RowKit Go.ChangeShapes Go.WideShapes Go.ChangeAt
set_option linter.unusedVariables false
set_option linter.unusedSimpArgs false

/-- What is known of a folder that came in. -/
def FolIn (w : World) (a : Option Addr) (es : List It) : Prop := Fol w a es ∧ (∀ x ∈ es, Fit x ∧ Came x.1.va x.2.length x.1.vc) ∧ es.length * 104 + 4096 ≤ 140737488355328
theorem FolIn.fit {w : World} {a : Option Addr} {es : List It} (h : FolIn w a es) : ∀ x ∈ es, Fit x := fun x hx => (h.2.1 x hx).1
theorem weigh_in {H : Type} {P : Program} {e : TypeId} : ∀ {ds : List (DataW H)} {d : DataW H}, d ∈ ds → ∀ n ∈ d.weights P e, n ∈ DataW.weightsAll P e ds
  | [], d, h, _, _ => by simp at h
  | x :: r, d, h, n, hn => by
    rw [DataW.weightsAll, List.mem_append]
    rcases List.mem_cons.1 h with rfl | h
    · exact .inl hn
    · exact .inr (weigh_in h n hn)
instance : Inhabited It := ⟨(Ent.zero, [])⟩
theorem cellsF : Try.prog.cellsOf 24 = 1 ∧ Try.prog.cellsOf 22 = 1 ∧ Try.prog.bytesOf 46 = 104 := ⟨by kernel_rfl, by kernel_rfl, by kernel_rfl⟩

set_option maxHeartbeats 2000000 in
set_option maxRecDepth 1000000 in
theorem fol_open {H : Type} {enc : TypeId × Value → H} {W : World} {cs : Array Value} {d : DataW H} {p : List MemPlace} (h : DataW.Trod enc Try.prog W 0 (fun _ => true) true 24 (.agg cs) d p) (hsz : ∀ n ∈ d.weights Try.prog 24, n ≤ reachBytes) :
    ∃ (a : Option Addr) (cap : Nat) (es : List It), cs = #[.slice a es.length cap] ∧ FolIn W a es := by
  obtain ⟨cF, c22, b39⟩ := cellsF
  obtain ⟨_, _, _, _, cE, _⟩ := cells1
  have hr : reachBytes = 140737488351232 := rfl
  obtain ⟨fuel, h⟩ := h
  obtain ⟨xs, n, _, hx, hl, hxl, hf⟩ := DataW.trod_struct Try.underlying24 h
  rw [cF] at hl
  simp only [Value.cells] at hl hf
  obtain ⟨cl⟩ := cs
  simp only at hl hf
  match xs, hxl, cl, hl with
  | [y0], _, [v0], _ =>
    have g0 : DataW.trod enc Try.prog W 0 (fun _ => true) true n 22 (([v0].drop 0).take (Try.prog.cellsOf 22)) = some y0 := hf 0 _ rfl
    rw [c22] at g0
    replace g0 : DataW.trod enc Try.prog W 0 (fun _ => true) true n 22 [v0] = some y0 := g0
    clear hf
    simp only [Prod.mk.injEq] at hx
    obtain ⟨rfl, _⟩ := hx
    rcases Deep.open_slice Try.underlying22 g0 with ⟨h0, _⟩ | ⟨a', len', cap', m, n', D, Pl, hcs, hb, hlc, hm, hmm, rfl, hx⟩
    · simp only [List.cons.injEq, and_true] at h0
      subst h0
      exact ⟨none, 0, [], rfl, .inl rfl, by simp, by decide⟩
    · simp only [List.cons.injEq, and_true] at hcs
      subst hcs
      have hlm : len' ≤ m := by rw [hmm]; split <;> omega
      have hw : ∀ k, k ∈ (DataW.slice ((List.range len').map D) ((List.range (m - len')).map fun j => D (len' + j))).weights Try.prog 22 → k ≤ reachBytes := fun k hk => by
        apply hsz
        simp only [DataW.weights, Try.underlying24]
        exact DataW.weights_mem_each (j := 0) (t := 22) rfl rfl k hk
      have hlen : len' * 104 + 4096 ≤ 140737488355328 := by
        have := hw ((((List.range len').map D).length + ((List.range (m - len')).map fun j => D (len' + j)).length) * Try.prog.bytesOf 46) (by simp only [DataW.weights, Try.underlying22]; exact List.mem_cons_self)
        rw [b39, List.length_map, List.length_map, List.length_range, List.length_range] at this
        omega
      have each : ∀ i, i < len' → ∃ q : It, (∀ j v, (ecs q.1)[j]? = some v → W.cell? ((a'.add (i * 9)).add j) = some v) ∧ q.1.vn = q.2.length ∧ Row W q.1.va q.2 ∧ Came q.1.va q.2.length q.1.vc ∧ Fit q := by
        intro i hi
        obtain ⟨cs', h1, h2⟩ := hx i (by omega)
        rw [cE] at h1
        obtain ⟨_, hlen', hcell⟩ := World.cells?_some h1
        obtain ⟨e, ys, e1, e2, e3, e4, e5, e6, e7⟩ := ent_open (cs := cs'.toArray) (d := D i) (p := Pl i) ⟨n', by simpa [Value.cells] using h2⟩ (fun k hk => by
          apply hw
          simp only [DataW.weights, Try.underlying22]
          refine List.mem_cons_of_mem _ (List.mem_append_left _ (weigh_in (d := D i) ?_ k hk))
          exact List.mem_map.2 ⟨i, List.mem_range.2 hi, rfl⟩)
        have e8 : cs' = ecs e := congrArg Array.toList e1
        refine ⟨(e, ys), fun j v hv => ?_, e2, e3, e4, e5, e6, e7⟩
        subst e8
        have hj : j < 9 := by have := (List.getElem?_eq_some_iff.1 hv).1; rwa [ecs_len] at this
        rw [← hv]
        exact hcell j hj
      obtain ⟨q, hq⟩ := Deep.choose_lt each
      have hql : ((List.range len').map q).length = len' := by simp
      have hqi : ∀ i (hi : i < ((List.range len').map q).length), ((List.range len').map q)[i] = q i := fun i hi => by simp
      refine ⟨some a', cap', (List.range len').map q, by rw [hql], ?_, fun x hx' => ?_, by rw [hql]; exact hlen⟩
      · by_cases hz : len' = 0
        · subst hz; exact .inl rfl
        obtain ⟨b, off, spot⟩ := a'
        have hs0 := (hq 0 (by omega)).1 0 _ rfl
        have hspot : spot = none := by simpa [Addr.add] using World.cell?_spot hs0
        subst hspot
        refine .inr ⟨b, off, rfl, ?_, fun i hi => ?_⟩
        · rw [Addr.add_mid, Addr.add_mid] at hs0
          exact World.block_lt_of_cell? W _ hs0
        · rw [hqi i hi]
          have hi' : i < len' := by rwa [hql] at hi
          obtain ⟨p1, p2, p3, _⟩ := hq i hi'
          refine ⟨fun j v hv => ?_, p2, p3⟩
          have := p1 j v hv
          rw [Addr.add_mid, Addr.add_mid] at this
          exact this
      · obtain ⟨i, hi, rfl⟩ := List.mem_map.1 hx'
        have := hq i (List.mem_range.1 hi)
        exact ⟨this.2.2.2.2, this.2.2.2.1⟩

end Go.Proofs.Ythlaeeepbkfkgaa
