/-
  Blocks of entries that a call owns.
-/
import Derived.Test.YthlaeeepbkfkgaaWma
import Derived.Test.YthlaeeepbkfkgaaSame
import Derived.Test.YthlaeeepbkfkgaaCRef
namespace Go.Proofs.Ythlaeeepbkfkgaa
open Go.RowKit
set_option linter.unusedVariables false
set_option linter.unusedSimpArgs false

def entV : List It → List Value
  | [] => []
  | x :: r => ecs x.1 ++ entV r
theorem entV_length : ∀ es, (entV es).length = es.length * 9
  | [] => rfl
  | x :: r => by simp [entV, entV_length r, ecs_len]; omega
theorem entV_append : ∀ es fs, entV (es ++ fs) = entV es ++ entV fs
  | [], fs => rfl
  | x :: r, fs => by simp [entV, entV_append r]
theorem entV_one : ∀ es, ∀ v ∈ entV es, v.oneCell' = true
  | [], v, h => by simp [entV] at h
  | x :: r, v, h => by
    simp only [entV, List.mem_append] at h
    rcases h with h | h
    · exact ecs_one _ v h
    · exact entV_one r v h
theorem entV_get : ∀ (es : List It) (i j : Nat) (h : i < es.length) (hj : j < 9), (entV es)[i * 9 + j]? = (ecs es[i].1)[j]?
  | [], _, _, h, _ => by simp at h
  | x :: r, 0, j, h, hj => by
    rw [Nat.zero_mul, Nat.zero_add, entV, List.getElem?_append_left (by rw [ecs_len]; exact hj)]; rfl
  | x :: r, i + 1, j, h, hj => by
    rw [entV, List.getElem?_append_right (by rw [ecs_len]; omega), ecs_len, show (i + 1) * 9 + j - 9 = i * 9 + j by omega, entV_get r i j (by simpa using h) hj]; rfl
/-- A slice of entries that a call owns, nil too. -/
def OwnF (w : World) (base : Nat) (v : Value) (es : List It) : Prop := w.ownsRow base 46 9 v es.length (entV es)
theorem OwnF.nil (w : World) (base : Nat) : OwnF w base (.slice none 0 0) [] := World.ownsRow_nil w base 46 9
theorem owns_heap9 {w w' : World} {base : Nat} {e : TypeId} {size : Nat} {v : Value} {n : Nat} {xs : List Value} (h : w.ownsRow base e size v n xs) (hk : ∀ k, v.ownBlock = some k → w'.heap[k]? = w.heap[k]?) : w'.ownsRow base e size v n xs := by
  obtain ⟨h1, h2⟩ := h
  refine ⟨h1, ?_⟩
  rcases h2 with h2 | ⟨g, cap, cur, hv, hg, hh, r⟩
  · exact Or.inl h2
  · subst hv
    exact Or.inr ⟨g, cap, cur, rfl, hg, by rw [hk g rfl]; exact hh, r⟩
theorem OwnF.kept {S : Nat → Prop} {w w' : World} {base : Nat} {v : Value} {es : List It} (h : OwnF w base v es) (hk : Keeps S w w') (hb : ∀ k, v.ownBlock = some k → ¬ S k) : OwnF w' base v es :=
  owns_heap9 h (fun k e => hk.block k (World.ownsRow.lt h k e).2 (hb k e))
theorem OwnF.keptF {w w' : World} {base : Nat} {v : Value} {es : List It} (h : OwnF w base v es) (hk : Keeps (fun _ => False) w w') : OwnF w' base v es := h.kept hk (fun _ _ h => h)
theorem OwnF.lo {w : World} {base : Nat} {v : Value} {es : List It} (h : OwnF w base v es) : ∀ k, v.ownBlock = some k → base ≤ k ∧ k < w.heap.size := fun k hk => World.ownsRow.lt h k hk
theorem OwnF.at {w : World} {base : Nat} {v : Value} {es : List It} (h : OwnF w base v es) : ∃ a cap, v = .slice a es.length cap ∧ (es = [] ∨ ∃ g, a = some ⟨g, 0, none⟩ ∧ v.ownBlock = some g ∧ base ≤ g ∧ g < w.heap.size ∧ ∀ i (hi : i < es.length), EntAt w g (0 + i * 9) es[i].1) := by
  rcases h.2 with ⟨rfl, h0⟩ | ⟨g, cap, cur, rfl, hb, h1, h2, h3, h4, h5⟩
  · have := List.length_eq_zero_iff.1 h0
    subst this
    exact ⟨none, 0, rfl, .inl rfl⟩
  · refine ⟨_, cap, rfl, .inr ⟨g, rfl, rfl, hb, lt_of_heap h1, fun i hi j u hu => ?_⟩⟩
    have hj : j < 9 := by have := (List.getElem?_eq_some_iff.1 hu).1; rwa [ecs_len] at this
    rw [← entV_get es i j hi hj, ← h5, List.getElem?_take, if_pos (by omega)] at hu
    rw [Nat.zero_add]
    exact cell_of_heap h1 (by simpa using hu)
/-- It shows a folder's entries, where their vectors lie. -/
theorem OwnF.fol {w : World} {base : Nat} {v : Value} {es : List It} (h : OwnF w base v es) (hr : ∀ x ∈ es, x.1.vn = x.2.length ∧ Row w x.1.va x.2) : ∃ a cap, v = .slice a es.length cap ∧ Fol w a es := by
  obtain ⟨a, cap, e, h2⟩ := h.at
  refine ⟨a, cap, e, ?_⟩
  rcases h2 with h2 | ⟨g, rfl, _, _, hg, hf⟩
  · exact .inl h2
  · exact .inr ⟨g, 0, rfl, hg, fun i hi => ⟨hf i hi, hr _ (List.getElem_mem hi)⟩⟩
theorem OwnF.lit (w : World) (base : Nat) (x : It) (hb : base ≤ w.heap.size) : OwnF (w.alloc (.cells #[.string x.1.nm, .bool x.1.gn, .slice x.1.va x.1.vn x.1.vc, .int .i64 x.1.st, .int .i64 x.1.nd, .int .i64 x.1.mt, .string x.1.pk, .int .i64 x.1.sz, .int .i64 x.1.cr] 46)) base (.slice (some ⟨w.heap.size, 0, none⟩) 1 1) [x] :=
  ⟨rfl, .inr ⟨_, _, _, rfl, hb, heap_alloc_new _ _, Nat.le_refl _, by decide, rfl, rfl⟩⟩
set_option maxRecDepth 100000 in
theorem append_ent (w : World) (base : Nat) (v : Value) (es : List It) (h : OwnF w base v es) (x : It) (b : Nat) (hx : EntAt w b 0 x.1) (hb : base ≤ w.heap.size) (hn : (es.length + 1) * 104 ≤ 140737488355328) :
    ∃ g cap w', (Builtin.append_ #[22, 22] 22 #[v, .slice (some ⟨b, 0, none⟩) 1 1]).run Try.prog w = .ok (.slice (some ⟨g, 0, none⟩) (es.length + 1) cap) w' ∧ OwnF w' base (.slice (some ⟨g, 0, none⟩) (es.length + 1) cap) (es ++ [x]) ∧ w.grownBy w' v.ownBlock ∧ (v.ownBlock = some g ∨ g = w.heap.size) := by
  obtain ⟨i, hi, h1, h2, h3⟩ : ∃ i, Try.prog.info? 46 = some i ∧ i.zero = some (.agg #[.string Ent.zero.nm, .bool Ent.zero.gn, .slice Ent.zero.va Ent.zero.vn Ent.zero.vc, .int .i64 Ent.zero.st, .int .i64 Ent.zero.nd, .int .i64 Ent.zero.mt, .string Ent.zero.pk, .int .i64 Ent.zero.sz, .int .i64 Ent.zero.cr]) ∧ i.bytes = 104 ∧ i.size = 9 := ⟨Try.t46, Try.type46, rfl, rfl, rfl⟩
  obtain ⟨g, cap, w', hr, ho, hg, hat, hlt⟩ := run_append_lies (P := Try.prog) w 22 22 base 46 i (.agg #[.string Ent.zero.nm, .bool Ent.zero.gn, .slice Ent.zero.va Ent.zero.vn Ent.zero.vc, .int .i64 Ent.zero.st, .int .i64 Ent.zero.nd, .int .i64 Ent.zero.mt, .string Ent.zero.pk, .int .i64 Ent.zero.sz, .int .i64 Ent.zero.cr]) 9 104 Try.underlying22 hi h1 h3 h2 rfl (by decide) v es.length (entV es) h ⟨b, 0, none⟩ 1 1 (ecs x.1) rfl (fun j u hu => by
      rw [Addr.add_mid]
      exact hx j u hu) (ecs_one _) (by decide) (by unfold maxLen; omega) (by omega) hb _ rfl
  refine ⟨g, cap, w', hr, ?_, hg, hat⟩
  unfold OwnF
  rw [entV_append, List.length_append]
  have e : entV [x] = ecs x.1 := by simp [entV]
  rw [e]
  exact ho
theorem wpList_ent {ops : Array Oper} {rest : List Oper} {o : Oper} {a : Act} {w : World} {Q : Exit → Act → World → Prop} (hgd : o.guard = none) (s x : Operand) (ho : o.op = .call { callee := .builtin .append, args := #[s, x], argTypes := #[22, 22] }) (hty : o.type = 22)
    (base : Nat) (v : Value) (es : List It) (hs : a.eval s = v) (hown : OwnF w base v es) (b : Nat) (t : It) (hx : a.eval x = .slice (some ⟨b, 0, none⟩) 1 1) (hR : EntAt w b 0 t.1) (hb : base ≤ w.heap.size) (hn : (es.length + 1) * 104 ≤ 140737488355328)
    (h : ∀ g cap w', OwnF w' base (.slice (some ⟨g, 0, none⟩) (es.length + 1) cap) (es ++ [t]) → w.grownBy w' v.ownBlock → (v.ownBlock = some g ∨ g = w.heap.size) → wpList Try.prog ops Q rest (a.put o.dst (.slice (some ⟨g, 0, none⟩) (es.length + 1) cap)) w') : wpList Try.prog ops Q (o :: rest) a w :=
  wpList_plain hgd fun _ hK => by
    obtain ⟨g, cap, w', hr, h2, h3, h4⟩ := append_ent w base v es hown t b hR hb hn
    unfold Oper.wp execOp
    simp only [ho, hty, resolve, invoke, builtin, Sem.run_bind, Sem.run_pure, Result.andThen_ok, List.map_toArray, List.map_cons, List.map_nil, hs, hx, hr]
    exact hK _ _ (h g cap w' h2 h3 h4)
theorem step_ent {ops : Array Oper} {o : Oper} {a : Act} {K : Act → World → Prop} {Q : Exit → Act → World → Prop} {w : World} {E : Prop} (hgd : o.guard = none) (s x : Operand) (ho : o.op = .call { callee := .builtin .append, args := #[s, x], argTypes := #[22, 22] }) (hty : o.type = 22)
    (base : Nat) (v : Value) (es : List It) (hs : a.eval s = v) (hown : OwnF w base v es) (b : Nat) (t : It) (hx : a.eval x = .slice (some ⟨b, 0, none⟩) 1 1) (hR : EntAt w b 0 t.1) (hb : base ≤ w.heap.size) (hn : (es.length + 1) * 104 ≤ 140737488355328)
    (h : ∀ g cap w', OwnF w' base (.slice (some ⟨g, 0, none⟩) (es.length + 1) cap) (es ++ [t]) → w.grownBy w' v.ownBlock → (v.ownBlock = some g ∨ g = w.heap.size) → K (a.put o.dst (.slice (some ⟨g, 0, none⟩) (es.length + 1) cap)) w') : if Region.wanted o (yielded ops a.tmps) = true then Oper.wp Try.prog o a w K Q else E := by
  have hw : Region.wanted o (yielded ops a.tmps) = true := by simp [Region.wanted, hgd]
  rw [if_pos hw]
  obtain ⟨g, cap, w', hr, h2, h3, h4⟩ := append_ent w base v es hown t b hR hb hn
  unfold Oper.wp execOp
  simp only [ho, hty, resolve, invoke, builtin, Sem.run_bind, Sem.run_pure, Result.andThen_ok, List.map_toArray, List.map_cons, List.map_nil, hs, hx, hr]
  exact h g cap w' h2 h3 h4

set_option maxHeartbeats 4000000 in
set_option maxRecDepth 1000000 in
/-- The laws' small entry. -/
theorem small_ok (nm t : ByteArray) (k : Nat) (s : Int) (w : World) (hk : k < 4) (ht : t.size ≤ 1000000) :
    Calls Try.prog 31 #[.string nm, .int .i64 (k : Int), .int .i64 s, .string t] w fun r w' => ∃ g, r = .returned (.agg #[.string (Ent.mk nm false (some ⟨g, 0, none⟩) 4 4 s (k : Int) 0 t (t.size : Int) ((Cr.joinS 0 t : Nat) : Int)).nm, .bool (Ent.mk nm false (some ⟨g, 0, none⟩) 4 4 s (k : Int) 0 t (t.size : Int) ((Cr.joinS 0 t : Nat) : Int)).gn, .slice (Ent.mk nm false (some ⟨g, 0, none⟩) 4 4 s (k : Int) 0 t (t.size : Int) ((Cr.joinS 0 t : Nat) : Int)).va (Ent.mk nm false (some ⟨g, 0, none⟩) 4 4 s (k : Int) 0 t (t.size : Int) ((Cr.joinS 0 t : Nat) : Int)).vn (Ent.mk nm false (some ⟨g, 0, none⟩) 4 4 s (k : Int) 0 t (t.size : Int) ((Cr.joinS 0 t : Nat) : Int)).vc, .int .i64 (Ent.mk nm false (some ⟨g, 0, none⟩) 4 4 s (k : Int) 0 t (t.size : Int) ((Cr.joinS 0 t : Nat) : Int)).st, .int .i64 (Ent.mk nm false (some ⟨g, 0, none⟩) 4 4 s (k : Int) 0 t (t.size : Int) ((Cr.joinS 0 t : Nat) : Int)).nd, .int .i64 (Ent.mk nm false (some ⟨g, 0, none⟩) 4 4 s (k : Int) 0 t (t.size : Int) ((Cr.joinS 0 t : Nat) : Int)).mt, .string (Ent.mk nm false (some ⟨g, 0, none⟩) 4 4 s (k : Int) 0 t (t.size : Int) ((Cr.joinS 0 t : Nat) : Int)).pk, .int .i64 (Ent.mk nm false (some ⟨g, 0, none⟩) 4 4 s (k : Int) 0 t (t.size : Int) ((Cr.joinS 0 t : Nat) : Int)).sz, .int .i64 (Ent.mk nm false (some ⟨g, 0, none⟩) 4 4 s (k : Int) 0 t (t.size : Int) ((Cr.joinS 0 t : Nat) : Int)).cr]) ∧ Own w' g 4 ([0, 0, 0, 0].set k s) ∧ Keeps (fun _ => False) w w' ∧ w.heap.size ≤ g := by
  have hkz : (k : Int) < 4 := by omega
  have hk0 : (0 : Int) ≤ (k : Int) := by omega
  have HC : Hid (∀ w', Calls Try.prog 37 #[.string t] w' fun r w'' => r = .returned (.int .i64 ((Cr.joinS 0 t : Nat) : Int)) ∧ w'' = w') := fun w' => Cr.rcrc_ok t w' (by omega)
  generalize ((Cr.joinS 0 t : Nat) : Int) = c at *
  go_enter Try.func31, Try.ntmps31
  go_wp2_with (first
    | (refine wpList_alloc9 rfl rfl ?_; intro b1 w1 hE hK hb; have A1 : Hid (Entb w1 b1 Ent.zero ∧ Keeps (fun _ => False) w w1 ∧ w.heap.size ≤ b1) := ⟨hE, hK, hb⟩; clear hE hK hb)
    | (refine wpList_ints rfl _ _ rfl 4 rfl rfl (by decide) ?_; intro g w2 hO hK hb; have A2 : Hid (Entb w2 b1 Ent.zero ∧ Keeps (fun _ => False) w w2 ∧ Own w2 g 4 [0, 0, 0, 0] ∧ w.heap.size ≤ g ∧ b1 < g) := ⟨A1.out.1.keptF hK, A1.out.2.1.trans hK (fun _ _ h => h), hO, Nat.le_trans A1.out.2.1.size hb, Nat.lt_of_lt_of_le A1.out.1.lt hb⟩; have k1 := hO.cell k (by simpa using hk); have f1 := hO.free k (by simpa using hk); clear hO hK hb)
    | (go_at_call 37; refine (HC.out _).mono ?_; rintro r w' ⟨rfl, hw⟩; obtain rfl := hw.symm; clear hw)
    | (refine wpList_store9 rfl _ _ rfl b1 ⟨nm, false, some ⟨g, 0, none⟩, 4, 4, s, (k : Int), 0, t, (t.size : Int), c⟩ rfl rfl Ent.zero ?hA ?_; (case hA => exact A2.out.1.kept ((Keeps.refl (fun x => x = g) w2).setCell (p := ⟨g, k, none⟩) (fun _ => rfl) _) (by have := A2.out.2.2.2.2; omega)); intro w3 hE hK; have A3 : Hid (Entb w3 b1 ⟨nm, false, some ⟨g, 0, none⟩, 4, 4, s, (k : Int), 0, t, (t.size : Int), c⟩ ∧ Keeps (fun x => x = b1) (w2.setCell ⟨g, k, none⟩ (.int .i64 s)) w3) := ⟨hE, hK⟩; clear hE hK))
  (try simp only [Exit.inBlock, Exit.then])
  have hk1 : Keeps (fun x => x = g) w2 (w2.setCell ⟨g, k, none⟩ (.int .i64 s)) := (Keeps.refl (fun x => x = g) w2).setCell (p := ⟨g, k, none⟩) (fun _ => rfl) _
  have h5 := A2.out.2.2.2.2
  have h1 := A1.out.2.2
  refine bodyPost_ret (v := .agg #[.string (Ent.mk nm false (some ⟨g, 0, none⟩) 4 4 s (k : Int) 0 t (t.size : Int) c).nm, .bool (Ent.mk nm false (some ⟨g, 0, none⟩) 4 4 s (k : Int) 0 t (t.size : Int) c).gn, .slice (Ent.mk nm false (some ⟨g, 0, none⟩) 4 4 s (k : Int) 0 t (t.size : Int) c).va (Ent.mk nm false (some ⟨g, 0, none⟩) 4 4 s (k : Int) 0 t (t.size : Int) c).vn (Ent.mk nm false (some ⟨g, 0, none⟩) 4 4 s (k : Int) 0 t (t.size : Int) c).vc, .int .i64 (Ent.mk nm false (some ⟨g, 0, none⟩) 4 4 s (k : Int) 0 t (t.size : Int) c).st, .int .i64 (Ent.mk nm false (some ⟨g, 0, none⟩) 4 4 s (k : Int) 0 t (t.size : Int) c).nd, .int .i64 (Ent.mk nm false (some ⟨g, 0, none⟩) 4 4 s (k : Int) 0 t (t.size : Int) c).mt, .string (Ent.mk nm false (some ⟨g, 0, none⟩) 4 4 s (k : Int) 0 t (t.size : Int) c).pk, .int .i64 (Ent.mk nm false (some ⟨g, 0, none⟩) 4 4 s (k : Int) 0 t (t.size : Int) c).sz, .int .i64 (Ent.mk nm false (some ⟨g, 0, none⟩) 4 4 s (k : Int) 0 t (t.size : Int) c).cr]) (A3.out.1.res1 rfl rfl) rfl ⟨g, rfl, ?_, (A2.out.2.1.trans hk1 (fun i hi h => by have := A2.out.2.2.2.1; omega)).trans A3.out.2 (fun i hi h => by omega), A2.out.2.2.2.1⟩
  exact (A2.out.2.2.1.set k s).kept A3.out.2 (by omega)

end Go.Proofs.Ythlaeeepbkfkgaa
