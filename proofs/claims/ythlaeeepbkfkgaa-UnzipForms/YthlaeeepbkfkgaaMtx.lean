/-
  The program's maker of texts: Text and Len of package wire.
-/
import Derived.Test.YthlaeeepbkfkgaaHput
namespace Go.Proofs.Ythlaeeepbkfkgaa
open Go.RowKit
set_option linter.unusedVariables false
set_option linter.unusedSimpArgs false

theorem strCells_bytes (s : ByteArray) : Go.Lib.strCells s = (bytesOf s).map byteV := by
  simp [Go.Lib.strCells, bytesOf, byteV]
theorem append_text (w : World) (base : Nat) (v : Value) (xs : List Nat) (h : OwnB w base v xs) (s : ByteArray) (hb : base ≤ w.heap.size) (hn : xs.length + s.size ≤ 100000000) :
    ∃ v' w', (Builtin.append_ #[48, 9] 48 #[v, .string s]).run Try.prog w = .ok v' w' ∧ OwnB w' base v' (xs ++ bytesOf s) ∧ w.grownBy w' v.ownBlock ∧ (v'.ownBlock = v.ownBlock ∨ ∃ g, v'.ownBlock = some g ∧ w.heap.size ≤ g) := by
  obtain ⟨i, hi, hz0, hz1, hz2⟩ := info_parts info5
  have h63 : xs.length + s.size ≤ maxLen := by unfold maxLen; omega
  obtain ⟨v', w', hr, ho, hg, hnil⟩ := Go.Lib.run_append_own_string (P := Try.prog) (w := w) base 48 9 48 5 i Try.underlying48 Try.underlying9 hi hz0 hz1 hz2 v xs.length (xs.map byteV) h s h63 (by omega) hb
  refine ⟨v', w', hr, ?_, hg, ?_⟩
  · unfold OwnB
    rw [List.map_append, List.length_append, bytesOf_length, ← strCells_bytes]
    exact ho
  · rcases h.2 with ⟨rfl, h0⟩ | ⟨g, cap, cur, rfl, hbg, hgh, hnc, hcm, hcs, htake⟩
    · by_cases hs : s.size = 0
      · rw [hnil.2 ⟨rfl, hs⟩]; exact .inl rfl
      · have := Go.run_append_nil_string (P := Try.prog) w 48 9 48 5 i (.int .u8 0) Try.underlying48 Try.underlying9 hi hz0 s (by omega) (by omega) (by rw [hz2]; omega)
        rw [hr] at this
        injection this with e1 e2
        subst e1
        exact .inr ⟨_, rfl, Nat.le_refl _⟩
    · have hcs' : cur.size = cap := by simpa using hcs
      by_cases hroom : xs.length + s.size ≤ cap
      · have := Go.Lib.run_append_room_string (P := Try.prog) (w := w) 48 9 48 5 i Try.underlying48 Try.underlying9 hi hz1 g xs.length cap cur hgh s hroom (by omega)
        rw [hr] at this
        injection this with e1 e2
        subst e1
        exact .inl rfl
      · have holds : ∀ j u, (xs.map byteV)[j]? = some u → w.cell? ((⟨g, 0, none⟩ : Addr).add j) = some u := World.ownsRow.cells (g := g) h rfl
        have := Go.Lib.run_append_grow_string (P := Try.prog) (w := w) 48 9 48 5 i (.int .u8 0) Try.underlying48 Try.underlying9 hi hz0 ⟨g, 0, none⟩ xs.length cap (xs.map byteV) (by rw [hz1]; simp) holds s (by omega) (by omega) (by rw [hz2]; exact growslice_fits (by omega) (by omega))
        rw [hr] at this
        injection this with e1 e2
        subst e1
        exact .inr ⟨_, rfl, Nat.le_refl _⟩
theorem wpList_text {ops : Array Oper} {rest : List Oper} {o : Oper} {a : Act} {w : World} {Q : Exit → Act → World → Prop} (hgd : o.guard = none) (s x : Operand) (ho : o.op = .call { callee := .builtin .append, args := #[s, x], argTypes := #[48, 9] }) (hty : o.type = 48)
    (base : Nat) (v : Value) (xs : List Nat) (hs : a.eval s = v) (hown : OwnB w base v xs) (t : ByteArray) (hx : a.eval x = .string t) (hb : base ≤ w.heap.size) (hn : xs.length + t.size ≤ 100000000)
    (h : ∀ v' w', OwnB w' base v' (xs ++ bytesOf t) → w.grownBy w' v.ownBlock → (v'.ownBlock = v.ownBlock ∨ ∃ g, v'.ownBlock = some g ∧ w.heap.size ≤ g) → wpList Try.prog ops Q rest (a.put o.dst v') w') : wpList Try.prog ops Q (o :: rest) a w :=
  wpList_plain hgd fun _ hK => by
    obtain ⟨v', w', hr, h2, h3, h4⟩ := append_text w base v xs hown t hb hn
    unfold Oper.wp execOp
    simp only [ho, hty, resolve, invoke, builtin, Sem.run_bind, Sem.run_pure, Result.andThen_ok, List.map_toArray, List.map_cons, List.map_nil, hs, hx, hr]
    exact hK _ _ (h v' w' h2 h3 h4)
theorem OwnB.slice {w : World} {base : Nat} {v : Value} {xs : List Nat} (h : OwnB w base v xs) : ∃ a cap0, v = .slice a xs.length cap0 := by
  rcases h.2 with ⟨rfl, h0⟩ | ⟨g, cap, cur, rfl, _⟩
  · exact ⟨none, 0, by rw [h0]⟩
  · exact ⟨_, cap, rfl⟩
theorem onto_set {T : Lay} {p : Nat} {xs ys : List Nat} {v v' : Value} {w w1 : World} (hT : Txt T w p v xs) (ho : OwnB w1 (p + 1) v' ys) (hk : Keeps (fun k => v.ownBlock = some k) w w1)
    (hg : v'.ownBlock = v.ownBlock ∨ ∃ g, v'.ownBlock = some g ∧ w.heap.size ≤ g) : OntoT T w (w1.setCell ⟨p, 0, none⟩ v') p v ys := by
  have hlow : ∀ k, v.ownBlock = some k → p + 1 ≤ k := fun k e => (World.ownsRow.lt hT.2 k e).1
  have hp1 : w1.heap[p]? = some (.cells (v :: T.tl).toArray T.t (0, 0)) := (hk.block p hT.lt (fun e => by have := hlow p e; omega)).trans hT.1
  refine ⟨v', ⟨?_, ?_⟩, hg, (hk.mono (fun _ _ h => .inr h)).setCell (fun _ => .inl rfl) _⟩
  · rw [heap_setCell_same hp1]; simp
  · exact owns_far ho (p := ⟨p, 0, none⟩) (fun e => by have e' : v'.ownBlock = some p := e; have := (World.ownsRow.lt ho p e').1; omega) v'

set_option maxHeartbeats 4000000 in
set_option maxRecDepth 1000000 in
theorem text_ok (T : Lay) (p : Nat) (v : Value) (xs : List Nat) (t : ByteArray) (w : World) (hx : xs.length + t.size ≤ 100000000) (hT : Txt T w p v xs) :
    Calls Try.prog 56 #[.pointer (some ⟨p, 0, none⟩), .string t] w fun e w' => e = .returned (.tuple #[]) ∧ OntoT T w w' p v (xs ++ bytesOf t) := by
  obtain ⟨a, cap0, rfl⟩ := hT.slice
  have k0 : w.cell? ⟨p, 0, none⟩ = some (.slice a xs.length cap0) := cell_of_heap hT.1 rfl
  have HT : Hid (Txt T w p (.slice a xs.length cap0) xs) := hT
  have hpl := hT.lt
  have f0 : ∀ w1, Keeps (fun k => (Value.slice a xs.length cap0).ownBlock = some k) w w1 → w1.cell? ⟨p, 0, none⟩ = some (.slice a xs.length cap0) ∧ w1.frozen? ⟨p, 0, none⟩ = false := fun w1 hk => by
    have hp1 : w1.heap[p]? = some (.cells (.slice a xs.length cap0 :: T.tl).toArray T.t (0, 0)) := (hk.block p hT.lt (fun e => by have := (World.ownsRow.lt hT.2 p e).1; omega)).trans hT.1
    exact ⟨cell_of_heap hp1 rfl, frozen_of_heap hp1⟩
  have HF : Hid (∀ w1, Keeps (fun k => (Value.slice a xs.length cap0).ownBlock = some k) w w1 → w1.cell? ⟨p, 0, none⟩ = some (.slice a xs.length cap0) ∧ w1.frozen? ⟨p, 0, none⟩ = false) := f0
  clear hT f0
  go_enter Try.func56, Try.ntmps56
  go_wp2_with (at_builtin; refine wpList_text rfl _ _ rfl rfl (p + 1) (.slice a xs.length cap0) xs rfl HT.out.2 t rfl ?hb ?hn ?_)
  case hb => omega
  case hn => exact hx
  intro v' w1 ho hg hb
  have hk : Keeps (fun k => (Value.slice a xs.length cap0).ownBlock = some k) w w1 := (Keeps.refl _ w).grown hg (fun k _ e => e)
  obtain ⟨c1, e1⟩ := HF.out w1 hk
  obtain ⟨a', cap', hv'⟩ := ho.slice
  have H1 : Hid (OntoT T w (w1.setCell ⟨p, 0, none⟩ v') p (.slice a xs.length cap0) (xs ++ bytesOf t)) := onto_set HT.out ho hk hb
  clear ho hg hb hk
  subst hv'
  go_wp2
  go_end0
  have h1 := H1.out
  rw [List.length_append] at h1
  exact ⟨rfl, h1⟩

set_option maxHeartbeats 4000000 in
set_option maxRecDepth 1000000 in
theorem len_ok (T : Lay) (p : Nat) (v : Value) (xs : List Nat) (w : World) (hT : Txt T w p v xs) :
    Calls Try.prog 41 #[.pointer (some ⟨p, 0, none⟩)] w fun e w' => e = .returned (.int .i64 (xs.length : Int)) ∧ w' = w := by
  obtain ⟨a, cap, rfl⟩ := hT.slice
  have k0 : w.cell? ⟨p, 0, none⟩ = some (.slice a xs.length cap) := cell_of_heap hT.1 rfl
  clear hT
  go_enter Try.func41, Try.ntmps41
  go_wp2
  go_ret
  exact ⟨rfl, rfl⟩

theorem text_on {T : Lay} {p : Nat} {v : Value} {L : List Nat} {w1 w' : World} (t : ByteArray) (h : OntoT T w1 w' p v L) (hL : L.length + t.size ≤ 100000000) :
    Calls Try.prog 56 #[.pointer (some ⟨p, 0, none⟩), .string t] w' fun r w'' => r = .returned (.tuple #[]) ∧ OntoT T w1 w'' p v (L ++ bytesOf t) := by
  obtain ⟨v', hT, hb, hk⟩ := h
  refine (text_ok T p v' L t w' hL hT).mono ?_
  rintro r w'' ⟨rfl, h⟩
  exact ⟨rfl, OntoT.tr hb hk h⟩
theorem len_on {T : Lay} {p : Nat} {v : Value} {L : List Nat} {w1 w' : World} (h : OntoT T w1 w' p v L) :
    Calls Try.prog 41 #[.pointer (some ⟨p, 0, none⟩)] w' fun r w'' => r = .returned (.int .i64 (L.length : Int)) ∧ w'' = w' := by
  obtain ⟨v', hT, _⟩ := h
  exact len_ok T p v' L w' hT
/-- What only makes memory leaves the text as it is. -/
theorem OntoT.keptF {T : Lay} {p : Nat} {v : Value} {L : List Nat} {w1 w' w'' : World} (h : OntoT T w1 w' p v L) (hk : Keeps (fun _ => False) w' w'') : OntoT T w1 w'' p v L := by
  obtain ⟨v', h1, h2, h3⟩ := h
  exact ⟨v', h1.keptF hk, h2, h3.trans hk (fun _ _ h => h.elim)⟩

end Go.Proofs.Ythlaeeepbkfkgaa
