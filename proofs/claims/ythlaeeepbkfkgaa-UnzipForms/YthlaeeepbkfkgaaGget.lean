/-
  The program of package zipget: its takers, and Get; an archive read, in plain bytes.
-/
import Derived.Test.YthlaeeepbkfkgaaDcl
import Derived.Test.YthlaeeepbkfkgaaWtak
import Derived.Test.YthlaeeepbkfkgaaHget
import Derived.Test.YthlaeeepbkfkgaaZin
import Derived.Deep.RegionLaw
namespace Go.Proofs.Ythlaeeepbkfkgaa
open Go.RowKit
set_option linter.unusedVariables false
set_option linter.unusedSimpArgs false

/-! ### What is taken off an archive's bytes (no program in sight). -/
abbrev Dat := ByteArray × Bool × List Int × Int × Int × Int × ByteArray × Int × Int
/-- What an entry's first part tells, field by field, and what is behind it. -/
def tkN (L : List Nat) : Nat := num ((L.drop 26).take 2)
def tkP (L : List Nat) : Nat := num ((L.drop 18).take 4)
def tkB (L : List Nat) : List Nat := (L.drop 30).drop (tkN L)
def tkX (L : List Nat) : List Nat := (tkB L).take 26
def tkR (L : List Nat) : List Nat := ((tkB L).drop 26).drop (tkP L)
def tkD (L : List Nat) : Dat := (textOf ((L.drop 30).take (tkN L)), gGn (tkX L), gVec (tkX L), gSt (tkX L), gNd (tkX L), (num ((L.drop 8).take 2) : Int), textOf (((tkB L).drop 26).take (tkP L)), (num ((L.drop 22).take 4) : Int), (num ((L.drop 14).take 4) : Int))
def markB (L : List Nat) : Bool := decide (L.take 4 = [80, 75, 3, 4])
/-- The entries that are taken, n at most. -/
def tkF : Nat → List Nat → List Dat
  | 0, _ => []
  | n + 1, L => bif markB L then tkD L :: tkF n (tkR L) else []
/-- The same as the document takes them: none where bytes are lacking. -/
def rfF : Nat → List Nat → Option (List Dat)
  | 0, _ => some []
  | n + 1, L => bif decide (30 ≤ L.length) && markB L then (bif decide (56 + tkN L + tkP L ≤ L.length) then (rfF n (tkR L)).map (tkD L :: ·) else none) else some []

/-! ### Folders that a call owns, their vectors too; a folder in a block of its own. -/
/-- Block b is a folder whose entries are the slice v. -/
def Folb (w : World) (b : Nat) (v : Value) : Prop := w.heap[b]? = some (.cells #[v] 24 (0, 0))
theorem Folb.lt {w : World} {b : Nat} {v : Value} (h : Folb w b v) : b < w.heap.size := lt_of_heap h
theorem Folb.kept {S : Nat → Prop} {w w' : World} {b : Nat} {v : Value} (h : Folb w b v) (hk : Keeps S w w') (hb : ¬ S b) : Folb w' b v := (hk.block b h.lt hb).trans h
theorem Folb.keptF {w w' : World} {b : Nat} {v : Value} (h : Folb w b v) (hk : Keeps (fun _ => False) w w') : Folb w' b v := h.kept hk (fun h => h)
theorem Folb.c0 {w : World} {b : Nat} {v : Value} (h : Folb w b v) : w.cell? ⟨b, 0, none⟩ = some v := cell_of_heap h rfl
theorem Folb.free {w : World} {b : Nat} {v : Value} (h : Folb w b v) : w.frozen? ⟨b, 0, none⟩ = false := frozen_of_heap h
theorem Folb.new (w : World) (v : Value) : Folb (w.alloc (.cells #[v] 24)) w.heap.size v := heap_alloc_new _ _
theorem Folb.set {w : World} {b : Nat} {v : Value} (h : Folb w b v) (u : Value) : Folb (w.setCell ⟨b, 0, none⟩ u) b u := by
  unfold Folb
  rw [heap_setCell_same h]; rfl
theorem zeroF : (zeroValue 24).run Try.prog = fun w => .ok (.agg #[.slice none 0 0]) w := by kernel_rfl
theorem sizeFo : (Try.prog.info? 24).map (·.size) = some 1 := by kernel_rfl
theorem wpList_allocF {ops : Array Oper} {rest : List Oper} {op : Oper} {a : Act} {w : World} {Q : Exit → Act → World → Prop} (hgd : op.guard = none) (ho : op.op = .alloc 24)
    (h : ∀ b w1, Folb w1 b (.slice none 0 0) → Keeps (fun _ => False) w w1 → w.heap.size ≤ b → wpList Try.prog ops Q rest (a.put op.dst (.pointer (some ⟨b, 0, none⟩))) w1) : wpList Try.prog ops Q (op :: rest) a w :=
  wpList_plain hgd fun _ hK => by
    unfold Oper.wp execOp
    have hz := congrFun zeroF w
    simp only [ho, Instr.alloc, Sem.run_bind, hz, Result.andThen_ok]
    simp only [newVar, Sem.run_bind, Sem.run_pure, Result.andThen_ok]
    exact hK _ _ (h w.heap.size _ (Folb.new w _) ((Keeps.refl _ w).alloc _) (Nat.le_refl _))
theorem Folb.loadVar {w : World} {b : Nat} {v : Value} (h : Folb w b v) : (loadVar 24 ⟨b, 0, none⟩).run Try.prog w = .ok (.agg #[v]) w :=
  run_loadVar_mid w b 0 24 [v] _ (fun j u hu => by
    have hj : j = 0 := by have := (List.getElem?_eq_some_iff.1 hu).1; simpa using this
    subst hj
    simp only [List.getElem?_cons_zero, Option.some.injEq] at hu
    subst hu
    exact h.c0) Try.underlying24 rfl sizeFo
theorem Folb.res1 {fn : Func} {p : Tmp} {tmps : Array Value} {w : World} {b : Nat} {v : Value} (h : fn.results = #[.cell p 24]) (hp : tmps.getD p undef = .pointer (some ⟨b, 0, none⟩)) (hE : Folb w b v) :
    (results fn tmps).run Try.prog w = .ok (.agg #[v]) w := by
  rw [results_cell h, hp]
  simp only [asAddr, Sem.run_pure, Result.andThen_ok]
  exact hE.loadVar
theorem Folb.res2 {fn : Func} {p u : Tmp} {tmps : Array Value} {w : World} {b : Nat} {v : Value} {x : Value} (h : fn.results = #[.cell p 24, .tmp u]) (hp : tmps.getD p undef = .pointer (some ⟨b, 0, none⟩)) (hu : tmps.getD u undef = x) (hE : Folb w b v) :
    (results fn tmps).run Try.prog w = .ok (.tuple #[.agg #[v], x]) w := by
  rw [results_cell_tmp h, hp, hu]
  simp only [asAddr, Sem.run_pure, Result.andThen_ok, hE.loadVar]
/-- How many entries a folder's block has. -/
def lenAt (w : World) (b : Nat) : Nat := match w.cell? ⟨b, 0, none⟩ with
  | some (.slice _ n _) => n
  | _ => 0
theorem Folb.len {w : World} {b n cap : Nat} {a : Option Addr} (h : Folb w b (.slice a n cap)) : lenAt w b = n := by rw [lenAt, h.c0]

/-- An entry's vector, as a slice. -/
def slV (x : It) : Value := .slice x.1.va x.1.vn x.1.vc
/-- The vectors are the call's own, each in a block of its own. -/
def VecsV (w : World) (base : Nat) (es : List It) : Prop := (∀ x ∈ es, x.1.vn = x.2.length ∧ OwnV w base (slV x) x.2) ∧ es.Pairwise (fun x y => ∀ k, (slV x).ownBlock = some k → (slV y).ownBlock ≠ some k)
/-- A folder that a call owns. -/
def FolO (w : World) (base : Nat) (v : Value) (es : List It) : Prop := OwnF w base v es ∧ VecsV w base es
theorem VecsV.kept {S : Nat → Prop} {w w' : World} {base : Nat} {es : List It} (h : VecsV w base es) (hk : Keeps S w w') (hS : ∀ k, base ≤ k → k < w.heap.size → ¬ S k) : VecsV w' base es :=
  ⟨fun x hx => ⟨(h.1 x hx).1, (h.1 x hx).2.kept hk (fun k e => hS k ((h.1 x hx).2.lo k e).1 ((h.1 x hx).2.lo k e).2)⟩, h.2⟩
theorem VecsV.keptF {w w' : World} {base : Nat} {es : List It} (h : VecsV w base es) (hk : Keeps (fun _ => False) w w') : VecsV w' base es := h.kept hk (fun _ _ _ h => h)
theorem FolO.kept {S : Nat → Prop} {w w' : World} {base : Nat} {v : Value} {es : List It} (h : FolO w base v es) (hk : Keeps S w w') (hS : ∀ k, base ≤ k → k < w.heap.size → ¬ S k) : FolO w' base v es :=
  ⟨h.1.kept hk (fun k e => hS k (h.1.lo k e).1 (h.1.lo k e).2), h.2.kept hk hS⟩
theorem FolO.keptF {w w' : World} {base : Nat} {v : Value} {es : List It} (h : FolO w base v es) (hk : Keeps (fun _ => False) w w') : FolO w' base v es := h.kept hk (fun _ _ _ h => h)
theorem FolO.nil (w : World) (base : Nat) : FolO w base (.slice none 0 0) [] := ⟨OwnF.nil _ _, by simp, List.Pairwise.nil⟩
theorem OwnF.mono {w : World} {base base' : Nat} {v : Value} {es : List It} (h : OwnF w base v es) (hb : base' ≤ base) : OwnF w base' v es := by
  refine ⟨h.1, ?_⟩
  rcases h.2 with h | ⟨g, cap, cur, e, hg, r⟩
  · exact .inl h
  · exact .inr ⟨g, cap, cur, e, Nat.le_trans hb hg, r⟩
theorem VecsV.mono {w : World} {base base' : Nat} {es : List It} (h : VecsV w base es) (hb : base' ≤ base) : VecsV w base' es := ⟨fun x hx => ⟨(h.1 x hx).1, (h.1 x hx).2.mono hb⟩, h.2⟩
theorem FolO.mono {w : World} {base base' : Nat} {v : Value} {es : List It} (h : FolO w base v es) (hb : base' ≤ base) : FolO w base' v es := ⟨h.1.mono hb, h.2.mono hb⟩
/-- Entries and counts lie in blocks of unlike types. -/
theorem apart_types {w : World} {base base' : Nat} {v v' : Value} {es : List It} {ys : List Int} {g : Nat} (h : OwnF w base v es) (h' : OwnV w base' v' ys) (e : v.ownBlock = some g) (e' : v'.ownBlock = some g) : False := by
  rcases h.2 with ⟨rfl, _⟩ | ⟨g1, cap, cur, rfl, _, h1, _⟩
  · cases e
  · rcases h'.2 with ⟨rfl, _⟩ | ⟨g2, cap2, cur2, rfl, _, h2, _⟩
    · cases e'
    · have e1 : g1 = g := by simpa [Value.ownBlock] using e
      have e2 : g2 = g := by simpa [Value.ownBlock] using e'
      subst e1
      subst e2
      rw [h1] at h2
      simp at h2
theorem FolO.fol {w : World} {base : Nat} {v : Value} {es : List It} (h : FolO w base v es) : ∃ a cap, v = .slice a es.length cap ∧ Fol w a es :=
  h.1.fol (fun x hx => by
    obtain ⟨h1, h2⟩ := h.2.1 x hx
    obtain ⟨a, cap, e, hr, _⟩ := h2.row
    simp only [slV, Value.slice.injEq] at e
    rw [e.1]
    exact ⟨h1, hr⟩)
theorem FolO.folS {w : World} {base : Nat} {a : Option Addr} {cap : Nat} {es : List It} (h : FolO w base (.slice a es.length cap) es) : Fol w a es := by
  obtain ⟨a', cap', e, hf⟩ := h.fol
  simp only [Value.slice.injEq] at e
  rw [e.1]; exact hf
theorem VecsV.snoc {w : World} {base lo : Nat} {es : List It} {x : It} (h : VecsV w base es) (hl : ∀ y ∈ es, ∀ k, (slV y).ownBlock = some k → k < lo) (hv : x.1.vn = x.2.length) (hx : OwnV w lo (slV x) x.2) (hb : base ≤ lo) : VecsV w base (es ++ [x]) := by
  refine ⟨fun y hy => ?_, ?_⟩
  · rcases List.mem_append.1 hy with hy | hy
    · exact h.1 y hy
    · rw [List.mem_singleton.1 hy]; exact ⟨hv, hx.mono hb⟩
  · rw [List.pairwise_append]
    refine ⟨h.2, List.pairwise_singleton _ _, fun y hy z hz k hk e => ?_⟩
    rw [List.mem_singleton.1 hz] at e
    have := (hx.lo k e).1
    have := hl y hy k hk
    omega
theorem VecsV.low {w : World} {base : Nat} {es : List It} (h : VecsV w base es) : ∀ y ∈ es, ∀ k, (slV y).ownBlock = some k → k < w.heap.size := fun y hy k hk => ((h.1 y hy).2.lo k hk).2
/-- An entry more. -/
theorem FolO.add {w w5 w6 : World} {base : Nat} {v v' : Value} {es : List It} {x : It} (h : FolO w base v es) (hb : base ≤ w.heap.size) (S : Nat → Prop) (hk : Keeps S w w5) (hS : ∀ k, base ≤ k → k < w.heap.size → ¬ S k) (hv : x.1.vn = x.2.length) (hx : OwnV w5 w.heap.size (slV x) x.2) (hk6 : Keeps (fun k => v.ownBlock = some k) w5 w6) (ho : OwnF w6 base v' (es ++ [x])) : FolO w6 base v' (es ++ [x]) := by
  refine ⟨ho, ?_⟩
  have h5 := h.kept hk hS
  have h6 : VecsV w6 base es := ⟨fun y hy => ⟨(h5.2.1 y hy).1, (h5.2.1 y hy).2.kept hk6 (fun k e q => apart_types h5.1 (h5.2.1 y hy).2 q e)⟩, h5.2.2⟩
  exact h6.snoc h.2.low hv (hx.kept hk6 (fun k e q => apart_types h5.1 hx q e)) hb

/-! ### The program's taker of pieces: Text and Begins of package wire; what is the same in all archives. -/
theorem text_of_bytes {p : ByteArray} {l : List Nat} (h : bytesOf p = l) : p = textOf l := by rw [← h, textOf_bytes]

set_option maxHeartbeats 4000000 in
set_option maxRecDepth 1000000 in
theorem texts_ok (T : TypeId) (b k : Nat) (L : List Nat) (w : World) (hk : k ≤ 1125899906842624) (h : Tkr T w b L) :
    Calls Try.prog 66 #[.pointer (some ⟨b, 0, none⟩), .int .i64 (k : Int)] w fun e w' => e = .returned (.string (textOf (L.take k))) ∧ Tkr T w' b (L.drop k) ∧ Keeps (fun x => x = b) w w' := by
  have HC : Hid (Calls Try.prog 74 #[.pointer (some ⟨b, 0, none⟩), .int .i64 (k : Int)] w fun e w' => ∃ p, e = .returned (.string p) ∧ bytesOf p = L.take k ∧ p.size ≤ 140737488355328 ∧ p.size ≤ k ∧ Tkr T w' b (L.drop k) ∧ Keeps (fun x => x = b) w w') := piece_ok T b k L w hk h
  clear h
  go_enter Try.func66, Try.ntmps66
  go_wp2_with (first
    | (go_at_call 74; refine HC.out.mono ?_; rintro e w1 ⟨p, rfl, h1, h2, h3, h4, h5⟩; obtain rfl := text_of_bytes h1; have H1 : Hid ((textOf (L.take k)).size ≤ 140737488355328 ∧ Tkr T w1 b (L.drop k) ∧ Keeps (fun x => x = b) w w1) := ⟨h2, h4, h5⟩; clear h1 h2 h3 h4 h5)
    | (go_at_call 73; refine (clone_ok _ w1 (Nat.le_trans H1.out.1 (by decide))).mono ?_; rintro e w2 ⟨rfl, h⟩; have H2 : Hid (Keeps (fun _ => False) w1 w2) := h; clear h))
  go_ret
  exact ⟨rfl, H1.out.2.1.keptF H2.out, H1.out.2.2.trans H2.out (fun _ _ h => h.elim)⟩

theorem begins_eq (r p : ByteArray) (hp : p.size ≤ r.size) : ((r.extract 0 p.size).toList == p.toList) = decide ((bytesOf r).take p.size = bytesOf p) := by
  rw [beq_toList, Bool.eq_iff_iff, decide_eq_true_eq, decide_eq_true_eq]
  have e : bytesOf (r.extract 0 p.size) = (bytesOf r).take p.size := by rw [bytesOf_extract, List.drop_zero]
  constructor
  · intro h; rw [← e, h]
  · intro h; exact bytesOf_inj (e.trans h)
/-- Does a text begin with a mark? -/
def begB (r p : ByteArray) : Bool := decide ((bytesOf r).take p.size = bytesOf p)
theorem begB_short {r p : ByteArray} (h : r.size < p.size) : begB r p = false := decide_eq_false (fun q => by
  have := congrArg List.length q
  rw [List.length_take, bytesOf_length, bytesOf_length] at this
  omega)
set_option maxHeartbeats 4000000 in
set_option maxRecDepth 1000000 in
theorem lprefix_ok (r p : ByteArray) (w : World) (hr : r.size ≤ 140737488355328) :
    Calls Try.prog 72 #[.string r, .string p] w fun e w' => e = .returned (.bool (begB r p)) ∧ w' = w := by
  by_cases hp : p.size ≤ r.size
  · have hpz : (p.size : Int) ≤ (r.size : Int) := by omega
    have hp0 : (0 : Int) ≤ (p.size : Int) := by omega
    have hge : (r.size : Int) ≥ (p.size : Int) := hpz
    have HE : Hid (((r.extract 0 p.size).toList == p.toList) = begB r p) := begins_eq r p hp
    obtain ⟨B, hB⟩ : ∃ B, begB r p = B := ⟨_, rfl⟩
    rw [hB] at HE ⊢
    have he : ((r.extract 0 p.size).toList == p.toList) = B := HE.out
    clear hB
    cases B
    · go_enter Try.func72, Try.ntmps72
      go_wp2
      go_ret
      exact ⟨rfl, rfl⟩
    · go_enter Try.func72, Try.ntmps72
      go_wp2
      go_ret
      exact ⟨rfl, rfl⟩
  · rw [begB_short (by omega)]
    have hpz : ¬ (p.size : Int) ≤ (r.size : Int) := by omega
    have hge : ¬ (r.size : Int) ≥ (p.size : Int) := hpz
    have hlt : (r.size : Int) < (p.size : Int) := by omega
    go_enter Try.func72, Try.ntmps72
    go_wp2
    go_ret
    exact ⟨rfl, rfl⟩
set_option maxHeartbeats 4000000 in
set_option maxRecDepth 1000000 in
theorem prefix_ok (r p : ByteArray) (w : World) (hr : r.size ≤ 140737488355328) :
    Calls Try.prog 65 #[.string r, .string p] w fun e w' => e = .returned (.bool (begB r p)) ∧ w' = w := by
  have HC : Hid (Calls Try.prog 72 #[.string r, .string p] w fun e w' => e = .returned (.bool (begB r p)) ∧ w' = w) := lprefix_ok r p w hr
  generalize begB r p = B at *
  go_enter Try.func65, Try.ntmps65
  go_wp2_with fail
  refine HC.out.mono ?_
  rintro e w' ⟨rfl, hw⟩; obtain rfl := hw.symm; clear hw
  go_wp2
  go_ret
  exact ⟨rfl, rfl⟩
set_option maxHeartbeats 4000000 in
set_option maxRecDepth 1000000 in
theorem begins_ok (T : TypeId) (b : Nat) (L : List Nat) (p : ByteArray) (w : World) (h : Tkr T w b L) :
    Calls Try.prog 52 #[.pointer (some ⟨b, 0, none⟩), .string p] w fun e w' => e = .returned (.bool (decide (L.take p.size = bytesOf p))) ∧ w' = w := by
  obtain ⟨r, hb, rfl, hs⟩ := h
  have h0 : w.cell? ⟨b, 0, none⟩ = some (.string r) := cell_of_heap hb rfl
  have HC : Hid (Calls Try.prog 65 #[.string r, .string p] w fun e w' => e = .returned (.bool (begB r p)) ∧ w' = w) := prefix_ok r p w hs
  show Calls Try.prog 52 #[.pointer (some ⟨b, 0, none⟩), .string p] w fun e w' => e = .returned (.bool (begB r p)) ∧ w' = w
  generalize begB r p = B at *
  clear hb hs
  go_enter Try.func52, Try.ntmps52
  go_wp2_with fail
  refine HC.out.mono ?_
  rintro e w' ⟨rfl, hw⟩; obtain rfl := hw.symm; clear hw
  go_wp2
  go_ret
  exact ⟨rfl, rfl⟩

set_option maxHeartbeats 4000000 in
set_option maxRecDepth 1000000 in
/-- Numbers that are the same in all archives are gone over. -/
theorem over_ok (b k : Nat) (L : List Nat) (w : World) (hk : k ≤ 2) (h : Tkr 63 w b L) :
    Calls Try.prog 67 #[.pointer (some ⟨b, 0, none⟩), .int .i64 (k : Int)] w fun e w' => e = .returned (.tuple #[]) ∧ Tkr 63 w' b (L.drop (2 * k)) ∧ Keeps (fun x => x = b) w w' := by
  have HT : Hid (Tkr 63 w b (L.drop (2 * 0)) ∧ Keeps (fun x => x = b) w w) := ⟨h, Keeps.refl _ _⟩
  clear h
  go_enter Try.func67, Try.ntmps67
  go_wp2
  go_loopw [5] (fun s5 w' => ∃ i : Nat, i ≤ k ∧ s5 = .int .i64 (i : Int) ∧ Hid (Tkr 63 w' b (L.drop (2 * i)) ∧ Keeps (fun x => x = b) w w')) (fun s5 _ => ((k : Int) - intOf s5).toNat)
  case atStart => exact ⟨0, by omega, rfl, HT⟩
  case round =>
    clear HT
    obtain ⟨i, hi, rfl, HT⟩ := hrel
    by_cases hin : i < k
    · have hiz : (i : Int) < (k : Int) := by omega
      have HN : Hid (Calls Try.prog 68 #[.pointer (some ⟨b, 0, none⟩), .int .i64 ((2 : Nat) : Int)] wr fun e w' => e = .returned (.int .i64 (num ((L.drop (2 * i)).take 2) : Int)) ∧ Tkr 63 w' b ((L.drop (2 * i)).drop 2) ∧ Keeps (fun x => x = b) wr w') := take_ok _ b 2 _ wr (by decide) HT.out.1
      go_wp2_with (first
        | (go_at_call 68; refine HN.out.mono ?_; rintro e w2 ⟨rfl, h1, h2⟩; have H2 : Hid (Tkr 63 w2 b (L.drop (2 * (i + 1))) ∧ Keeps (fun x => x = b) w w2) := ⟨(by rw [List.drop_drop] at h1; exact h1), HT.out.2.trans h2 (fun _ _ h => h)⟩; clear h1 h2))
      go_roundw
      case rel => exact ⟨i + 1, by omega, by push_cast; rfl, H2⟩
      case measure => simp [intOf]; omega
    · obtain rfl : i = k := by omega
      go_wp2
      go_end0
      exact ⟨rfl, HT.out⟩

/-! ### The program's taker of one entry. -/
/-- Where the taker stands: block b has L left, the result lies in block b2. -/
structure Ge (w0 w' : World) (b b2 : Nat) (L : List Nat) : Prop where
  tk : Tkr 63 w' b L
  re : Entb w' b2 Ent.zero
  kp : Keeps (fun x => x = b) w0 w'
  ap : b < w0.heap.size ∧ w0.heap.size ≤ b2
theorem Ge.drew {w0 w' : World} {b b2 : Nat} {L : List Nat} (h : Ge w0 w' b b2 L) : Ge w0 w'.drew b b2 L :=
  ⟨h.tk.keptF (Keeps.refl _ w').drew, h.re.keptF (Keeps.refl _ w').drew, h.kp.drew, h.ap⟩
theorem Ge.next {w0 w' w'' : World} {b b2 : Nat} {L M : List Nat} (h : Ge w0 w' b b2 L) (h1 : Tkr 63 w'' b M) (h2 : Keeps (fun x => x = b) w' w'') : Ge w0 w'' b b2 M := by
  obtain ⟨a1, a2⟩ := h.ap
  exact ⟨h1, h.re.kept h2 (by omega), h.kp.trans h2 (fun _ _ h => h), h.ap⟩
theorem Ge.num {w0 w' : World} {b b2 : Nat} {L : List Nat} (k : Nat) (hk : k ≤ 6) (h : Ge w0 w' b b2 L) :
    Calls Try.prog 68 #[.pointer (some ⟨b, 0, none⟩), .int .i64 (k : Int)] w' fun r w'' => r = .returned (.int .i64 (num (L.take k) : Int)) ∧ Ge w0 w'' b b2 (L.drop k) := by
  refine (take_ok _ b k L w' hk h.tk).mono ?_
  rintro r w'' ⟨rfl, h1, h2⟩
  exact ⟨rfl, h.next h1 h2⟩
theorem Ge.text {w0 w' : World} {b b2 : Nat} {L : List Nat} (k : Nat) (hk : k ≤ 1125899906842624) (h : Ge w0 w' b b2 L) :
    Calls Try.prog 66 #[.pointer (some ⟨b, 0, none⟩), .int .i64 (k : Int)] w' fun r w'' => r = .returned (.string (textOf (L.take k))) ∧ Ge w0 w'' b b2 (L.drop k) := by
  refine (texts_ok _ b k L w' hk h.tk).mono ?_
  rintro r w'' ⟨rfl, h1, h2⟩
  exact ⟨rfl, h.next h1 h2⟩
theorem Ge.over {w0 w' : World} {b b2 : Nat} {L : List Nat} (k : Nat) (hk : k ≤ 2) (h : Ge w0 w' b b2 L) :
    Calls Try.prog 67 #[.pointer (some ⟨b, 0, none⟩), .int .i64 (k : Int)] w' fun r w'' => r = .returned (.tuple #[]) ∧ Ge w0 w'' b b2 (L.drop (2 * k)) := by
  refine (over_ok b k L w' hk h.tk).mono ?_
  rintro r w'' ⟨rfl, h1, h2⟩
  exact ⟨rfl, h.next h1 h2⟩
/-- The same with the entry in block b9, its row being v. -/
structure Gf (w0 w' : World) (b b2 b9 : Nat) (L : List Nat) (e : Ent) (V : List Int) : Prop where
  tk : Tkr 63 w' b L
  re : Entb w' b2 Ent.zero
  en : Entb w' b9 e
  ow : OwnV w' w0.heap.size (.slice e.va e.vn e.vc) V
  kp : Keeps (fun x => x = b) w0 w'
  ap : b < w0.heap.size ∧ w0.heap.size ≤ b2 ∧ w0.heap.size ≤ b9 ∧ b2 ≠ b9
  aw : ∀ k, (Value.slice e.va e.vn e.vc).ownBlock = some k → k ≠ b2 ∧ k ≠ b9
theorem Gf.text {w0 w' : World} {b b2 b9 : Nat} {L : List Nat} {e : Ent} {V : List Int} (k : Nat) (hk : k ≤ 1125899906842624) (h : Gf w0 w' b b2 b9 L e V) :
    Calls Try.prog 66 #[.pointer (some ⟨b, 0, none⟩), .int .i64 (k : Int)] w' fun r w'' => r = .returned (.string (textOf (L.take k))) ∧ Gf w0 w'' b b2 b9 (L.drop k) e V := by
  refine (texts_ok _ b k L w' hk h.tk).mono ?_
  rintro r w'' ⟨rfl, h1, h2⟩
  obtain ⟨a1, a2, a3, a4⟩ := h.ap
  exact ⟨rfl, h1, h.re.kept h2 (by omega), h.en.kept h2 (by omega), h.ow.kept h2 (fun k hk q => by have := (h.ow.lo k hk).1; omega), h.kp.trans h2 (fun _ _ h => h), h.ap, h.aw⟩
theorem Gf.setf {w0 w' : World} {b b2 b9 : Nat} {L : List Nat} {e : Ent} {V : List Int} (h : Gf w0 w' b b2 b9 L e V) (j : Nat) (v : Value) (u : Ent) (hu : (#[.string e.nm, .bool e.gn, .slice e.va e.vn e.vc, .int .i64 e.st, .int .i64 e.nd, .int .i64 e.mt, .string e.pk, .int .i64 e.sz, .int .i64 e.cr] : Array Value).setIfInBounds j v = #[.string u.nm, .bool u.gn, .slice u.va u.vn u.vc, .int .i64 u.st, .int .i64 u.nd, .int .i64 u.mt, .string u.pk, .int .i64 u.sz, .int .i64 u.cr]) (hv : (Value.slice u.va u.vn u.vc) = (Value.slice e.va e.vn e.vc)) : Gf w0 (w'.setCell ⟨b9, j, none⟩ v) b b2 b9 L u V := by
  obtain ⟨a1, a2, a3, a4⟩ := h.ap
  have hk : Keeps (fun x => x = b9) w' (w'.setCell ⟨b9, j, none⟩ v) := (Keeps.refl (fun x => x = b9) w').setCell (p := ⟨b9, j, none⟩) (fun _ => rfl) v
  refine ⟨h.tk.kept hk (by omega), h.re.kept hk (by omega), h.en.setC j v u hu, ?_, h.kp.trans hk (fun i hi h => by omega), h.ap, ?_⟩
  · rw [hv]; exact h.ow.kept hk (fun k hk q => (h.aw k hk).2 q)
  · rw [hv]; exact h.aw
theorem Tkr.small {T : TypeId} {w : World} {b : Nat} {L : List Nat} (h : Tkr T w b L) : ∀ y ∈ L, y < 256 := by
  obtain ⟨r, _, rfl, _⟩ := h; exact bytesOf_lt r
theorem num_part (L : List Nat) (h : ∀ y ∈ L, y < 256) (i : Nat) : num ((L.drop i).take 2) < 65536 ∧ num ((L.drop i).take 4) < 4294967296 := by
  have q : ∀ k, num ((L.drop i).take k) < 256 ^ k := fun k => by
    refine Nat.lt_of_lt_of_le (num_lt _ (fun y hy => h y (List.mem_of_mem_drop (List.mem_of_mem_take hy)))) (Nat.pow_le_pow_right (by decide) ?_)
    rw [List.length_take]; omega
  exact ⟨q 2, q 4⟩

set_option maxHeartbeats 8000000 in
set_option maxRecDepth 1000000 in
theorem entry_ok (b : Nat) (L : List Nat) (w : World) (h : Tkr 63 w b L) :
    Calls Try.prog 53 #[.pointer (some ⟨b, 0, none⟩)] w fun r w' => ∃ e V, r = .returned (.agg #[.string e.nm, .bool e.gn, .slice e.va e.vn e.vc, .int .i64 e.st, .int .i64 e.nd, .int .i64 e.mt, .string e.pk, .int .i64 e.sz, .int .i64 e.cr]) ∧ dat (e, V) = tkD L ∧ e.vn = V.length ∧ OwnV w' w.heap.size (.slice e.va e.vn e.vc) V ∧ Tkr 63 w' b (tkR L) ∧ Keeps (fun x => x = b) w w' := by
  have hs := h.small
  have hb := h.lt
  have HT : Hid (Tkr 63 w b L ∧ b < w.heap.size) := ⟨h, hb⟩
  have dd : ∀ i j k, i + j = k → (L.drop i).drop j = L.drop k := fun i j k e => by rw [List.drop_drop, e]
  have hX : bytesOf (textOf (tkX L)) = tkX L := bytesOf_text _ (fun y hy => hs y (List.mem_of_mem_drop (List.mem_of_mem_drop (List.mem_of_mem_take hy))))
  have hXs : (textOf (tkX L)).size ≤ 140737488355328 := by rw [textOf_size, tkX, List.length_take]; omega
  have S1 : Hid (∀ b2 w', Ge w w' b b2 L → Calls Try.prog 66 #[.pointer (some ⟨b, 0, none⟩), .int .i64 4] w' fun r w'' => r = .returned (.string (textOf (L.take 4))) ∧ Ge w w'' b b2 (L.drop 4)) := fun b2 w' hG => by
    have := hG.text 4 (by decide)
    exact this
  have S2 : Hid (∀ b2 w', Ge w w' b b2 (L.drop 4) → Calls Try.prog 67 #[.pointer (some ⟨b, 0, none⟩), .int .i64 2] w' fun r w'' => r = .returned (.tuple #[]) ∧ Ge w w'' b b2 (L.drop 8)) := fun b2 w' hG => by
    have := hG.over 2 (by decide)
    rw [dd 4 (2 * 2) 8 rfl] at this; exact this
  have S3 : Hid (∀ b2 w', Ge w w' b b2 (L.drop 8) → Calls Try.prog 68 #[.pointer (some ⟨b, 0, none⟩), .int .i64 2] w' fun r w'' => r = .returned (.int .i64 (num ((L.drop 8).take 2) : Int)) ∧ Ge w w'' b b2 (L.drop 10)) := fun b2 w' hG => by
    have := hG.num 2 (by decide)
    rw [dd 8 2 10 rfl] at this; exact this
  have S4 : Hid (∀ b2 w', Ge w w' b b2 (L.drop 10) → Calls Try.prog 67 #[.pointer (some ⟨b, 0, none⟩), .int .i64 2] w' fun r w'' => r = .returned (.tuple #[]) ∧ Ge w w'' b b2 (L.drop 14)) := fun b2 w' hG => by
    have := hG.over 2 (by decide)
    rw [dd 10 (2 * 2) 14 rfl] at this; exact this
  have S5 : Hid (∀ b2 w', Ge w w' b b2 (L.drop 14) → Calls Try.prog 68 #[.pointer (some ⟨b, 0, none⟩), .int .i64 4] w' fun r w'' => r = .returned (.int .i64 (num ((L.drop 14).take 4) : Int)) ∧ Ge w w'' b b2 (L.drop 18)) := fun b2 w' hG => by
    have := hG.num 4 (by decide)
    rw [dd 14 4 18 rfl] at this; exact this
  have S6 : Hid (∀ b2 w', Ge w w' b b2 (L.drop 18) → Calls Try.prog 68 #[.pointer (some ⟨b, 0, none⟩), .int .i64 4] w' fun r w'' => r = .returned (.int .i64 (tkP L : Int)) ∧ Ge w w'' b b2 (L.drop 22)) := fun b2 w' hG => by
    have := hG.num 4 (by decide)
    rw [dd 18 4 22 rfl] at this; exact this
  have S7 : Hid (∀ b2 w', Ge w w' b b2 (L.drop 22) → Calls Try.prog 68 #[.pointer (some ⟨b, 0, none⟩), .int .i64 4] w' fun r w'' => r = .returned (.int .i64 (num ((L.drop 22).take 4) : Int)) ∧ Ge w w'' b b2 (L.drop 26)) := fun b2 w' hG => by
    have := hG.num 4 (by decide)
    rw [dd 22 4 26 rfl] at this; exact this
  have S8 : Hid (∀ b2 w', Ge w w' b b2 (L.drop 26) → Calls Try.prog 68 #[.pointer (some ⟨b, 0, none⟩), .int .i64 2] w' fun r w'' => r = .returned (.int .i64 (tkN L : Int)) ∧ Ge w w'' b b2 (L.drop 28)) := fun b2 w' hG => by
    have := hG.num 2 (by decide)
    rw [dd 26 2 28 rfl] at this; exact this
  have S9 : Hid (∀ b2 w', Ge w w' b b2 (L.drop 28) → Calls Try.prog 67 #[.pointer (some ⟨b, 0, none⟩), .int .i64 1] w' fun r w'' => r = .returned (.tuple #[]) ∧ Ge w w'' b b2 (L.drop 30)) := fun b2 w' hG => by
    have := hG.over 1 (by decide)
    rw [dd 28 (2 * 1) 30 rfl] at this; exact this
  have hN : tkN L < 65536 := (num_part L hs 26).1
  have hP : tkP L < 4294967296 := (num_part L hs 18).2
  have S10 : Hid (∀ b2 w', Ge w w' b b2 (L.drop 30) → Calls Try.prog 66 #[.pointer (some ⟨b, 0, none⟩), .int .i64 (tkN L : Int)] w' fun r w'' => r = .returned (.string (textOf ((L.drop 30).take (tkN L)))) ∧ Ge w w'' b b2 (tkB L)) := fun b2 w' hG => hG.text (tkN L) (by omega)
  have S11 : Hid (∀ b2 w', Ge w w' b b2 (tkB L) → Calls Try.prog 66 #[.pointer (some ⟨b, 0, none⟩), .int .i64 26] w' fun r w'' => r = .returned (.string (textOf (tkX L))) ∧ Ge w w'' b b2 ((tkB L).drop 26)) := fun b2 w' hG => hG.text 26 (by decide)
  have S12 : Hid (∀ w', Calls Try.prog 69 #[.string (textOf (tkX L))] w' fun r w'' => ∃ a n c, r = .returned (.tuple #[.agg #[.string ⟨#[]⟩, .bool (gGn (tkX L)), .slice a n c, .int .i64 (gSt (tkX L)), .int .i64 (gNd (tkX L)), .int .i64 0, .string ⟨#[]⟩, .int .i64 0, .int .i64 0], .int .i64 (gErr (tkX L))]) ∧ OwnV w'' w'.heap.size (.slice a n c) (gVec (tkX L)) ∧ n = (gVec (tkX L)).length ∧ Keeps (fun _ => False) w' w'') := fun w' => by
    have := get_ok (textOf (tkX L)) w' hXs
    rw [hX] at this; exact this
  have S13 : Hid (∀ b2 b9 e V w', Gf w w' b b2 b9 ((tkB L).drop 26) e V → Calls Try.prog 66 #[.pointer (some ⟨b, 0, none⟩), .int .i64 (tkP L : Int)] w' fun r w'' => r = .returned (.string (textOf (((tkB L).drop 26).take (tkP L)))) ∧ Gf w w'' b b2 b9 (tkR L) e V) := fun b2 b9 e V w' hG => hG.text (tkP L) (by omega)
  have HD : Hid (tkD L = (textOf ((L.drop 30).take (tkN L)), gGn (tkX L), gVec (tkX L), gSt (tkX L), gNd (tkX L), (num ((L.drop 8).take 2) : Int), textOf (((tkB L).drop 26).take (tkP L)), (num ((L.drop 22).take 4) : Int), (num ((L.drop 14).take 4) : Int))) := rfl
  clear hX hXs dd hN hP hs h hb
  generalize textOf (L.take 4) = MK at *
  generalize num ((L.drop 8).take 2) = M at *
  generalize num ((L.drop 14).take 4) = C at *
  generalize num ((L.drop 22).take 4) = Z at *
  generalize textOf ((L.drop 30).take (tkN L)) = NM at *
  generalize textOf (((tkB L).drop 26).take (tkP L)) = PK at *
  generalize textOf (tkX L) = XT at *
  generalize gGn (tkX L) = gn at *
  generalize gVec (tkX L) = V at *
  generalize gSt (tkX L) = st at *
  generalize gNd (tkX L) = nd at *
  generalize gErr (tkX L) = xe at *
  generalize tkP L = P at *
  generalize tkN L = N at *
  generalize tkD L = DD at *
  generalize (tkB L).drop 26 = L26 at *
  generalize tkB L = LB at *
  generalize tkR L = LR at *
  generalize L.drop 30 = L30 at *
  generalize L.drop 28 = L28 at *
  generalize L.drop 26 = L26' at *
  generalize L.drop 22 = L22 at *
  generalize L.drop 18 = L18 at *
  generalize L.drop 14 = L14 at *
  generalize L.drop 10 = L10 at *
  generalize L.drop 8 = L8 at *
  generalize L.drop 4 = L4 at *
  go_enter Try.func53, Try.ntmps53
  go_wp2_with (first
    | (refine wpList_alloc9 rfl rfl ?_; (fail_if_success (clear G0)); intro b2 w1 hE hK hb; have G0 : Hid (Ge w w1 b b2 L) := ⟨HT.out.1.keptF hK, hE, hK.mono (fun _ _ h => h.elim), HT.out.2, hb⟩; clear hE hK hb)
    | (go_at_call 66; (fail_if_success (clear G1)); refine (S1.out b2 w1 G0.out).mono ?_; rintro r w2 ⟨rfl, h⟩; have G1 : Hid (Ge w w2 b b2 L4) := h; clear h)
    | (go_at_call 67; (fail_if_success (clear G2)); refine (S2.out b2 w2 G1.out).mono ?_; rintro r w3 ⟨rfl, h⟩; have G2 : Hid (Ge w w3 b b2 L8) := h; clear h)
    | (go_at_call 68; (fail_if_success (clear G3)); refine (S3.out b2 w3 G2.out).mono ?_; rintro r w4 ⟨rfl, h⟩; have G3 : Hid (Ge w w4 b b2 L10) := h; clear h)
    | (go_at_call 67; (fail_if_success (clear G4)); refine (S4.out b2 w4 G3.out).mono ?_; rintro r w5 ⟨rfl, h⟩; have G4 : Hid (Ge w w5 b b2 L14) := h; clear h))
  have GD : Hid (Ge w w5.drew b b2 L14) := G4.out.drew
  have z0 : w5.cell? ⟨b2, 0, none⟩ = some (.string ⟨#[]⟩) := G4.out.re.c0
  clear G1 G2 G3 S1 S2 S3 S4
  go_region_held3 (fun w' => w'.cell? ⟨b2, 0, none⟩ = some (.string ⟨#[]⟩)) (go_keep)
    (first
      | (go_at_call 68; (fail_if_success (clear G5)); refine (S5.out b2 w5.drew GD.out).mono ?_; rintro r w6 ⟨rfl, h⟩; have G5 : Hid (Ge w w6 b b2 L18) := h; have z5 : w6.cell? ⟨b2, 0, none⟩ = some (.string ⟨#[]⟩) := h.re.c0; clear h)
      | (go_at_call 68; (fail_if_success (clear G6)); refine (S6.out b2 w6 G5.out).mono ?_; rintro r w7 ⟨rfl, h⟩; have G6 : Hid (Ge w w7 b b2 L22) := h; have z6 : w7.cell? ⟨b2, 0, none⟩ = some (.string ⟨#[]⟩) := h.re.c0; clear h)
      | (go_at_call 68; (fail_if_success (clear G7)); refine (S7.out b2 w7 G6.out).mono ?_; rintro r w8 ⟨rfl, h⟩; have G7 : Hid (Ge w w8 b b2 L26') := h; have z7 : w8.cell? ⟨b2, 0, none⟩ = some (.string ⟨#[]⟩) := h.re.c0; clear h))
  clear z0 z5 z6 z7 G4 GD G5 G6 S5 S6 S7
  go_wp2_with (first
    | (go_at_call 68; (fail_if_success (clear G8)); refine (S8.out b2 w8 G7.out).mono ?_; rintro r w9 ⟨rfl, h⟩; have G8 : Hid (Ge w w9 b b2 L28) := h; clear h)
    | (go_at_call 67; (fail_if_success (clear G9)); refine (S9.out b2 w9 G8.out).mono ?_; rintro r w10 ⟨rfl, h⟩; have G9 : Hid (Ge w w10 b b2 L30) := h; clear h)
    | (go_at_call 66; (fail_if_success (clear G10)); refine (S10.out b2 w10 G9.out).mono ?_; rintro r w11 ⟨rfl, h⟩; have G10 : Hid (Ge w w11 b b2 LB) := h; clear h)
    | (go_at_call 66; (fail_if_success (clear G11)); refine (S11.out b2 w11 G10.out).mono ?_; rintro r w12 ⟨rfl, h⟩; have G11 : Hid (Ge w w12 b b2 L26) := h; clear h)
    | (go_at_call 69; refine (S12.out w12).mono ?_; rintro r w13 ⟨a, n, c, rfl, h1, h2, h3⟩; have G12 : Hid (Ge w w13 b b2 L26 ∧ OwnV w13 w12.heap.size (.slice a n c) V ∧ n = V.length ∧ w.heap.size ≤ w12.heap.size ∧ b2 < w12.heap.size) := ⟨G11.out.next (G11.out.tk.keptF h3) (h3.mono (fun _ _ h => h.elim)), h1, h2, G11.out.kp.size, G11.out.re.lt⟩; clear h1 h2 h3)
    | (refine wpList_alloc9 rfl rfl ?_; (fail_if_success (clear G13)); intro b9 w14 hE hK hb; have G13 : Hid (Gf w w14 b b2 b9 L26 Ent.zero [] ∧ OwnV w14 w12.heap.size (.slice a n c) V ∧ w13.heap.size ≤ b9) := ⟨⟨G12.out.1.tk.keptF hK, G12.out.1.re.keptF hK, hE, (OwnV.nil _ _ : OwnV w14 w.heap.size (.slice none 0 0) []), G12.out.1.kp.trans hK (fun _ _ h => h.elim), ⟨G12.out.1.ap.1, G12.out.1.ap.2, Nat.le_trans G12.out.1.kp.size hb, (by have := G12.out.1.re.lt; omega)⟩, (fun k hk => by cases hk)⟩, G12.out.2.1.keptF hK, hb⟩; clear hE hK hb)
    | (refine wpList_store9 rfl _ _ rfl b9 ⟨⟨#[]⟩, gn, a, n, c, st, nd, 0, ⟨#[]⟩, 0, 0⟩ rfl rfl Ent.zero ?hA ?_; (fail_if_success (clear G14)); (case hA => exact G13.out.1.en); intro w15 hE hK; have G14 : Hid (Gf w w15 b b2 b9 L26 ⟨⟨#[]⟩, gn, a, n, c, st, nd, 0, ⟨#[]⟩, 0, 0⟩ V) := ⟨G13.out.1.tk.kept hK (by have := G13.out.1.ap; omega), G13.out.1.re.kept hK G13.out.1.ap.2.2.2, hE, ((G13.out.2.1.kept hK (fun k hk q => by have := (G12.out.2.1.lo k hk).2; have := G13.out.2.2; omega)).mono G12.out.2.2.2.1), G13.out.1.kp.trans hK (fun i hi q => by have := G13.out.1.ap; omega), G13.out.1.ap, (fun k hk => by have q1 := G12.out.2.1.lo k hk; have q2 := G13.out.2.2; have q3 := G12.out.2.2.2.2; exact ⟨by omega, by omega⟩)⟩; have q0 := hE.c0; have q5 := hE.c5; have q7 := hE.c7; have q8 := hE.c8; have f0 := hE.free 0; have f5 := hE.free 5; have f7 := hE.free 7; have f8 := hE.free 8; clear hE hK G12 G13)
    | (go_at_call 66; refine (S13.out b2 b9 ⟨NM, gn, a, n, c, st, nd, (M : Int), ⟨#[]⟩, (Z : Int), (C : Int)⟩ V _ ((((G14.out.setf 0 (.string NM) ⟨NM, gn, a, n, c, st, nd, 0, ⟨#[]⟩, 0, 0⟩ rfl rfl).setf 5 (.int .i64 (M : Int)) ⟨NM, gn, a, n, c, st, nd, (M : Int), ⟨#[]⟩, 0, 0⟩ rfl rfl).setf 8 (.int .i64 (C : Int)) ⟨NM, gn, a, n, c, st, nd, (M : Int), ⟨#[]⟩, 0, (C : Int)⟩ rfl rfl).setf 7 (.int .i64 (Z : Int)) ⟨NM, gn, a, n, c, st, nd, (M : Int), ⟨#[]⟩, (Z : Int), (C : Int)⟩ rfl rfl)).mono ?_; rintro r w16 ⟨rfl, h⟩; have G15 : Hid (Gf w w16 b b2 b9 LR ⟨NM, gn, a, n, c, st, nd, (M : Int), ⟨#[]⟩, (Z : Int), (C : Int)⟩ V) := h; have q6 := h.en.c6; have f6 := h.en.free 6; clear h q0 q5 q7 q8 f0 f5 f7 f8)
    | (refine wpList_load9 rfl _ rfl b9 0 rfl ⟨NM, gn, a, n, c, st, nd, (M : Int), PK, (Z : Int), (C : Int)⟩ ?hA ?_; (case hA => exact (G15.out.setf 6 (.string PK) ⟨NM, gn, a, n, c, st, nd, (M : Int), PK, (Z : Int), (C : Int)⟩ rfl rfl).en.at))
    | (refine wpList_store9 rfl _ _ rfl b2 ⟨NM, gn, a, n, c, st, nd, (M : Int), PK, (Z : Int), (C : Int)⟩ rfl rfl Ent.zero ?hA ?_; (case hA => exact (G15.out.setf 6 (.string PK) ⟨NM, gn, a, n, c, st, nd, (M : Int), PK, (Z : Int), (C : Int)⟩ rfl rfl).re); intro w17 hE hK; have G16 : Hid (Entb w17 b2 ⟨NM, gn, a, n, c, st, nd, (M : Int), PK, (Z : Int), (C : Int)⟩ ∧ Keeps (fun k => k = b2) (w16.setCell ⟨b9, 6, none⟩ (.string PK)) w17) := ⟨hE, hK⟩; clear hE hK))
  (try simp only [Exit.inBlock, Exit.then])
  have H9 := G15.out.setf 6 (.string PK) ⟨NM, gn, a, n, c, st, nd, (M : Int), PK, (Z : Int), (C : Int)⟩ rfl rfl
  have HW : n = V.length := by obtain ⟨x, y, q, _⟩ := H9.ow.row; cases q; rfl
  obtain ⟨a1, a2, a3, a4⟩ := H9.ap
  refine bodyPost_ret (v := .agg #[.string (Ent.mk NM gn a n c st nd (M : Int) PK (Z : Int) (C : Int)).nm, .bool (Ent.mk NM gn a n c st nd (M : Int) PK (Z : Int) (C : Int)).gn, .slice (Ent.mk NM gn a n c st nd (M : Int) PK (Z : Int) (C : Int)).va (Ent.mk NM gn a n c st nd (M : Int) PK (Z : Int) (C : Int)).vn (Ent.mk NM gn a n c st nd (M : Int) PK (Z : Int) (C : Int)).vc, .int .i64 (Ent.mk NM gn a n c st nd (M : Int) PK (Z : Int) (C : Int)).st, .int .i64 (Ent.mk NM gn a n c st nd (M : Int) PK (Z : Int) (C : Int)).nd, .int .i64 (Ent.mk NM gn a n c st nd (M : Int) PK (Z : Int) (C : Int)).mt, .string (Ent.mk NM gn a n c st nd (M : Int) PK (Z : Int) (C : Int)).pk, .int .i64 (Ent.mk NM gn a n c st nd (M : Int) PK (Z : Int) (C : Int)).sz, .int .i64 (Ent.mk NM gn a n c st nd (M : Int) PK (Z : Int) (C : Int)).cr]) (G16.out.1.res1 rfl rfl) rfl ⟨⟨NM, gn, a, n, c, st, nd, (M : Int), PK, (Z : Int), (C : Int)⟩, V, rfl, HD.out.symm, HW, ?_, ?_, ?_⟩
  · exact H9.ow.kept G16.out.2 (fun k hk q => (H9.aw k hk).1 q)
  · exact H9.tk.kept G16.out.2 (by omega)
  · exact H9.kp.trans G16.out.2 (fun i hi q => by omega)

/-! ### The program's taker of a folder. -/
/-- Where the folder's taker stands. -/
structure Fo (w w' : World) (b b2 b3 : Nat) (a : Option Addr) (cap : Nat) (es : List It) (L L0 : List Nat) : Prop where
  tk : Tkr 63 w' b L
  re : Folb w' b2 (.slice none 0 0)
  fo : Folb w' b3 (.slice a es.length cap)
  ow : FolO w' (b3 + 1) (.slice a es.length cap) es
  le : es.length ≤ 6
  dt : dats es ++ tkF (6 - es.length) L = tkF 6 L0
  kp : Keeps (fun x => x = b) w w'
  ap : b < w.heap.size ∧ w.heap.size ≤ b2 ∧ b2 < b3
theorem Fo.keptF {w w' w'' : World} {b b2 b3 : Nat} {a : Option Addr} {cap : Nat} {es : List It} {L L0 : List Nat} (h : Fo w w' b b2 b3 a cap es L L0) (hk : Keeps (fun _ => False) w' w'') : Fo w w'' b b2 b3 a cap es L L0 :=
  ⟨h.tk.keptF hk, h.re.keptF hk, h.fo.keptF hk, h.ow.keptF hk, h.le, h.dt, h.kp.trans hk (fun _ _ h => h.elim), h.ap⟩
theorem tkF_more {es : List It} {L : List Nat} (h : es.length < 6) (hm : markB L = true) : tkF (6 - es.length) L = tkD L :: tkF (6 - (es.length + 1)) (tkR L) := by
  obtain ⟨n, hn⟩ : ∃ n, 6 - es.length = n + 1 := ⟨6 - es.length - 1, by omega⟩
  rw [hn, show 6 - (es.length + 1) = n by omega, tkF, hm, cond_true]
theorem tkF_end {es : List It} {L : List Nat} (h : es.length = 6 ∨ markB L = false) : tkF (6 - es.length) L = [] := by
  rcases h with h | h
  · rw [h]; rfl
  · cases hn : 6 - es.length with
    | zero => rfl
    | succ n => rw [tkF, h, cond_false]
theorem dats_snoc (es : List It) (x : It) : dats (es ++ [x]) = dats es ++ [dat x] := by simp [dats]
theorem mark_b (L : List Nat) : decide (L.take (⟨#[80, 75, 3, 4]⟩ : ByteArray).size = bytesOf ⟨#[80, 75, 3, 4]⟩) = markB L := rfl
/-- The next one is in. -/
theorem Fo.next {w w' w5 w6 : World} {b b2 b3 : Nat} {a : Option Addr} {cap g c : Nat} {es : List It} {L L0 : List Nat} (h : Fo w w' b b2 b3 a cap es L L0) (h6 : es.length < 6) (hm : markB L = true) (e : Ent) (V : List Int)
    (hd : dat (e, V) = tkD L) (hv : e.vn = V.length) (hx : OwnV w5 w'.heap.size (.slice e.va e.vn e.vc) V) (ht : Tkr 63 w5 b (tkR L)) (hk : Keeps (fun x => x = b) w' w5) (hk6 : Keeps (fun k => (Value.slice a es.length cap).ownBlock = some k) w5 w6) (ho : OwnF w6 (b3 + 1) (.slice (some ⟨g, 0, none⟩) (es.length + 1) c) (es ++ [(e, V)])) :
    Fo w (w6.setCell ⟨b3, 0, none⟩ (.slice (some ⟨g, 0, none⟩) (es.length + 1) c)) b b2 b3 (some ⟨g, 0, none⟩) c (es ++ [(e, V)]) (tkR L) L0 := by
  obtain ⟨a1, a2, a3⟩ := h.ap
  have hlen : (es ++ [(e, V)]).length = es.length + 1 := by simp
  have hlo : ∀ k, (Value.slice a es.length cap).ownBlock = some k → b3 + 1 ≤ k := fun k q => (h.ow.1.lo k q).1
  have hF : FolO w6 (b3 + 1) (.slice (some ⟨g, 0, none⟩) (es.length + 1) c) (es ++ [(e, V)]) := h.ow.add (x := (e, V)) (by have := h.fo.lt; omega) (fun x => x = b) hk (fun k q1 q2 q => by omega) hv hx hk6 ho
  have hk7 : Keeps (fun x => x = b3) w6 (w6.setCell ⟨b3, 0, none⟩ (.slice (some ⟨g, 0, none⟩) (es.length + 1) c)) := (Keeps.refl (fun x => x = b3) w6).setCell (p := ⟨b3, 0, none⟩) (fun _ => rfl) _
  refine ⟨(ht.kept hk6 (fun q => by have := hlo b q; omega)).kept hk7 (by omega), ((h.re.kept hk (by omega)).kept hk6 (fun q => by have := hlo b2 q; omega)).kept hk7 (by omega), ?_, ?_, by rw [hlen]; omega, ?_, ?_, h.ap⟩
  · rw [hlen]; exact (((h.fo.kept hk (by omega)).kept hk6 (fun q => by have := hlo b3 q; omega)).set _)
  · rw [hlen]; exact hF.kept hk7 (fun k q1 q2 q => by omega)
  · rw [hlen, dats_snoc, hd, ← h.dt, tkF_more h6 hm, List.append_assoc]; rfl
  · exact ((h.kp.trans hk (fun _ _ q => q)).trans hk6 (fun k q1 q => by have := hlo k q; omega)).trans hk7 (fun k q1 q => by omega)

set_option maxHeartbeats 8000000 in
set_option maxRecDepth 1000000 in
theorem folder_ok (b : Nat) (L0 : List Nat) (w : World) (h : Tkr 63 w b L0) :
    Calls Try.prog 33 #[.pointer (some ⟨b, 0, none⟩)] w fun r w' => ∃ a cap es, r = .returned (.agg #[.slice a es.length cap]) ∧ dats es = tkF 6 L0 ∧ FolO w' w.heap.size (.slice a es.length cap) es ∧ Keeps (fun x => x = b) w w' := by
  have HT : Hid (Tkr 63 w b L0 ∧ b < w.heap.size) := ⟨h, h.lt⟩
  clear h
  go_enter Try.func33, Try.ntmps33
  go_wp2_with (first
    | (refine wpList_allocF rfl rfl ?_; (fail_if_success (clear A1)); intro b2 w1 hE hK hb; have A1 : Hid (Folb w1 b2 (.slice none 0 0) ∧ Keeps (fun _ => False) w w1 ∧ w.heap.size ≤ b2) := ⟨hE, hK, hb⟩; clear hE hK hb)
    | (refine wpList_allocF rfl rfl ?_; intro b3 w2 hE hK hb; have A2 : Hid (Fo w w2 b b2 b3 none 0 [] L0 L0) := ⟨(HT.out.1.keptF A1.out.2.1).keptF hK, A1.out.1.keptF hK, hE, FolO.nil _ _, (by decide : 0 ≤ 6), rfl, (A1.out.2.1.trans hK (fun _ _ h => h)).mono (fun _ _ h => h.elim), HT.out.2, A1.out.2.2, (by have := A1.out.1.lt; omega)⟩; clear hE hK hb))
  clear A1 HT
  simp only [Act.put, List.setIfInBounds_toArray, List.set_cons_zero, List.set_cons_succ]
  go_loopw [] (fun w' => ∃ a cap es L, Hid (Fo w w' b b2 b3 a cap es L L0)) (fun w' => 6 - lenAt w' b3)
  case atStart => exact ⟨none, 0, [], L0, A2⟩
  case round =>
    clear A2
    obtain ⟨a, cap, es, L, HH⟩ := hrel
    have c3 : wr.cell? ⟨b3, 0, none⟩ = some (.slice a es.length cap) := HH.out.fo.c0
    have f3 : wr.frozen? ⟨b3, 0, none⟩ = false := HH.out.fo.free
    have HB0 : Hid (Calls Try.prog 52 #[.pointer (some ⟨b, 0, none⟩), .string ⟨#[80, 75, 3, 4]⟩] wr fun e w' => e = .returned (.bool (markB L)) ∧ w' = wr) := begins_ok _ b L ⟨#[80, 75, 3, 4]⟩ wr HH.out.tk
    by_cases h6 : es.length < 6
    · have h6z : (es.length : Int) < 6 := by omega
      cases hm : markB L
      · have HB := HB0
        rw [hm] at HB
        have HE : Hid (dats es = tkF 6 L0) := by
          have := HH.out.dt
          rw [tkF_end (.inr hm), List.append_nil] at this; exact this
        have c2 : wr.cell? ⟨b2, 0, none⟩ = some (.slice none 0 0) := HH.out.re.c0
        have f2 : wr.frozen? ⟨b2, 0, none⟩ = false := HH.out.re.free
        clear HB0 hm
        go_wp2_with (first
          | (go_at_call 52; refine HB.out.mono ?_; rintro e w' ⟨rfl, hw⟩; obtain rfl := hw.symm; clear hw))
        (try simp only [Exit.inBlock, Exit.then])
        have hk7 : Keeps (fun x => x = b2) wr (wr.setCell ⟨b2, 0, none⟩ (.slice a es.length cap)) := (Keeps.refl (fun x => x = b2) wr).setCell (p := ⟨b2, 0, none⟩) (fun _ => rfl) _
        obtain ⟨a1, a2, a3⟩ := HH.out.ap
        refine bodyPost_ret (v := .agg #[.slice a es.length cap]) (Folb.res1 rfl rfl (HH.out.re.set _)) rfl ⟨a, cap, es, rfl, HE.out, (HH.out.ow.kept hk7 (fun k q1 q2 q => by omega)).mono (by omega), HH.out.kp.trans hk7 (fun k q1 q => by omega)⟩
      · have HB := HB0
        rw [hm] at HB
        have HM : Hid (markB L = true) := hm
        have HC : Hid (Calls Try.prog 53 #[.pointer (some ⟨b, 0, none⟩)] wr.drew fun r w' => ∃ e V, r = .returned (.agg #[.string e.nm, .bool e.gn, .slice e.va e.vn e.vc, .int .i64 e.st, .int .i64 e.nd, .int .i64 e.mt, .string e.pk, .int .i64 e.sz, .int .i64 e.cr]) ∧ dat (e, V) = tkD L ∧ e.vn = V.length ∧ OwnV w' wr.heap.size (.slice e.va e.vn e.vc) V ∧ Tkr 63 w' b (tkR L) ∧ Keeps (fun x => x = b) wr w') := by
          refine ((entry_ok b L wr.drew (HH.out.tk.keptF (Keeps.refl _ wr).drew)).mono ?_ : Calls Try.prog 53 #[.pointer (some ⟨b, 0, none⟩)] wr.drew fun r w' => ∃ e V, r = .returned (.agg #[.string e.nm, .bool e.gn, .slice e.va e.vn e.vc, .int .i64 e.st, .int .i64 e.nd, .int .i64 e.mt, .string e.pk, .int .i64 e.sz, .int .i64 e.cr]) ∧ dat (e, V) = tkD L ∧ e.vn = V.length ∧ OwnV w' wr.heap.size (.slice e.va e.vn e.vc) V ∧ Tkr 63 w' b (tkR L) ∧ Keeps (fun x => x = b) wr w')
          rintro r w' ⟨e, V, h1, h2, h3, h4, h5, h7⟩
          exact ⟨e, V, h1, h2, h3, h4, h5, ((Keeps.refl _ wr).drew).trans h7 (fun _ _ q => q)⟩
        have hb3 := HH.out.fo.lt
        clear HB0 hm
        go_wp2_with (first
          | (go_at_call 52; refine HB.out.mono ?_; rintro e w' ⟨rfl, hw⟩; obtain rfl := hw.symm; clear hw))
        go_region_law (first
          | (refine step_ent (by rfl) (.tmp 15) (.tmp 18) (by rfl) (by rfl) (b3 + 1) (.slice a es.length cap) es (by simp [Act.eval, Act.put]) ?hO w5.heap.size (e, V) (by simp [Act.eval, Act.put]) ?hR ?hb ?hn ?_; (case hO => exact (HH.out.ow.1.kept H5.out.2.2.2.2 (fun k q1 q2 => by have := (HH.out.ow.1.lo k q1).1; have := HH.out.ap; omega)).keptF ((Keeps.refl (fun _ => False) w5).alloc _)); (case hR => exact (Entb.new w5 e).at); (case hb => have := H5.out.2.2.2.2.size; simp; omega); (case hn => omega); intro g c w6 hO6 hG6 hat; have hk6 : Keeps (fun k => (Value.slice a es.length cap).ownBlock = some k) w5 w6 := ((Keeps.refl _ w5).alloc _).grown hG6 (fun k _ q => q); have q3 : w6.cell? ⟨b3, 0, none⟩ = some (.slice a es.length cap) := (World.cell?_of_block (hk6.block b3 (Nat.lt_of_lt_of_le hb3 H5.out.2.2.2.2.size) (fun q => by have := (HH.out.ow.1.lo b3 q).1; omega))).trans r3; have g3 : w6.frozen? ⟨b3, 0, none⟩ = false := (World.frozen?_of_block (hk6.block b3 (Nat.lt_of_lt_of_le hb3 H5.out.2.2.2.2.size) (fun q => by have := (HH.out.ow.1.lo b3 q).1; omega))).trans p3; have HN : Hid (Fo w (w6.setCell ⟨b3, 0, none⟩ (.slice (some ⟨g, 0, none⟩) (es.length + 1) c)) b b2 b3 (some ⟨g, 0, none⟩) c (es ++ [(e, V)]) (tkR L) L0) := HH.out.next h6 HM.out e V H5.out.1 H5.out.2.1 H5.out.2.2.1 H5.out.2.2.2.1 H5.out.2.2.2.2 hk6 hO6; clear hO6 hG6 hat hk6)
          | (rw [if_pos (by rfl)]; go_simp; go_at_call 53; refine HC.out.mono ?_; rintro r w5 ⟨e, V, rfl, h1, h2, h3, h4, h5⟩; have H5 : Hid (dat (e, V) = tkD L ∧ e.vn = V.length ∧ OwnV w5 wr.heap.size (.slice e.va e.vn e.vc) V ∧ Tkr 63 w5 b (tkR L) ∧ Keeps (fun x => x = b) wr w5) := ⟨h1, h2, h3, h4, h5⟩; have r3 : w5.cell? ⟨b3, 0, none⟩ = some (.slice a es.length cap) := (World.cell?_of_block (h5.block b3 hb3 (by have := HH.out.ap; omega))).trans c3; have p3 : w5.frozen? ⟨b3, 0, none⟩ = false := (World.frozen?_of_block (h5.block b3 hb3 (by have := HH.out.ap; omega))).trans f3; have ra : (w5.alloc (.cells #[.string e.nm, .bool e.gn, .slice e.va e.vn e.vc, .int .i64 e.st, .int .i64 e.nd, .int .i64 e.mt, .string e.pk, .int .i64 e.sz, .int .i64 e.cr] 46)).cell? ⟨b3, 0, none⟩ = some (.slice a es.length cap) := (World.cell?_alloc_past _ _ _ (Nat.lt_of_lt_of_le hb3 h5.size)).trans r3; clear h1 h2 h3 h4 h5))
        all_goals go_wp2
        all_goals exact ⟨⟨_, _, _, _, HN⟩, by rw [HH.out.fo.len, HN.out.fo.len]; simp; omega⟩
    · have hl : es.length = 6 := by have := HH.out.le; omega
      have h6z : ¬ (es.length : Int) < 6 := by omega
      have h6d : decide ((es.length : Int) < 6) = false := decide_eq_false h6z
      have HE : Hid (dats es = tkF 6 L0) := by
        have := HH.out.dt
        rw [tkF_end (.inl hl), List.append_nil] at this; exact this
      have c2 : wr.cell? ⟨b2, 0, none⟩ = some (.slice none 0 0) := HH.out.re.c0
      have f2 : wr.frozen? ⟨b2, 0, none⟩ = false := HH.out.re.free
      clear HB0 hl
      go_wp2
      (try simp only [Exit.inBlock, Exit.then])
      have hk7 : Keeps (fun x => x = b2) wr (wr.setCell ⟨b2, 0, none⟩ (.slice a es.length cap)) := (Keeps.refl (fun x => x = b2) wr).setCell (p := ⟨b2, 0, none⟩) (fun _ => rfl) _
      obtain ⟨a1, a2, a3⟩ := HH.out.ap
      refine bodyPost_ret (v := .agg #[.slice a es.length cap]) (Folb.res1 rfl rfl (HH.out.re.set _)) rfl ⟨a, cap, es, rfl, HE.out, ?_, HH.out.kp.trans hk7 (fun k q1 q => by omega)⟩
      exact ((HH.out.ow.kept hk7 (fun k q1 q2 q => by omega)).mono (by omega))

/-! ### An archive read, in plain bytes (no program in sight). -/
theorem dt {L A B C : List Nat} {n k : Nat} (h : L = A ++ (B ++ C)) (hn : n = A.length) (hk : k = B.length) : (L.drop n).take k = B ∧ (L.drop n).drop k = C := by
  subst h hn hk
  rw [List.drop_left]
  exact ⟨List.take_left, List.drop_left⟩
theorem num_two' (n : Nat) (h : n < 65536) : num (le 2 n) = n := by rw [le_two]; simp only [num]; omega
theorem num_four' (n : Nat) (h : n < 4294967296) : num (le 4 n) = n := by rw [le_four]; simp only [num]; omega
theorem get_put {ys : List Int} {st nd : Int} (g : Bool) (h : headB ys st nd = true) : gGn (putL ys st nd g) = g ∧ gVec (putL ys st nd g) = ys ∧ gSt (putL ys st nd g) = st ∧ gNd (putL ys st nd g) = nd := by
  obtain ⟨h1, h2, h3, h4, _⟩ := put_read g h
  have hk := put_gOk g h
  simp only [gGn, gVec, gSt, gNd, hk, h1, h2, h3, h4, cond_true, Bool.true_and, and_self]
theorem take_first {x : It} (R : List Nat) (h : heldB x = true) : markB (firstL x ++ R) = true ∧ tkN (firstL x ++ R) = x.1.nm.size ∧ tkP (firstL x ++ R) = x.1.pk.size ∧ tkR (firstL x ++ R) = R ∧ tkD (firstL x ++ R) = dat x := by
  obtain ⟨m1, s1, c1, p1, n1⟩ := heldB_nums h
  obtain ⟨L, hL⟩ : ∃ L, firstL x ++ R = L := ⟨_, rfl⟩
  have hc := commonL_len x.1
  have hh := headL_len h
  have hn : (bytesOf x.1.nm).length = x.1.nm.size := bytesOf_length _
  have hp : (bytesOf x.1.pk).length = x.1.pk.size := bytesOf_length _
  have e0 : L = [80, 75, 3, 4] ++ (commonL x.1 ++ (bytesOf x.1.nm ++ (headL x ++ (bytesOf x.1.pk ++ R)))) := by rw [← hL]; simp only [firstL, calledL, List.append_assoc]
  have e1 : L = ([80, 75, 3, 4] ++ commonL x.1) ++ (bytesOf x.1.nm ++ (headL x ++ (bytesOf x.1.pk ++ R))) := by rw [e0, List.append_assoc]
  rw [hL]
  have hN : tkN L = x.1.nm.size := by
    have e : L = ([80, 75, 3, 4] ++ (le 2 20 ++ le 2 0 ++ le 2 x.1.mt.toNat ++ le 2 0 ++ le 2 0 ++ le 4 x.1.cr.toNat ++ le 4 x.1.pk.size ++ le 4 x.1.sz.toNat)) ++ (le 2 x.1.nm.size ++ (le 2 26 ++ (bytesOf x.1.nm ++ (headL x ++ (bytesOf x.1.pk ++ R))))) := by rw [e0]; simp only [commonL, List.append_assoc]
    have := (dt (n := 26) (k := 2) e (by simp [le_len]) (by rw [le_len])).1
    rw [tkN, this, num_two' _ (by omega)]
  have hP : tkP L = x.1.pk.size := by
    have e : L = ([80, 75, 3, 4] ++ (le 2 20 ++ le 2 0 ++ le 2 x.1.mt.toNat ++ le 2 0 ++ le 2 0 ++ le 4 x.1.cr.toNat)) ++ (le 4 x.1.pk.size ++ (le 4 x.1.sz.toNat ++ (le 2 x.1.nm.size ++ (le 2 26 ++ (bytesOf x.1.nm ++ (headL x ++ (bytesOf x.1.pk ++ R))))))) := by rw [e0]; simp only [commonL, List.append_assoc]
    have := (dt (n := 18) (k := 4) e (by simp [le_len]) (by rw [le_len])).1
    rw [tkP, this, num_four' _ (by omega)]
  have hS : num ((L.drop 22).take 4) = x.1.sz.toNat := by
    have e : L = ([80, 75, 3, 4] ++ (le 2 20 ++ le 2 0 ++ le 2 x.1.mt.toNat ++ le 2 0 ++ le 2 0 ++ le 4 x.1.cr.toNat ++ le 4 x.1.pk.size)) ++ (le 4 x.1.sz.toNat ++ (le 2 x.1.nm.size ++ (le 2 26 ++ (bytesOf x.1.nm ++ (headL x ++ (bytesOf x.1.pk ++ R)))))) := by rw [e0]; simp only [commonL, List.append_assoc]
    have := (dt (n := 22) (k := 4) e (by simp [le_len]) (by rw [le_len])).1
    rw [this, num_four' _ (by omega)]
  have hC : num ((L.drop 14).take 4) = x.1.cr.toNat := by
    have e : L = ([80, 75, 3, 4] ++ (le 2 20 ++ le 2 0 ++ le 2 x.1.mt.toNat ++ le 2 0 ++ le 2 0)) ++ (le 4 x.1.cr.toNat ++ (le 4 x.1.pk.size ++ (le 4 x.1.sz.toNat ++ (le 2 x.1.nm.size ++ (le 2 26 ++ (bytesOf x.1.nm ++ (headL x ++ (bytesOf x.1.pk ++ R)))))))) := by rw [e0]; simp only [commonL, List.append_assoc]
    have := (dt (n := 14) (k := 4) e (by simp [le_len]) (by rw [le_len])).1
    rw [this, num_four' _ (by omega)]
  have hM : num ((L.drop 8).take 2) = x.1.mt.toNat := by
    have e : L = ([80, 75, 3, 4] ++ (le 2 20 ++ le 2 0)) ++ (le 2 x.1.mt.toNat ++ (le 2 0 ++ (le 2 0 ++ (le 4 x.1.cr.toNat ++ (le 4 x.1.pk.size ++ (le 4 x.1.sz.toNat ++ (le 2 x.1.nm.size ++ (le 2 26 ++ (bytesOf x.1.nm ++ (headL x ++ (bytesOf x.1.pk ++ R))))))))))) := by rw [e0]; simp only [commonL, List.append_assoc]
    have := (dt (n := 8) (k := 2) e (by simp [le_len]) (by rw [le_len])).1
    rw [this, num_two' _ (by omega)]
  have l30 : 30 = ([80, 75, 3, 4] ++ commonL x.1).length := by rw [List.length_append, hc]; rfl
  obtain ⟨q1, q2⟩ := dt (n := 30) (k := x.1.nm.size) e1 l30 hn.symm
  have hB : tkB L = headL x ++ (bytesOf x.1.pk ++ R) := by rw [tkB, hN, q2]
  have hX : tkX L = headL x := by rw [tkX, hB, ← hh, List.take_left]
  have hB2 : (tkB L).drop 26 = bytesOf x.1.pk ++ R := by rw [hB, ← hh, List.drop_left]
  have hR : tkR L = R := by rw [tkR, hB2, hP, ← hp, List.drop_left]
  obtain ⟨g1, g2, g3, g4⟩ := get_put x.1.gn (heldB_head h)
  refine ⟨by rw [markB, e0]; rfl, hN, hP, hR, ?_⟩
  rw [tkD, hX, hN, q1, hB2, hP, hS, hC, hM, ← hp, List.take_left, textOf_bytes, textOf_bytes]
  rw [show headL x = putL x.2 x.1.st x.1.nd x.1.gn from rfl, g1, g2, g3, g4]
  rw [Int.toNat_of_nonneg (by omega), Int.toNat_of_nonneg (by omega), Int.toNat_of_nonneg (by omega)]
  rfl
theorem tkF_first : ∀ (n : Nat) (es : List It) (R : List Nat), (∀ x ∈ es, heldB x = true) → es.length ≤ n → (es.length = n ∨ markB R = false) → tkF n (firsts es ++ R) = dats es
  | 0, [], R, _, _, _ => rfl
  | n + 1, [], R, _, _, hR => by
    rcases hR with h | h
    · simp at h
    · show tkF (n + 1) R = []
      rw [tkF, h, cond_false]
  | 0, x :: r, R, _, h, _ => by simp at h
  | n + 1, x :: r, R, hh, hn, hR => by
    obtain ⟨h1, _, _, h4, h5⟩ := take_first (firsts r ++ R) (hh x List.mem_cons_self)
    rw [firsts, List.append_assoc, tkF, h1, cond_true, h4, h5, tkF_first n r R (fun y hy => hh y (List.mem_cons_of_mem _ hy)) (by simpa using hn) (by rcases hR with h | h; exact .inl (by simpa using h); exact .inr h)]
    rfl
theorem rfF_first : ∀ (n : Nat) (es : List It) (R : List Nat), (∀ x ∈ es, heldB x = true) → es.length ≤ n → (es.length = n ∨ markB R = false) → rfF n (firsts es ++ R) = some (dats es)
  | 0, [], R, _, _, _ => rfl
  | n + 1, [], R, _, _, hR => by
    rcases hR with h | h
    · simp at h
    · show rfF (n + 1) R = some []
      rw [rfF, h, Bool.and_false, cond_false]
  | 0, x :: r, R, _, h, _ => by simp at h
  | n + 1, x :: r, R, hh, hn, hR => by
    have hx := hh x List.mem_cons_self
    obtain ⟨h1, h2, h3, h4, h5⟩ := take_first (firsts r ++ R) hx
    have hl : (firstL x ++ (firsts r ++ R)).length = 56 + x.1.nm.size + x.1.pk.size + (firsts r ++ R).length := by rw [List.length_append, firstL_len hx]
    rw [firsts, List.append_assoc, rfF, h1, h2, h3, decide_eq_true (by omega), decide_eq_true (by omega), h4, h5, rfF_first n r R (fun y hy => hh y (List.mem_cons_of_mem _ hy)) (by simpa using hn) (by rcases hR with h | h; exact .inl (by simpa using h); exact .inr h)]
    rfl
theorem mark_rest (es : List It) (n s f : Nat) (X : List Nat) : markB (seconds 0 es ++ (endL n s f ++ X)) = false := by
  cases es with
  | nil => rfl
  | cons x r => rfl
theorem tkF_zip {es : List It} (h : writeB es = true) (X : List Nat) : tkF 6 (zipL es ++ X) = dats es := by
  rw [zipL, List.append_assoc, List.append_assoc]
  exact tkF_first 6 es _ (writeB_held h) (writeB_len h) (.inr (mark_rest _ _ _ _ _))
theorem rfF_zip {es : List It} (h : writeB es = true) : rfF 7 (zipL es) = some (dats es) := by
  have := mark_rest es es.length (seconds 0 es).length (firsts es).length []
  rw [List.append_nil] at this
  rw [zipL]
  exact rfF_first 7 es _ (writeB_held h) (Nat.le_succ_of_le (writeB_len h)) (.inr this)

theorem held_dat {x y : It} (h : dat x = dat y) : heldB x = heldB y ∧ x.1.nm = y.1.nm := by
  obtain ⟨⟨nm, gn, va, vn, vc, st, nd, mt, pk, sz, cr⟩, ys⟩ := x
  obtain ⟨⟨nm', gn', va', vn', vc', st', nd', mt', pk', sz', cr'⟩, zs⟩ := y
  simp only [dat, Prod.mk.injEq] at h
  obtain ⟨rfl, rfl, rfl, rfl, rfl, rfl, rfl, rfl, rfl⟩ := h
  exact ⟨rfl, rfl⟩
theorem rises_dats : ∀ (p : ByteArray) {es fs : List It}, dats es = dats fs → risesB p es = risesB p fs
  | _, [], [], _ => rfl
  | _, [], _ :: _, h => by simp [dats] at h
  | _, _ :: _, [], h => by simp [dats] at h
  | p, x :: r, y :: s, h => by
    simp only [dats, List.map_cons, List.cons.injEq] at h
    obtain ⟨h1, h2⟩ := held_dat h.1
    rw [risesB, risesB, h1, h2, rises_dats y.1.nm (es := r) (fs := s) h.2]
theorem write_dats {es fs : List It} (h : dats es = dats fs) : writeB es = writeB fs := by
  rw [writeB, writeB, rises_dats _ h, dats_len h]
theorem zipL_dats {es fs : List It} (h : dats es = dats fs) : zipL es = zipL fs := by
  obtain ⟨q1, q2⟩ := dats_zip h
  rw [zipL, zipL, q1, q2, dats_len h]
theorem zipT_dats {es fs : List It} (h : dats es = dats fs) : zipT es = zipT fs ∧ zErr es = zErr fs := by
  rw [zipT, zipT, zErr, zErr, write_dats h, zipL_dats h]; exact ⟨rfl, rfl⟩
/-- What Get answers. -/
def Got (s : ByteArray) (es : List It) (err : Int) : Prop := (writeB es = true ∧ bytesOf s = zipL es ∧ err = 0) ∨ ((∀ fs, writeB fs = true → bytesOf s ≠ zipL fs) ∧ es = [] ∧ err = 1400)
theorem got_yes {s : ByteArray} {es : List It} (h1 : zErr es = 0) (h2 : zipT es = s) : Got s es 0 := by
  have hw : writeB es = true := by
    cases h : writeB es
    · rw [zErr, h] at h1; exact absurd h1 (by decide)
    · rfl
  refine .inl ⟨hw, ?_, rfl⟩
  rw [← h2, zipT, hw, cond_true, bytesOf_text _ (zipL_lt _)]
theorem got_no {s : ByteArray} {es : List It} (ht : ∀ fs, writeB fs = true → bytesOf s = zipL fs → dats es = dats fs) (h : ¬ (zErr es = 0 ∧ zipT es = s)) : Got s [] 1400 := by
  refine .inr ⟨fun fs hf he => h ?_, rfl, rfl⟩
  have hd := ht fs hf he
  have hw : writeB es = true := by rw [write_dats hd]; exact hf
  refine ⟨by rw [zErr, hw]; rfl, ?_⟩
  rw [zipT, hw, cond_true, zipL_dats hd, ← he, textOf_bytes]
theorem got_none {s : ByteArray} (ht : ∀ fs, writeB fs = true → bytesOf s ≠ zipL fs) : Got s [] 1400 := .inr ⟨ht, rfl, rfl⟩
theorem got_one {s : ByteArray} {es fs : List It} {e f : Int} (h : Got s es e) (k : Got s fs f) : e = f ∧ dats es = dats fs := by
  rcases h with ⟨h1, h2, rfl⟩ | ⟨h1, rfl, rfl⟩ <;> rcases k with ⟨k1, k2, rfl⟩ | ⟨k1, rfl, rfl⟩
  · refine ⟨rfl, ?_⟩
    have a := tkF_zip h1 []
    have b := tkF_zip k1 []
    rw [← h2] at a
    rw [← k2] at b
    exact a.symm.trans b
  · exact absurd h2 (k1 _ h1)
  · exact absurd k2 (h1 _ k1)
  · exact ⟨rfl, rfl⟩
theorem tk_dats {s : ByteArray} {es : List It} (h : dats es = tkF 6 (bytesOf s)) : ∀ fs, writeB fs = true → bytesOf s = zipL fs → dats es = dats fs := fun fs hf he => by
  have := tkF_zip hf []
  rw [List.append_nil, ← he] at this
  exact h.trans this
theorem rf_dats {s : ByteArray} {es : List It} (h : some (dats es) = rfF 7 (bytesOf s)) : ∀ fs, writeB fs = true → bytesOf s = zipL fs → dats es = dats fs := fun fs hf he => by
  have := rfF_zip hf
  rw [← he, ← h] at this
  exact Option.some.inj this
theorem rf_none {s : ByteArray} (h : rfF 7 (bytesOf s) = none) : ∀ fs, writeB fs = true → bytesOf s ≠ zipL fs := fun fs hf he => by
  have := rfF_zip hf
  rw [← he, h] at this
  cases this
/-- A text that is too long is none. -/
theorem long_none {s : ByteArray} (h : 4096 < s.size) : ∀ fs, writeB fs = true → bytesOf s ≠ zipL fs := fun fs hf he => by
  have := zipL_le hf
  rw [← he, bytesOf_length] at this
  omega
/-- No beginning of an archive is one. -/
theorem no_prefix {es fs : List It} {k : Nat} (h1 : writeB es = true) (h2 : writeB fs = true) (h : (zipL fs).take k = zipL es) : (zipL fs).length ≤ k := by
  have a := tkF_zip h1 ((zipL fs).drop k)
  have b := tkF_zip h2 []
  rw [← h, List.take_append_drop] at a
  rw [List.append_nil, a] at b
  have := congrArg List.length (zipL_dats b)
  rw [← h, List.length_take] at this
  omega

/-! ### The program's Get. -/
theorem tkR_len (L : List Nat) : (tkR L).length ≤ L.length := by simp only [tkR, tkB, List.length_drop]; omega
theorem gVec_len (L : List Nat) : (gVec L).length ≤ 4 := by
  unfold gVec
  cases gOk L <;> simp [vecL]
theorem tkF_fit : ∀ (n : Nat) (L : List Nat) (d : Dat), d ∈ tkF n L → d.1.size ≤ L.length ∧ d.2.2.1.length ≤ 4 ∧ d.2.2.2.2.2.2.1.size ≤ L.length
  | 0, L, d, h => by simp [tkF] at h
  | n + 1, L, d, h => by
    rw [tkF] at h
    cases hm : markB L
    · rw [hm, cond_false] at h; simp at h
    · rw [hm, cond_true] at h
      rcases List.mem_cons.1 h with rfl | h
      · refine ⟨?_, gVec_len _, ?_⟩
        · show (textOf _).size ≤ _
          rw [textOf_size, List.length_take, List.length_drop]; omega
        · show (textOf _).size ≤ _
          rw [textOf_size, List.length_take]; simp only [tkB, List.length_drop]; omega
      · have := tkF_fit n (tkR L) d h
        have := tkR_len L
        omega
theorem fit_of {s : ByteArray} {es : List It} (h : dats es = tkF 6 (bytesOf s)) (hs : s.size ≤ 1000000) : ∀ x ∈ es, Fit x := fun x hx => by
  have hd : dat x ∈ tkF 6 (bytesOf s) := by rw [← h]; exact List.mem_map_of_mem hx
  obtain ⟨h1, h2, h3⟩ := tkF_fit 6 _ _ hd
  rw [bytesOf_length] at h1 h3
  have e1 : (dat x).1.size = x.1.nm.size := rfl
  have e2 : (dat x).2.2.1.length = x.2.length := rfl
  have e3 : (dat x).2.2.2.2.2.2.1.size = x.1.pk.size := rfl
  exact ⟨by omega, by omega, by omega⟩
theorem zErr_or (es : List It) : zErr es = 0 ∨ zErr es = 1300 := by
  unfold zErr
  cases writeB es
  · exact .inr rfl
  · exact .inl rfl
theorem tkr_newz (w : World) (s : ByteArray) (hs : s.size ≤ 140737488355328) : Tkr 63 (w.alloc (.cells #[.string s] 63)) w.heap.size (bytesOf s) := ⟨s, heap_alloc_new _ _, rfl, hs⟩

set_option maxHeartbeats 8000000 in
set_option maxRecDepth 1000000 in
theorem zget_ok (s : ByteArray) (w : World) :
    Calls Try.prog 18 #[.string s] w fun r w' => ∃ a cap es err, r = .returned (.tuple #[.agg #[.slice a es.length cap], .int .i64 err]) ∧ Got s es err ∧ FolO w' w.heap.size (.slice a es.length cap) es ∧ Keeps (fun _ => False) w w' := by
  by_cases hl : 4096 < s.size
  · have hlz : (4096 : Int) < (s.size : Int) := by omega
    have HG : Hid (Got s [] 1400) := got_none (long_none hl)
    clear hl
    go_enter Try.func18, Try.ntmps18
    go_wp2_with (first
      | (refine wpList_allocF rfl rfl ?_; intro b2 w1 hE hK hb; have A1 : Hid (Folb w1 b2 (.slice none 0 0) ∧ Keeps (fun _ => False) w w1 ∧ w.heap.size ≤ b2) := ⟨hE, hK, hb⟩; have k2 := hE.c0; have f2 := hE.free; clear hE hK hb))
    (try simp only [Exit.inBlock, Exit.then])
    have hk7 : Keeps (fun x => x = b2) w1 (w1.setCell ⟨b2, 0, none⟩ (.slice none 0 0)) := (Keeps.refl (fun x => x = b2) w1).setCell (p := ⟨b2, 0, none⟩) (fun _ => rfl) _
    exact bodyPost_ret (v := .tuple #[.agg #[.slice none 0 0], .int .i64 1400]) (Folb.res2 rfl rfl rfl (A1.out.1.set _)) rfl ⟨none, 0, [], 1400, rfl, HG.out, FolO.nil _ _, A1.out.2.1.trans hk7 (fun k q1 q => by have := A1.out.2.2; omega)⟩
  · have hlz : ¬ (4096 : Int) < (s.size : Int) := by omega
    have HT : Hid (∀ w2, Calls Try.prog 33 #[.pointer (some ⟨w2.heap.size, 0, none⟩)] (w2.alloc (.cells #[.string s] 63)) fun r w' => ∃ a cap es, r = .returned (.agg #[.slice a es.length cap]) ∧ dats es = tkF 6 (bytesOf s) ∧ FolO w' (w2.heap.size + 1) (.slice a es.length cap) es ∧ Keeps (fun _ => False) w2 w') := fun w2 => by
      refine (folder_ok _ (bytesOf s) _ (tkr_newz w2 s (by omega))).mono ?_
      rintro r w' ⟨a, cap, es, rfl, h1, h2, h3⟩
      have hz : (w2.alloc (.cells #[.string s] 63)).heap.size = w2.heap.size + 1 := by simp
      rw [hz] at h2
      exact ⟨a, cap, es, rfl, h1, h2, ((Keeps.refl (fun _ => False) w2).alloc _).trans h3 (fun i hi h => by omega)⟩
    have HP : Hid (∀ (w' : World) base a cap es, dats es = tkF 6 (bytesOf s) → FolO w' base (.slice a es.length cap) es → Calls Try.prog 9 #[.agg #[.slice a es.length cap]] w' fun r w'' => r = .returned (.tuple #[.string (zipT es), .int .i64 (zErr es)]) ∧ Keeps (fun _ => False) w' w'') := fun w' base a cap es h1 h2 => wput_ok a cap es w' h2.folS (fit_of h1 (by omega))
    have HY : Hid (∀ es, dats es = tkF 6 (bytesOf s) → zErr es = 0 → zipT es = s → Got s es 0) := fun es _ h1 h2 => got_yes h1 h2
    have HN : Hid (∀ es, dats es = tkF 6 (bytesOf s) → ¬ (zErr es = 0 ∧ zipT es = s) → Got s [] 1400) := fun es h1 h2 => got_no (tk_dats h1) h2
    clear hl
    go_enter Try.func18, Try.ntmps18
    go_wp2_with (first
      | (refine wpList_allocF rfl rfl ?_; (fail_if_success (clear A1)); intro b2 w1 hE hK hb; have A1 : Hid (Folb w1 b2 (.slice none 0 0) ∧ Keeps (fun _ => False) w w1 ∧ w.heap.size ≤ b2) := ⟨hE, hK, hb⟩; clear hE hK hb)
      | (go_at_call 32; refine (of_ok _ _).mono ?_; rintro r w2 ⟨rfl, h⟩; have A2 : Hid (Folb w2 b2 (.slice none 0 0) ∧ Keeps (fun _ => False) w w2) := ⟨A1.out.1.keptF h, A1.out.2.1.trans h (fun _ _ h => h)⟩; clear h)
      | (go_at_call 33; refine (HT.out w2).mono ?_; rintro r w3 ⟨a, cap, es, rfl, h1, h2, h3⟩; have A3 : Hid (dats es = tkF 6 (bytesOf s) ∧ FolO w3 (w2.heap.size + 1) (.slice a es.length cap) es ∧ Keeps (fun _ => False) w w3 ∧ Folb w3 b2 (.slice none 0 0) ∧ b2 < w2.heap.size ∧ w.heap.size ≤ w2.heap.size) := ⟨h1, h2, A2.out.2.trans h3 (fun _ _ h => h), A2.out.1.keptF h3, A2.out.1.lt, A2.out.2.size⟩; clear h1 h2 h3)
      | (refine wpList_allocF rfl rfl ?_; intro b5 w4 hE hK hb; have A4 : Hid (FolO w4 (w2.heap.size + 1) (.slice a es.length cap) es ∧ Keeps (fun _ => False) w w4 ∧ Folb w4 b2 (.slice none 0 0) ∧ Folb w4 b5 (.slice none 0 0) ∧ w3.heap.size ≤ b5) := ⟨A3.out.2.1.keptF hK, A3.out.2.2.1.trans hK (fun _ _ h => h), A3.out.2.2.2.1.keptF hK, hE, hb⟩; have k5 := hE.c0; have f5 := hE.free; clear hE hK hb))
    have hk5 : Keeps (fun x => x = b5) w4 (w4.setCell ⟨b5, 0, none⟩ (.slice a es.length cap)) := (Keeps.refl (fun x => x = b5) w4).setCell (p := ⟨b5, 0, none⟩) (fun _ => rfl) _
    have hlow : ∀ k, w2.heap.size + 1 ≤ k → k < w3.heap.size → k ≠ b5 := fun k _ q e => by have := A4.out.2.2.2.2; omega
    have hF5 : FolO (w4.setCell ⟨b5, 0, none⟩ (.slice a es.length cap)) (w2.heap.size + 1) (.slice a es.length cap) es :=
      ⟨A4.out.1.1.kept hk5 (fun k q => hlow k (A3.out.2.1.1.lo k q).1 (A3.out.2.1.1.lo k q).2), fun x hx => ⟨(A4.out.1.2.1 x hx).1, (A4.out.1.2.1 x hx).2.kept hk5 (fun k q => hlow k ((A3.out.2.1.2.1 x hx).2.lo k q).1 ((A3.out.2.1.2.1 x hx).2.lo k q).2)⟩, A4.out.1.2.2⟩
    have A5 : Hid (FolO (w4.setCell ⟨b5, 0, none⟩ (.slice a es.length cap)) (w2.heap.size + 1) (.slice a es.length cap) es ∧ Keeps (fun _ => False) w (w4.setCell ⟨b5, 0, none⟩ (.slice a es.length cap)) ∧ Folb (w4.setCell ⟨b5, 0, none⟩ (.slice a es.length cap)) b2 (.slice none 0 0) ∧ Folb (w4.setCell ⟨b5, 0, none⟩ (.slice a es.length cap)) b5 (.slice a es.length cap)) :=
      ⟨hF5, A4.out.2.1.trans hk5 (fun k q1 q => by have := A4.out.2.2.2.2; have := A3.out.2.2.1.size; omega), A4.out.2.2.1.kept hk5 (by have := A4.out.2.2.2.2; have := A3.out.2.2.2.1.lt; omega), A4.out.2.2.2.1.set _⟩
    clear hk5 hlow hF5 k5 f5
    have HPP := hideC (HP.out (w4.setCell ⟨b5, 0, none⟩ (.slice a es.length cap)) (w2.heap.size + 1) a cap es A3.out.1 A5.out.1)
    refine HPP.out.mono ?_
    rintro r w6 ⟨rfl, h⟩
    have A6 : Hid (FolO w6 (w2.heap.size + 1) (.slice a es.length cap) es ∧ Keeps (fun _ => False) w w6 ∧ w.heap.size ≤ b2 ∧ b2 < w2.heap.size ∧ Folb w6 b2 (.slice none 0 0)) := ⟨A5.out.1.keptF h, A5.out.2.1.trans h (fun _ _ h => h), A1.out.2.2, A3.out.2.2.2.2.1, A5.out.2.2.1.keptF h⟩
    have k2 : w6.cell? ⟨b2, 0, none⟩ = some (.slice none 0 0) := (A5.out.2.2.1.keptF h).c0
    have f2 : w6.frozen? ⟨b2, 0, none⟩ = false := (A5.out.2.2.1.keptF h).free
    have k5 : w6.cell? ⟨b5, 0, none⟩ = some (.slice a es.length cap) := (A5.out.2.2.2.keptF h).c0
    have HD : Hid (dats es = tkF 6 (bytesOf s)) := A3.out.1
    clear h HPP A5 A4 A3 A2 A1 HP HT
    have hbq := beq_toList (zipT es) s
    have hcase : (zErr es = 1300) ∨ (zErr es = 0 ∧ ¬ zipT es = s) ∨ (zErr es = 0 ∧ zipT es = s) := by
      rcases zErr_or es with q | q
      · by_cases h : zipT es = s
        · exact .inr (.inr ⟨q, h⟩)
        · exact .inr (.inl ⟨q, h⟩)
      · exact .inl q
    have hk7 : ∀ v, Keeps (fun x => x = b2) w6 (w6.setCell ⟨b2, 0, none⟩ v) := fun v => (Keeps.refl (fun x => x = b2) w6).setCell (p := ⟨b2, 0, none⟩) (fun _ => rfl) _
    have HZ : Hid (∀ v, Folb (w6.setCell ⟨b2, 0, none⟩ v) b2 v ∧ Keeps (fun _ => False) w (w6.setCell ⟨b2, 0, none⟩ v) ∧ FolO (w6.setCell ⟨b2, 0, none⟩ v) w.heap.size (.slice a es.length cap) es) := fun v =>
      ⟨A6.out.2.2.2.2.set v, A6.out.2.1.trans (hk7 v) (fun k q1 q => by have := A6.out.2.2.1; omega), (A6.out.1.kept (hk7 v) (fun k q1 q2 q => by have := A6.out.2.2.2.1; omega)).mono (by have := A6.out.2.2.1; have := A6.out.2.2.2.1; omega)⟩
    clear hk7 A6
    rcases hcase with q | ⟨q, hne⟩ | ⟨q, hTs⟩
    · have HG : Hid (Got s [] 1400) := HN.out es HD.out (fun h => by rw [q] at h; exact absurd h.1 (by decide))
      rw [q]
      clear q hbq HN HY
      generalize zipT es = Z at *
      go_wp2
      (try simp only [Exit.inBlock, Exit.then])
      exact bodyPost_ret (v := .tuple #[.agg #[.slice none 0 0], .int .i64 1400]) (Folb.res2 rfl rfl rfl (HZ.out _).1) rfl ⟨none, 0, [], 1400, rfl, HG.out, FolO.nil _ _, (HZ.out _).2.1⟩
    · have HG : Hid (Got s [] 1400) := HN.out es HD.out (fun h => hne h.2)
      rw [decide_eq_false hne] at hbq
      have hb2 : ((zipT es).toList != s.toList) = true := by simp only [bne, hbq]; rfl
      rw [q]
      clear q hne HN HY
      generalize zipT es = Z at *
      go_wp2
      (try simp only [Exit.inBlock, Exit.then])
      exact bodyPost_ret (v := .tuple #[.agg #[.slice none 0 0], .int .i64 1400]) (Folb.res2 rfl rfl rfl (HZ.out _).1) rfl ⟨none, 0, [], 1400, rfl, HG.out, FolO.nil _ _, (HZ.out _).2.1⟩
    · have HG : Hid (Got s es 0) := HY.out es HD.out q hTs
      rw [decide_eq_true hTs] at hbq
      have hb2 : ((zipT es).toList != s.toList) = false := by simp only [bne, hbq]; rfl
      rw [q]
      clear q hTs HN HY
      generalize zipT es = Z at *
      go_wp2
      (try simp only [Exit.inBlock, Exit.then])
      exact bodyPost_ret (v := .tuple #[.agg #[.slice a es.length cap], .int .i64 0]) (Folb.res2 rfl rfl rfl (HZ.out _).1) rfl ⟨a, cap, es, 0, rfl, HG.out, (HZ.out _).2.2, (HZ.out _).2.1⟩

end Go.Proofs.Ythlaeeepbkfkgaa
