/-
  What every such program answers.
-/
import Derived.Test.YthlaeeepbkfkgaaGget
import Derived.Test.YthlaeeepbkfkgaaFul
namespace Go.Proofs.Ythlaeeepbkfkgaa
open Go.RowKit
set_option linter.unusedVariables false
set_option linter.unusedSimpArgs false

set_option maxHeartbeats 4000000 in
set_option maxRecDepth 1000000 in
/-- The laws' small entry. -/
theorem small14_ok (nm t : ByteArray) (k : Nat) (s : Int) (w : World) (hk : k < 4) (ht : t.size ≤ 1000000) :
    Calls Try.prog 22 #[.string nm, .int .i64 (k : Int), .int .i64 s, .string t] w fun r w' => ∃ g, r = .returned (.agg #[.string (Ent.mk nm false (some ⟨g, 0, none⟩) 4 4 s (k : Int) 0 t (t.size : Int) ((Cr.joinS 0 t : Nat) : Int)).nm, .bool (Ent.mk nm false (some ⟨g, 0, none⟩) 4 4 s (k : Int) 0 t (t.size : Int) ((Cr.joinS 0 t : Nat) : Int)).gn, .slice (Ent.mk nm false (some ⟨g, 0, none⟩) 4 4 s (k : Int) 0 t (t.size : Int) ((Cr.joinS 0 t : Nat) : Int)).va (Ent.mk nm false (some ⟨g, 0, none⟩) 4 4 s (k : Int) 0 t (t.size : Int) ((Cr.joinS 0 t : Nat) : Int)).vn (Ent.mk nm false (some ⟨g, 0, none⟩) 4 4 s (k : Int) 0 t (t.size : Int) ((Cr.joinS 0 t : Nat) : Int)).vc, .int .i64 (Ent.mk nm false (some ⟨g, 0, none⟩) 4 4 s (k : Int) 0 t (t.size : Int) ((Cr.joinS 0 t : Nat) : Int)).st, .int .i64 (Ent.mk nm false (some ⟨g, 0, none⟩) 4 4 s (k : Int) 0 t (t.size : Int) ((Cr.joinS 0 t : Nat) : Int)).nd, .int .i64 (Ent.mk nm false (some ⟨g, 0, none⟩) 4 4 s (k : Int) 0 t (t.size : Int) ((Cr.joinS 0 t : Nat) : Int)).mt, .string (Ent.mk nm false (some ⟨g, 0, none⟩) 4 4 s (k : Int) 0 t (t.size : Int) ((Cr.joinS 0 t : Nat) : Int)).pk, .int .i64 (Ent.mk nm false (some ⟨g, 0, none⟩) 4 4 s (k : Int) 0 t (t.size : Int) ((Cr.joinS 0 t : Nat) : Int)).sz, .int .i64 (Ent.mk nm false (some ⟨g, 0, none⟩) 4 4 s (k : Int) 0 t (t.size : Int) ((Cr.joinS 0 t : Nat) : Int)).cr]) ∧ Own w' g 4 ([0, 0, 0, 0].set k s) ∧ Keeps (fun _ => False) w w' ∧ w.heap.size ≤ g := by
  have hkz : (k : Int) < 4 := by omega
  have hk0 : (0 : Int) ≤ (k : Int) := by omega
  have HC : Hid (∀ w', Calls Try.prog 37 #[.string t] w' fun r w'' => r = .returned (.int .i64 ((Cr.joinS 0 t : Nat) : Int)) ∧ w'' = w') := fun w' => Cr.rcrc_ok t w' (by omega)
  generalize ((Cr.joinS 0 t : Nat) : Int) = c at *
  go_enter Try.func22, Try.ntmps22
  go_wp2_with (first
    | (refine wpList_alloc9 rfl rfl ?_; intro b1 w1 hE hK hb; have A1 : Hid (Entb w1 b1 Ent.zero ∧ Keeps (fun _ => False) w w1 ∧ w.heap.size ≤ b1) := ⟨hE, hK, hb⟩; clear hE hK hb)
    | (refine wpList_ints rfl _ _ rfl 4 rfl rfl (by decide) ?_; intro g w2 hO hK hb; have A2 : Hid (Entb w2 b1 Ent.zero ∧ Keeps (fun _ => False) w w2 ∧ Own w2 g 4 [0, 0, 0, 0] ∧ w.heap.size ≤ g ∧ b1 < g) := ⟨A1.out.1.keptF hK, A1.out.2.1.trans hK (fun _ _ h => h), hO, Nat.le_trans A1.out.2.1.size hb, Nat.lt_of_lt_of_le A1.out.1.lt hb⟩; have k1 := hO.cell k (by simpa using hk); have f1 := hO.free k (by simpa using hk); clear hO hK hb)
    | (go_at_call 37; refine (HC.out _).mono ?_; rintro r w' ⟨rfl, hw⟩; obtain rfl := hw.symm; clear hw)
    | (refine wpList_store9 rfl _ _ rfl b1 ⟨nm, false, some ⟨g, 0, none⟩, 4, 4, s, (k : Int), 0, t, (t.size : Int), c⟩ rfl rfl Ent.zero ?hA ?_; (case hA => exact A2.out.1.kept ((Keeps.refl (fun x => x = g) w2).setCell (p := ⟨g, k, none⟩) (fun _ => rfl) _) (by have := A2.out.2.2.2.2; omega)); intro w3 hE hK; have A3 : Hid (Entb w3 b1 ⟨nm, false, some ⟨g, 0, none⟩, 4, 4, s, (k : Int), 0, t, (t.size : Int), c⟩ ∧ Keeps (fun x => x = b1) (w2.setCell ⟨g, k, none⟩ (.int .i64 s)) w3) := ⟨hE, hK⟩; clear hE hK))
  (try simp only [Exit.inBlock, Exit.then])
  have hk1 : Keeps (fun x => x = g) w2 (w2.setCell ⟨g, k, none⟩ (.int .i64 s)) := (Keeps.refl (fun x => x = g) w2).setCell (p := ⟨g, k, none⟩) (fun _ => rfl) _
  have h5 := A2.out.2.2.2.2
  have h1 := A1.out.2.2
  refine bodyPost_ret (v := .agg #[.string (Ent.mk nm false (some ⟨g, 0, none⟩) 4 4 s (k : Int) 0 t (t.size : Int) c).nm, .bool (Ent.mk nm false (some ⟨g, 0, none⟩) 4 4 s (k : Int) 0 t (t.size : Int) c).gn, .slice (Ent.mk nm false (some ⟨g, 0, none⟩) 4 4 s (k : Int) 0 t (t.size : Int) c).va (Ent.mk nm false (some ⟨g, 0, none⟩) 4 4 s (k : Int) 0 t (t.size : Int) c).vn (Ent.mk nm false (some ⟨g, 0, none⟩) 4 4 s (k : Int) 0 t (t.size : Int) c).vc, .int .i64 (Ent.mk nm false (some ⟨g, 0, none⟩) 4 4 s (k : Int) 0 t (t.size : Int) c).st, .int .i64 (Ent.mk nm false (some ⟨g, 0, none⟩) 4 4 s (k : Int) 0 t (t.size : Int) c).nd, .int .i64 (Ent.mk nm false (some ⟨g, 0, none⟩) 4 4 s (k : Int) 0 t (t.size : Int) c).mt, .string (Ent.mk nm false (some ⟨g, 0, none⟩) 4 4 s (k : Int) 0 t (t.size : Int) c).pk, .int .i64 (Ent.mk nm false (some ⟨g, 0, none⟩) 4 4 s (k : Int) 0 t (t.size : Int) c).sz, .int .i64 (Ent.mk nm false (some ⟨g, 0, none⟩) 4 4 s (k : Int) 0 t (t.size : Int) c).cr]) (A3.out.1.res1 rfl rfl) rfl ⟨g, rfl, ?_, (A2.out.2.1.trans hk1 (fun i hi h => by have := A2.out.2.2.2.1; omega)).trans A3.out.2 (fun i hi h => by omega), A2.out.2.2.2.1⟩
  exact (A2.out.2.2.1.set k s).kept A3.out.2 (by omega)

/-- Entries in a block. -/
theorem Fol.heap14 {w : World} {g : Nat} {es : List It} {T : TypeId} (h : w.heap[g]? = some (.cells (entV es).toArray T (0, 0))) (hr : ∀ x ∈ es, x.1.vn = x.2.length ∧ Row w x.1.va x.2) : Fol w (some ⟨g, 0, none⟩) es := by
  refine .inr ⟨g, 0, rfl, lt_of_heap h, fun i hi => ⟨fun j u hu => ?_, hr _ (List.getElem_mem hi)⟩⟩
  have hj : j < 9 := by have := (List.getElem?_eq_some_iff.1 hu).1; rwa [ecs_len] at this
  rw [Nat.zero_add]
  refine cell_of_heap h ?_
  rw [List.getElem?_toArray, entV_get es i j hi hj]
  exact hu
theorem pair_fol (w2 : World) (x1 x2 : It) (h1 : x1.1.vn = x1.2.length ∧ Row w2 x1.1.va x1.2) (h2 : x2.1.vn = x2.2.length ∧ Row w2 x2.1.va x2.2) : ∀ w', Keeps (fun _ => False) (w2.alloc (.cells #[.string x1.1.nm, .bool x1.1.gn, .slice x1.1.va x1.1.vn x1.1.vc, .int .i64 x1.1.st, .int .i64 x1.1.nd, .int .i64 x1.1.mt, .string x1.1.pk, .int .i64 x1.1.sz, .int .i64 x1.1.cr, .string x2.1.nm, .bool x2.1.gn, .slice x2.1.va x2.1.vn x2.1.vc, .int .i64 x2.1.st, .int .i64 x2.1.nd, .int .i64 x2.1.mt, .string x2.1.pk, .int .i64 x2.1.sz, .int .i64 x2.1.cr] 46)) w' → Fol w' (some ⟨w2.heap.size, 0, none⟩) [x1, x2] := fun w' hk => by
  have hk2 : Keeps (fun _ => False) w2 w' := ((Keeps.refl _ _).alloc _).tr hk
  refine Fol.heap14 (T := 46) ?_ (fun x hx => ?_)
  · rw [hk.block w2.heap.size (by simp) (fun h => h)]
    exact heap_alloc_new _ _
  · simp only [List.mem_cons, List.not_mem_nil, or_false] at hx
    rcases hx with rfl | rfl
    · exact ⟨h1.1, h1.2.keptF hk2⟩
    · exact ⟨h2.1, h2.2.keptF hk2⟩
theorem one_fol (w2 : World) (x1 : It) (h1 : x1.1.vn = x1.2.length ∧ Row w2 x1.1.va x1.2) : ∀ w', Keeps (fun _ => False) (w2.alloc (.cells #[.string x1.1.nm, .bool x1.1.gn, .slice x1.1.va x1.1.vn x1.1.vc, .int .i64 x1.1.st, .int .i64 x1.1.nd, .int .i64 x1.1.mt, .string x1.1.pk, .int .i64 x1.1.sz, .int .i64 x1.1.cr] 46)) w' → Fol w' (some ⟨w2.heap.size, 0, none⟩) [x1] := fun w' hk => by
  have hk2 : Keeps (fun _ => False) w2 w' := ((Keeps.refl _ _).alloc _).tr hk
  refine Fol.heap14 (T := 46) ?_ (fun x hx => ?_)
  · rw [hk.block w2.heap.size (by simp) (fun h => h)]
    exact heap_alloc_new _ _
  · simp only [List.mem_cons, List.not_mem_nil, or_false] at hx
    rcases hx with rfl
    exact ⟨h1.1, h1.2.keptF hk2⟩
theorem sm14_ok (n : UInt8) (k : Nat) (s : Int) (t : ByteArray) (w : World) (hk : k < 4) (ht : t.size ≤ 300) (hn : Nm.nameB ⟨#[n]⟩ = true) (hh : headB ([0, 0, 0, 0].set k s) s k = true) :
    Calls Try.prog 22 #[.string ⟨#[n]⟩, .int .i64 (k : Int), .int .i64 s, .string t] w fun r w' => ∃ e, r = .returned (.agg #[.string e.nm, .bool e.gn, .slice e.va e.vn e.vc, .int .i64 e.st, .int .i64 e.nd, .int .i64 e.mt, .string e.pk, .int .i64 e.sz, .int .i64 e.cr]) ∧ heldB (e, [0, 0, 0, 0].set k s) = true ∧ dat (e, [0, 0, 0, 0].set k s) = (⟨#[n]⟩, false, [0, 0, 0, 0].set k s, s, (k : Int), 0, t, (t.size : Int), ((Cr.joinS 0 t : Nat) : Int)) ∧ (e.vn = ([0, 0, 0, 0].set k s : List Int).length ∧ Row w' e.va ([0, 0, 0, 0].set k s)) ∧ Keeps (fun _ => False) w w' := by
  refine (small14_ok ⟨#[n]⟩ t k s w hk (by omega)).mono ?_
  rintro r w' ⟨g, rfl, h1, h2, h3⟩
  have hc := Cr.joinS_lt 0 t
  refine ⟨_, rfl, ?_, rfl, ⟨by simp, h1.row⟩, h2⟩
  have h4 : textB (Ent.mk ⟨#[n]⟩ false (some ⟨g, 0, none⟩) 4 4 s (k : Int) 0 t (t.size : Int) ((Cr.joinS 0 t : Nat) : Int)) = true := by
    simp only [textB, packB, Bool.and_eq_true, Bool.or_eq_true, decide_eq_true_eq]
    exact ⟨by omega, by omega, .inl ⟨trivial, trivial⟩⟩
  show (headB _ s k && (Nm.nameB ⟨#[n]⟩ && textB _)) = true
  rw [hh, hn, h4]; rfl
theorem held_fit {x : It} (h : heldB x = true) : Fit x := by
  obtain ⟨_, _, _, h4, _, h5⟩ := heldB_nums h
  have h6 := mayB_len (headB_may (heldB_head h))
  exact ⟨by omega, by omega, by omega⟩
theorem write_fit {es : List It} (h : writeB es = true) : ∀ x ∈ es, Fit x := fun x hx => held_fit (writeB_held h x hx)
theorem dats_write {es gs : List It} (h : dats es = dats gs) (hw : writeB es = true) : writeB gs = true := by rw [← write_dats h]; exact hw
theorem zget_zip (es : List It) (hw : writeB es = true) (w : World) :
    Calls Try.prog 18 #[.string (zipT es)] w fun r w' => ∃ a cap gs, r = .returned (.tuple #[.agg #[.slice a gs.length cap], .int .i64 0]) ∧ dats es = dats gs ∧ FolO w' w.heap.size (.slice a gs.length cap) gs ∧ Keeps (fun _ => False) w w' := by
  refine (zget_ok (zipT es) w).mono ?_
  rintro r w' ⟨a, cap, gs, err, rfl, h1, h2, h3⟩
  have hg : Got (zipT es) es 0 := got_yes (by rw [zErr, hw]; rfl) rfl
  obtain ⟨rfl, hd⟩ := got_one h1 hg
  exact ⟨a, cap, gs, rfl, hd.symm, h2, h3⟩
theorem zget_bad (s : ByteArray) (h : ∀ fs, writeB fs = true → bytesOf s ≠ zipL fs) (w : World) :
    Calls Try.prog 18 #[.string s] w fun r w' => ∃ a cap, r = .returned (.tuple #[.agg #[.slice a 0 cap], .int .i64 1400]) ∧ Keeps (fun _ => False) w w' := by
  refine (zget_ok s w).mono ?_
  rintro r w' ⟨a, cap, gs, err, rfl, h1, h2, h3⟩
  obtain ⟨rfl, hd⟩ := got_one h1 (got_none h)
  have hl := dats_len hd
  exact ⟨a, cap, by rw [hl]; rfl, h3⟩
theorem a14 : Nm.nameB ⟨#[97]⟩ = true := by decide
theorem b14 : Nm.nameB ⟨#[98]⟩ = true := by decide
theorem ab14 : leT ⟨#[98]⟩ ⟨#[97]⟩ = false := by rw [leT_eq]; decide
theorem w_pair {x1 x2 : It} (h1 : heldB x1 = true) (h2 : heldB x2 = true) (n1 : x1.1.nm = ⟨#[97]⟩) (n2 : x2.1.nm = ⟨#[98]⟩) : writeB [x1, x2] = true := by
  have e1 : leT x1.1.nm ⟨#[]⟩ = false := by rw [n1, leT_nil]; decide
  have e2 : leT x2.1.nm x1.1.nm = false := by rw [n1, n2]; exact ab14
  simp only [writeB, risesB, h1, h2, e1, e2]
  rfl
theorem w_alone {x1 : It} (h1 : heldB x1 = true) (n1 : x1.1.nm = ⟨#[97]⟩) : writeB [x1] = true := by
  have e1 : leT x1.1.nm ⟨#[]⟩ = false := by rw [n1, leT_nil]; decide
  simp only [writeB, risesB, h1, e1]
  rfl
theorem zip_bytes {es : List It} (hw : writeB es = true) : bytesOf (zipT es) = zipL es := by rw [zipT, hw, cond_true, bytesOf_text _ (zipL_lt _)]
theorem zip_size {es : List It} (hw : writeB es = true) : (zipT es).size = (zipL es).length := by rw [← bytesOf_length, zip_bytes hw]
theorem bytesOf_append (a b : ByteArray) : bytesOf (a ++ b) = bytesOf a ++ bytesOf b := by
  have e : textOf (bytesOf a ++ bytesOf b) = a ++ b := by rw [← textOf_append, textOf_bytes, textOf_bytes]
  rw [← e, bytesOf_text _ (lt_app (bytesOf_lt _) (bytesOf_lt _))]
/-- What is longer than an archive that it begins with is none. -/
theorem more_none {es : List It} (hw : writeB es = true) (p : ByteArray) (hp : 0 < p.size) : ∀ fs, writeB fs = true → bytesOf (zipT es ++ p) ≠ zipL fs := fun fs hf he => by
  rw [bytesOf_append, zip_bytes hw] at he
  have h1 : (zipL fs).take (zipL es).length = zipL es := by rw [← he, List.take_left]
  have h2 := no_prefix hw hf h1
  have h3 := congrArg List.length he
  rw [List.length_append, bytesOf_length] at h3
  omega
theorem nil_none : ∀ fs, writeB fs = true → bytesOf ⟨#[]⟩ ≠ zipL fs := fun fs hf he => by
  have h3 := congrArg List.length he
  have h4 := zipL_len (writeB_held hf)
  have h5 : (bytesOf ⟨#[]⟩).length = 0 := rfl
  omega
/-- What is known of two small entries in a block of their own, T being their archive. -/
def Pair (w2 : World) (e1 e2 : Ent) (T : ByteArray) : Prop := ∀ w', Keeps (fun _ => False) (w2.alloc (.cells #[.string e1.nm, .bool e1.gn, .slice e1.va e1.vn e1.vc, .int .i64 e1.st, .int .i64 e1.nd, .int .i64 e1.mt, .string e1.pk, .int .i64 e1.sz, .int .i64 e1.cr, .string e2.nm, .bool e2.gn, .slice e2.va e2.vn e2.vc, .int .i64 e2.st, .int .i64 e2.nd, .int .i64 e2.mt, .string e2.pk, .int .i64 e2.sz, .int .i64 e2.cr] 46)) w' →
  (Calls Try.prog 9 #[.agg #[.slice (some ⟨w2.heap.size, 0, none⟩) 2 2]] w' fun r w'' => r = .returned (.tuple #[.string T, .int .i64 0]) ∧ Keeps (fun _ => False) w' w'') ∧
  (Calls Try.prog 18 #[.string T] w' fun r w'' => ∃ a n cap, r = .returned (.tuple #[.agg #[.slice a n cap], .int .i64 0]) ∧ n = 2 ∧ Keeps (fun _ => False) w' w'' ∧ ∀ w6, Keeps (fun _ => False) w'' w6 → Calls Try.prog 16 #[.agg #[.slice (some ⟨w2.heap.size, 0, none⟩) 2 2], .agg #[.slice a n cap]] w6 fun r w7 => r = .returned (.bool true) ∧ Keeps (fun _ => False) w6 w7)
theorem pair_of (w2 : World) (x1 x2 : It) (h1 : x1.1.vn = x1.2.length ∧ Row w2 x1.1.va x1.2) (h2 : x2.1.vn = x2.2.length ∧ Row w2 x2.1.va x2.2) (hw : writeB [x1, x2] = true) : Pair w2 x1.1 x2.1 (zipT [x1, x2]) := fun w' hk => by
  have hF := pair_fol w2 x1 x2 h1 h2
  have e0 : zErr [x1, x2] = 0 := by rw [zErr, hw]; rfl
  refine ⟨?_, ?_⟩
  · have := wput_ok (some ⟨w2.heap.size, 0, none⟩) 2 [x1, x2] w' (hF w' hk) (write_fit hw)
    rw [e0] at this; exact this
  · refine (zget_zip [x1, x2] hw w').mono ?_
    rintro r w'' ⟨a, cap, gs, rfl, q1, q2, q3⟩
    refine ⟨a, gs.length, cap, rfl, (dats_len q1).symm, q3, fun w6 hk6 => ?_⟩
    have := sameF_ok (some ⟨w2.heap.size, 0, none⟩) a 2 cap [x1, x2] gs w6 (hF w6 ((hk.tr q3).tr hk6)) (q2.folS.keptF hk6) (write_fit hw) (write_fit (dats_write q1 hw)) (by show 2 ≤ _; decide)
    rw [decide_eq_true q1] at this; exact this

set_option maxHeartbeats 8000000 in
set_option maxRecDepth 1000000 in
theorem awake14_ok (w : World) : Calls Try.prog 21 #[] w fun r w' => r = .returned (.bool true) ∧ Keeps (fun _ => False) w w' := by
  have HS1 : Hid (Calls Try.prog 22 #[.string ⟨#[97]⟩, .int .i64 0, .int .i64 1, .string ⟨#[104, 105]⟩] w fun r w' => ∃ e, r = .returned (.agg #[.string e.nm, .bool e.gn, .slice e.va e.vn e.vc, .int .i64 e.st, .int .i64 e.nd, .int .i64 e.mt, .string e.pk, .int .i64 e.sz, .int .i64 e.cr]) ∧ heldB (e, [1, 0, 0, 0]) = true ∧ e.nm = ⟨#[97]⟩ ∧ (e.vn = ([1, 0, 0, 0] : List Int).length ∧ Row w' e.va [1, 0, 0, 0]) ∧ Keeps (fun _ => False) w w') := by
    refine ((sm14_ok 97 0 1 ⟨#[104, 105]⟩ w (by decide) (by decide) a14 (by decide)).mono ?_ : Calls Try.prog 22 #[.string ⟨#[97]⟩, .int .i64 0, .int .i64 1, .string ⟨#[104, 105]⟩] w fun r w' => ∃ e, r = .returned (.agg #[.string e.nm, .bool e.gn, .slice e.va e.vn e.vc, .int .i64 e.st, .int .i64 e.nd, .int .i64 e.mt, .string e.pk, .int .i64 e.sz, .int .i64 e.cr]) ∧ heldB (e, [1, 0, 0, 0]) = true ∧ e.nm = ⟨#[97]⟩ ∧ (e.vn = ([1, 0, 0, 0] : List Int).length ∧ Row w' e.va [1, 0, 0, 0]) ∧ Keeps (fun _ => False) w w')
    rintro r w' ⟨e, rfl, h1, h2, h3, h4⟩
    exact ⟨e, rfl, h1, congrArg Prod.fst h2, h3, h4⟩
  have HS2 : Hid (∀ w1, Calls Try.prog 22 #[.string ⟨#[98]⟩, .int .i64 2, .int .i64 5, .string ⟨#[]⟩] w1 fun r w' => ∃ e, r = .returned (.agg #[.string e.nm, .bool e.gn, .slice e.va e.vn e.vc, .int .i64 e.st, .int .i64 e.nd, .int .i64 e.mt, .string e.pk, .int .i64 e.sz, .int .i64 e.cr]) ∧ heldB (e, [0, 0, 5, 0]) = true ∧ e.nm = ⟨#[98]⟩ ∧ (e.vn = ([0, 0, 5, 0] : List Int).length ∧ Row w' e.va [0, 0, 5, 0]) ∧ Keeps (fun _ => False) w1 w') := fun w1 => by
    refine (sm14_ok 98 2 5 ⟨#[]⟩ w1 (by decide) (by decide) b14 (by decide)).mono ?_
    rintro r w' ⟨e, rfl, h1, h2, h3, h4⟩
    exact ⟨e, rfl, h1, congrArg Prod.fst h2, h3, h4⟩
  have HB : Hid (∀ w', Calls Try.prog 18 #[.string ⟨#[]⟩] w' fun r w'' => ∃ a cap, r = .returned (.tuple #[.agg #[.slice a 0 cap], .int .i64 1400]) ∧ Keeps (fun _ => False) w' w'') := fun w' => zget_bad ⟨#[]⟩ nil_none w'
  go_enter Try.func21, Try.ntmps21
  go_wp2_with (first
    | (go_at_call 22; (fail_if_success (clear M1)); refine HS1.out.mono ?_; rintro r w1 ⟨e1, rfl, h1, h2, h3, h4⟩; have A1 : Hid (heldB (e1, [1, 0, 0, 0]) = true ∧ e1.nm = ⟨#[97]⟩ ∧ (e1.vn = ([1, 0, 0, 0] : List Int).length ∧ Row w1 e1.va [1, 0, 0, 0]) ∧ Keeps (fun _ => False) w w1) := ⟨h1, h2, h3, h4⟩; have M1 : Hid True := trivial; clear h1 h2 h3 h4)
    | (go_at_call 22; refine (HS2.out w1).mono ?_; rintro r w2 ⟨e2, rfl, h1, h2, h3, h4⟩; obtain ⟨T, hp, ht, hx⟩ : ∃ T, Pair w2 e1 e2 T ∧ T.size ≤ 4096 ∧ (∀ w', Calls Try.prog 18 #[.string (T ++ ⟨#[120]⟩)] w' fun r w'' => ∃ a cap, r = .returned (.tuple #[.agg #[.slice a 0 cap], .int .i64 1400]) ∧ Keeps (fun _ => False) w' w'') := (by
          have hw := w_pair A1.out.1 h1 A1.out.2.1 h2
          exact ⟨_, pair_of w2 (e1, [1, 0, 0, 0]) (e2, [0, 0, 5, 0]) ⟨A1.out.2.2.1.1, A1.out.2.2.1.2.keptF h4⟩ h3 hw, by rw [zip_size hw]; exact zipL_le hw, fun w' => zget_bad _ (more_none hw ⟨#[120]⟩ (by decide)) w'⟩); have HP : Hid (Pair w2 e1 e2 T) := hp; have HX : Hid (∀ w', Calls Try.prog 18 #[.string (T ++ ⟨#[120]⟩)] w' fun r w'' => ∃ a cap, r = .returned (.tuple #[.agg #[.slice a 0 cap], .int .i64 1400]) ∧ Keeps (fun _ => False) w' w'') := hx; have A2 : Hid (Keeps (fun _ => False) w w2) := A1.out.2.2.2.tr h4; have z1 : ¬ 9223372036854775807 < T.size + 1 := (by omega); clear h1 h2 h3 h4 hp ht hx)
    | (go_at_call 9; refine ((HP.out _ ((Keeps.refl _ _).alloc _)).1).mono ?_; rintro r w3 ⟨rfl, h⟩; have A3 : Hid (Keeps (fun _ => False) ((w2.alloc (.cells #[.string e1.nm, .bool e1.gn, .slice e1.va e1.vn e1.vc, .int .i64 e1.st, .int .i64 e1.nd, .int .i64 e1.mt, .string e1.pk, .int .i64 e1.sz, .int .i64 e1.cr, .string e2.nm, .bool e2.gn, .slice e2.va e2.vn e2.vc, .int .i64 e2.st, .int .i64 e2.nd, .int .i64 e2.mt, .string e2.pk, .int .i64 e2.sz, .int .i64 e2.cr] 46)).alloc (.cells #[.slice (some ⟨w2.heap.size, 0, none⟩) 2 2] 24)) w3) := h; clear h)
    | (go_at_call 18; (fail_if_success (clear M2)); refine ((HP.out w3 (((Keeps.refl _ _).alloc _).tr A3.out)).2).mono ?_; rintro r w4 ⟨a, n, cap, rfl, h1, h2, h3⟩; have A4 : Hid (Keeps (fun _ => False) ((w2.alloc (.cells #[.string e1.nm, .bool e1.gn, .slice e1.va e1.vn e1.vc, .int .i64 e1.st, .int .i64 e1.nd, .int .i64 e1.mt, .string e1.pk, .int .i64 e1.sz, .int .i64 e1.cr, .string e2.nm, .bool e2.gn, .slice e2.va e2.vn e2.vc, .int .i64 e2.st, .int .i64 e2.nd, .int .i64 e2.mt, .string e2.pk, .int .i64 e2.sz, .int .i64 e2.cr] 46)).alloc (.cells #[.slice (some ⟨w2.heap.size, 0, none⟩) 2 2] 24)) w4 ∧ ∀ w6, Keeps (fun _ => False) w4 w6 → Calls Try.prog 16 #[.agg #[.slice (some ⟨w2.heap.size, 0, none⟩) 2 2], .agg #[.slice a n cap]] w6 fun r w7 => r = .returned (.bool true) ∧ Keeps (fun _ => False) w6 w7) := ⟨A3.out.tr h2, h3⟩; have M2 : Hid True := trivial; clear h1 h2 h3)
    | (go_at_call 18; (fail_if_success (clear M3)); refine (HX.out _).mono ?_; rintro r w5 ⟨a5, cap5, rfl, h⟩; have A5 : Hid (Keeps (fun _ => False) (w4.alloc (.cells #[.slice a n cap] 24)) w5) := h; have M3 : Hid True := trivial; clear h)
    | (go_at_call 18; refine (HB.out _).mono ?_; rintro r w6 ⟨a6, cap6, rfl, h⟩; have A6 : Hid (Keeps (fun _ => False) (w4.alloc (.cells #[.slice a n cap] 24)) (w6.alloc (.cells #[.slice a6 0 cap6] 24))) := ((A5.out.alloc _).tr h).alloc _; have c4 : (w6.alloc (.cells #[.slice a6 0 cap6] 24)).cell? ⟨w4.heap.size, 0, none⟩ = some (.slice a n cap) := (by rw [World.cell?_of_block (A6.out.block w4.heap.size (by simp) (fun h => h))]; exact cell_of_heap (heap_alloc_new _ _) rfl); have c1 : (w6.alloc (.cells #[.slice a6 0 cap6] 24)).cell? ⟨w2.heap.size + 1, 0, none⟩ = some (.slice (some ⟨w2.heap.size, 0, none⟩) 2 2) := (by
          have hk := (A4.out.1.alloc (.cells #[.slice a n cap] 24)).tr A6.out
          rw [World.cell?_of_block (hk.block (w2.heap.size + 1) (by simp) (fun h => h))]
          have := heap_alloc_new (w2.alloc (.cells #[.string e1.nm, .bool e1.gn, .slice e1.va e1.vn e1.vc, .int .i64 e1.st, .int .i64 e1.nd, .int .i64 e1.mt, .string e1.pk, .int .i64 e1.sz, .int .i64 e1.cr, .string e2.nm, .bool e2.gn, .slice e2.va e2.vn e2.vc, .int .i64 e2.st, .int .i64 e2.nd, .int .i64 e2.mt, .string e2.pk, .int .i64 e2.sz, .int .i64 e2.cr] 46)) (.cells #[.slice (some ⟨w2.heap.size, 0, none⟩) 2 2] 24)
          exact cell_of_heap (by simpa using this) rfl); clear h)
    | (go_at_call 11; refine (num_any _ _).mono ?_; rintro r w' ⟨rfl, hw⟩; obtain rfl := hw.symm; clear hw)
    | (go_at_call 16; refine (A4.out.2 _ (((Keeps.refl _ _).alloc _).tr A6.out)).mono ?_; rintro r w8 ⟨rfl, h⟩; have A8 : Hid (Keeps (fun _ => False) w w8) := ((((A2.out.alloc _).alloc _).tr A4.out.1).alloc _).tr (A6.out.tr h); clear h))
  go_ret
  exact ⟨rfl, A8.out⟩

end Go.Proofs.Ythlaeeepbkfkgaa
