/-
  Entries that may not be, one thing at a time (no program in sight).
-/
import Derived.Test.YtfbghchgfbjogaaGreatRows
import Derived.Test.YtfbghchgfbjogaaGreatF25
namespace Go.Proofs.YtfbghchgfbjogaaGreat.Zp
open Go.RowKit
set_option linter.unusedVariables false
set_option linter.unusedSimpArgs false

def ABC : ByteArray := ⟨#[97, 98, 99, 97, 98, 99, 97, 98, 99, 97, 98, 99, 97, 98, 99, 97, 98, 99, 97, 98, 99, 97, 98, 99, 97, 98, 99]⟩
theorem abc_fix : (Bk.fixS ABC).size < 27 := by decide +kernel
theorem abc_size : ABC.size = 27 := rfl
theorem abc_less : (Bk.defT ABC).size < ABC.size := by
  have := (Bk.defT_le ABC).2.1
  have := abc_fix
  rw [abc_size]; omega
theorem abc_M : Bk.pkM ABC = 8 := by unfold Bk.pkM; rw [if_pos abc_less]
theorem abc_T : Bk.pkT ABC = Bk.defT ABC := by unfold Bk.pkT; rw [if_pos abc_less]
theorem abc_ge : 2 ≤ (Bk.defT ABC).size := Bk.defT_ge ABC
theorem abc_ok : Bk.unT 8 (Bk.defT ABC) 27 = (ABC, 0) := by
  have := Bk.un_pack ABC (by decide)
  rw [abc_M, abc_T] at this; exact this
theorem bad0 : (Bk.unT 8 (Bk.defT ABC) 26).2 = 900 := by
  have := Bk.un_less ABC (by decide) (by decide) abc_less
  rw [abc_M, abc_T] at this
  have e : ((ABC.size : Int) - 1) = 26 := rfl
  rw [e] at this; rw [this]
theorem bad1 : (Bk.unT 8 (Bk.defT ABC) 28).2 = 900 := by
  have := Bk.un_more ABC (by decide)
  rw [abc_M, abc_T] at this
  have e : ((ABC.size : Int) + 1) = 28 := rfl
  rw [e] at this; rw [this]
theorem bad2 : (Bk.unT 8 (Bk.defT ABC ++ ⟨#[120]⟩) 27).2 = 900 := by
  have := Bk.un_tail ABC ⟨#[120]⟩ (by decide) (by decide)
  rw [abc_M, abc_T] at this
  have e : (ABC.size : Int) = 27 := rfl
  rw [e] at this; rw [this]
theorem bytes_cut (s : ByteArray) (n : Nat) : bytesOf (s.extract 0 n) = (bytesOf s).take n := by
  simp [bytesOf, ByteArray.data_extract, List.extract_eq_drop_take', List.map_take]
theorem bad3 : (Bk.unT 8 ((Bk.defT ABC).extract 0 ((Bk.defT ABC).size - 1)) 27).2 = 900 := by
  have hb := Bk.def_back ABC (by decide) [] 27 (by decide) (by decide)
  rw [List.append_nil] at hb
  have h6 := (bound_pure (bytesOf (Bk.defT ABC)) [] 27 (by omega) _ _ hb).2.2.2.2.2
  rw [← bytes_cut] at h6
  generalize (Bk.defT ABC).extract 0 ((Bk.defT ABC).size - 1) = P at *
  unfold Bk.unT
  rw [if_neg (by omega), if_neg (by omega), if_pos rfl, if_neg]
  rintro ⟨e, _, _⟩
  unfold Bk.infE at e
  rcases h : inflP (bytesOf P) 27 with er | ⟨o, t⟩
  · rw [h] at e
    have h1 := inflP_err _ _ _ h
    have e2 : er = 0 := e
    subst e2
    exact h1.ne rfl
  · have h4 := (bound_pure (bytesOf P) ((bytesOf P).drop t) 27 (by omega) o t h).2.2.2.1
    rw [List.take_append_drop] at h4
    rw [h6] at h4
    cases h4
theorem bad4 : (Bk.unT 0 (Bk.defT ABC) 27).2 = 900 := by
  have h := abc_less
  rw [abc_size] at h
  unfold Bk.unT
  rw [if_neg (by omega), if_pos rfl, if_neg (by omega)]

def Ent.setSz (e : Ent) (v : Int) : Ent := ⟨e.nm, e.gn, e.va, e.vn, e.vc, e.st, e.nd, e.mt, e.pk, v, e.cr⟩
def Ent.setPk (e : Ent) (v : ByteArray) : Ent := ⟨e.nm, e.gn, e.va, e.vn, e.vc, e.st, e.nd, e.mt, v, e.sz, e.cr⟩
def Ent.setMt (e : Ent) (v : Int) : Ent := ⟨e.nm, e.gn, e.va, e.vn, e.vc, e.st, e.nd, v, e.pk, e.sz, e.cr⟩
def Ent.setNm (e : Ent) (v : ByteArray) : Ent := ⟨v, e.gn, e.va, e.vn, e.vc, e.st, e.nd, e.mt, e.pk, e.sz, e.cr⟩
def Ent.setGn (e : Ent) (v : Bool) : Ent := ⟨e.nm, v, e.va, e.vn, e.vc, e.st, e.nd, e.mt, e.pk, e.sz, e.cr⟩
def Ent.setSt (e : Ent) (v : Int) : Ent := ⟨e.nm, e.gn, e.va, e.vn, e.vc, v, e.nd, e.mt, e.pk, e.sz, e.cr⟩
/-- The good one, packed as P, of sum c. -/
def gdE (P : ByteArray) (s : Int) (g : Nat) : Ent := pkE 8 P 27 s g
theorem gd_may (g : Nat) : mayE (gdE (Bk.defT ABC) ((Cr.joinS 0 ABC : Nat) : Int) g, [0, 1, 0, 0]) = true := pk_may 8 (Bk.defT ABC) ABC g (by decide) abc_ok (.inr ⟨rfl, by have := abc_less; rw [abc_size] at this; omega⟩)
theorem no_text {e : Ent} {ys : List Int} (hg : e.gn = false) (h : (Bk.unT e.mt e.pk e.sz).2 = 900) : mayE (e, ys) = false := by
  have h1 : okT e = false := by unfold okT; rw [h]; rfl
  simp only [mayE, hg, h1, Bool.or_false, Bool.and_false]
theorem no_held {e : Ent} {ys : List Int} (h : heldB (e, ys) = false) : mayE (e, ys) = false := by simp only [mayE, h, Bool.false_and]
theorem no0 (P : ByteArray) (s : Int) (g : Nat) (a : Option Addr) (n c : Nat) (h : (Bk.unT 8 P 26).2 = 900) : mayE (((gdE P s g).vec a n c).setSz 26, [0, 1, 0, 0]) = false := no_text rfl h
theorem no1 (P : ByteArray) (s : Int) (g : Nat) (a : Option Addr) (n c : Nat) (h : (Bk.unT 8 P 28).2 = 900) : mayE (((gdE P s g).vec a n c).setSz 28, [0, 1, 0, 0]) = false := no_text rfl h
theorem no2 (P R : ByteArray) (s : Int) (g : Nat) (a : Option Addr) (n c : Nat) (h : (Bk.unT 8 R 27).2 = 900) : mayE (((gdE P s g).vec a n c).setPk R, [0, 1, 0, 0]) = false := no_text rfl h
theorem no4 (P : ByteArray) (s : Int) (g : Nat) (a : Option Addr) (n c : Nat) (h : (Bk.unT 0 P 27).2 = 900) : mayE (((gdE P s g).vec a n c).setMt 0, [0, 1, 0, 0]) = false := no_text rfl h
theorem no5 (P S : ByteArray) (s : Int) (g : Nat) (a : Option Addr) (n c : Nat) (v : Int) (h : Bk.unT 8 P 27 = (S, 0)) (hv : v ≠ ((Cr.joinS 0 S : Nat) : Int)) : mayE (((gdE P s g).vec a n c).setCr v, [0, 1, 0, 0]) = false := by
  have h1 : okT (((gdE P s g).vec a n c).setCr v) = false := by
    show (decide ((Bk.unT 8 P 27).2 = 0) && decide (((Cr.joinS 0 (Bk.unT 8 P 27).1 : Nat) : Int) = v)) = false
    rw [h]
    rw [decide_eq_false (fun e => hv e.symm : ¬ ((Cr.joinS 0 (S, (0 : Int)).1 : Nat) : Int) = v), Bool.and_false]
  have e : mayE (((gdE P s g).vec a n c).setCr v, [0, 1, 0, 0]) = (heldB (((gdE P s g).vec a n c).setCr v, [0, 1, 0, 0]) && (false || okT (((gdE P s g).vec a n c).setCr v))) := rfl
  rw [e, h1, Bool.or_false, Bool.and_false]
theorem no6 (P : ByteArray) (s : Int) (g : Nat) (a : Option Addr) (n c : Nat) : mayE (((gdE P s g).vec a n c).setNm ⟨#[46, 46]⟩, [0, 1, 0, 0]) = false := no_held (by
  have e : heldB (((gdE P s g).vec a n c).setNm ⟨#[46, 46]⟩, [0, 1, 0, 0]) = (headB [0, 1, 0, 0] 1 1 && (Nm.nameB ⟨#[46, 46]⟩ && textB (((gdE P s g).vec a n c).setNm ⟨#[46, 46]⟩))) := rfl
  have : Nm.nameB ⟨#[46, 46]⟩ = false := by decide
  rw [e, this, Bool.false_and, Bool.and_false])
theorem no7 (P : ByteArray) (s : Int) (g : Nat) (a : Option Addr) (n c d : Nat) (hd : 1 ≤ d) : mayE ((gdE P s g).vec a n c, [-(d : Int), 1, 0, 0]) = false := no_held (by
  have e : heldB ((gdE P s g).vec a n c, [-(d : Int), 1, 0, 0]) = (headB [-(d : Int), 1, 0, 0] 1 1 && (Nm.nameB ⟨#[97]⟩ && textB ((gdE P s g).vec a n c))) := rfl
  have : headB [-(d : Int), 1, 0, 0] 1 1 = false := by
    have : mayB [-(d : Int), 1, 0, 0] = false := mayB_bad 0 (Nat.succ_pos 3) (.inl (by show -(d : Int) < 0; omega))
    unfold headB; rw [this, Bool.false_and]
  rw [e, this, Bool.false_and])
theorem no8 (P : ByteArray) (s : Int) (g : Nat) (a : Option Addr) (n c : Nat) : mayE (((gdE P s g).vec a n c).setGn true, [0, 1, 0, 0]) = false := no_held (by
  have e : heldB (((gdE P s g).vec a n c).setGn true, [0, 1, 0, 0]) = (headB [0, 1, 0, 0] 1 1 && (Nm.nameB ⟨#[97]⟩ && bareB (((gdE P s g).vec a n c).setGn true))) := rfl
  have : bareB (((gdE P s g).vec a n c).setGn true) = false := by
    have e2 : bareB (((gdE P s g).vec a n c).setGn true) = (decide ((8 : Int) = 0) && (decide (P = ⟨#[]⟩) && (decide ((27 : Int) = 0) && decide (s = 0)))) := rfl
    rw [e2, decide_eq_false (by decide : ¬ (8 : Int) = 0), Bool.false_and]
  rw [e, this, Bool.and_false, Bool.and_false])
theorem no9 (P : ByteArray) (s : Int) (g : Nat) (a : Option Addr) (n c d : Nat) (hd : 1 ≤ d) : mayE (((gdE P s g).vec a n c).setSt (1048576 + (d : Int)), [0, 1, 0, 0]) = false := no_held (by
  have e : heldB (((gdE P s g).vec a n c).setSt (1048576 + (d : Int)), [0, 1, 0, 0]) = (headB [0, 1, 0, 0] (1048576 + (d : Int)) 1 && (Nm.nameB ⟨#[97]⟩ && textB (((gdE P s g).vec a n c).setSt (1048576 + (d : Int))))) := rfl
  have : headB [0, 1, 0, 0] (1048576 + (d : Int)) 1 = false := by
    unfold headB
    rw [decide_eq_false (by omega : ¬ (1 ≤ 1048576 + (d : Int) ∧ 1048576 + (d : Int) ≤ 1048576)), Bool.false_and, Bool.and_false]
  rw [e, this, Bool.false_and])
/-- A sum with bits turned is another one. -/
theorem xor_else (c d : Nat) (hc : c < 4294967296) (hd : 1 ≤ d) (hd2 : d ≤ 1024) : ∃ v : Int, bits .xor .i64 (c : Int) (d : Int) = v ∧ v ≠ (c : Int) := by
  refine ⟨_, rfl, ?_⟩
  have e : bits .xor .i64 (c : Int) (d : Int) = ((c ^^^ d : Nat) : Int) := by
    show IntKind.i64.wrap (((BitVec.ofInt 64 (c : Int) ^^^ BitVec.ofInt 64 (d : Int)).toNat : Nat) : Int) = _
    rw [BitVec.toNat_xor, ofInt64_toNat c (by omega), ofInt64_toNat d (by omega)]
    have : c ^^^ d < 2 ^ 32 := Nat.xor_lt_two_pow (by omega) (by omega)
    exact wrap_i64_small _ (by omega) (by omega)
  rw [e]
  intro h
  have h2 : c ^^^ d = c := by omega
  have h3 : d = 0 := by
    have := congrArg (c ^^^ ·) h2
    simpa [← Nat.xor_assoc] using this
  omega


theorem entb_apart {w : World} {base b : Nat} {v : Value} {ys : List Int} {e : Ent} (h : OwnV w base v ys) (hE : Entb w b e) : v.ownBlock ≠ some b := fun q => by
  rcases h.2 with ⟨e1, _⟩ | ⟨g, cap, cur, e1, _, hg, _⟩
  · rw [e1] at q; cases q
  · rw [e1] at q
    have : g = b := by simpa [Value.ownBlock] using q
    subst this
    unfold Entb at hE
    rw [hE] at hg
    simp at hg
/-- How EntryForms stands behind the copy. -/
structure Fm (w0 u w : World) (b9 b : Nat) (G : Ent) (ca : Option Addr) (cc : Nat) : Prop where
  en : Ens w0 u [(b9, (G, [0, 1, 0, 0]))]
  kp : Keeps (fun k => u.heap.size ≤ k) u w
  eb : Entb w b (G.vec ca 4 cc)
  ov : OwnV w u.heap.size (.slice ca 4 cc) [0, 1, 0, 0]
  bo : u.heap.size ≤ b
theorem Fm.set {w0 u w : World} {b9 b : Nat} {G : Ent} {ca : Option Addr} {cc : Nat} (h : Fm w0 u w b9 b G ca cc) (j : Nat) (v : Value) (E : Ent) (hs : (#[.string (G.vec ca 4 cc).nm, .bool (G.vec ca 4 cc).gn, .slice (G.vec ca 4 cc).va (G.vec ca 4 cc).vn (G.vec ca 4 cc).vc, .int .i64 (G.vec ca 4 cc).st, .int .i64 (G.vec ca 4 cc).nd, .int .i64 (G.vec ca 4 cc).mt, .string (G.vec ca 4 cc).pk, .int .i64 (G.vec ca 4 cc).sz, .int .i64 (G.vec ca 4 cc).cr] : Array Value).setIfInBounds j v = #[.string E.nm, .bool E.gn, .slice E.va E.vn E.vc, .int .i64 E.st, .int .i64 E.nd, .int .i64 E.mt, .string E.pk, .int .i64 E.sz, .int .i64 E.cr]) (h1 : E.va = ca) (h2 : E.vn = 4) (hn : E.nm.size ≤ 1000) (hp : E.pk.size ≤ 1000) : Ens w0 (w.setCell ⟨b, j, none⟩ v) [(b, (E, [0, 1, 0, 0])), (b9, (G, [0, 1, 0, 0]))] := by
  have hb := h.bo
  have hu := h.en.kp.size
  refine (h.en.far (h.kp.trans keep_set (fun k _ q => by omega)) (fun k q => q)).add (Nat.le_trans hu hb) (h.eb.setC j v E hs) ⟨h2, ?_, by show 4 * 8 + 4096 ≤ 140737488355328; decide, by show E.nm.size + 4096 ≤ _; omega, by show E.pk.size + 4096 ≤ _; omega⟩
  have ho := h.ov.kept (keep_set (b := b) (j := j) (v := v)) (fun k q q2 => entb_apart h.ov h.eb (by rw [← q2]; exact q))
  obtain ⟨a', c', e', hr, _⟩ := ho.row
  simp only [Value.slice.injEq] at e'
  rw [h1, e'.1]
  exact hr
theorem Fm.vec0 {w0 u w : World} {b9 b : Nat} {G : Ent} {ca : Option Addr} {cc : Nat} (h : Fm w0 u w b9 b G ca cc) : ∃ g, ca = some ⟨g, 0, none⟩ ∧ w.cell? ⟨g, 0, none⟩ = some (.int .i64 0) ∧ w.frozen? ⟨g, 0, none⟩ = false ∧ g ≠ b ∧ ∀ x : Int, G.nm.size ≤ 1000 → G.pk.size ≤ 1000 → Ens w0 (w.setCell ⟨g, 0, none⟩ (.int .i64 x)) [(b, (G.vec ca 4 cc, [x, 1, 0, 0])), (b9, (G, [0, 1, 0, 0]))] := by
  have hb := h.bo
  have hu := h.en.kp.size
  rcases h.ov.form with ⟨_, e⟩ | ⟨g, cap, e, hg, ho⟩
  · cases e
  · simp only [Value.slice.injEq] at e
    obtain ⟨e1, _, e3⟩ := e
    subst e1
    have hne : g ≠ b := fun q => entb_apart h.ov h.eb (by rw [← q]; rfl)
    refine ⟨g, rfl, ho.cell 0 (by decide), ho.free 0 (by decide), hne, fun x hn hp => ?_⟩
    refine (h.en.far (h.kp.trans keep_set (fun k _ q => by omega)) (fun k q => q)).add (Nat.le_trans hu hb) (h.eb.kept keep_set (fun q => hne q.symm)) ⟨rfl, (ho.set 0 x).row, by show 4 * 8 + 4096 ≤ 140737488355328; decide, by show G.nm.size + 4096 ≤ _; omega, by show G.pk.size + 4096 ≤ _; omega⟩

end Go.Proofs.YtfbghchgfbjogaaGreat.Zp
