/-
  Two writers side by side, and a slice of structs of three ints that came in.
-/
import Derived.Test.YtlkgnjnnfoocpaaAwake
import Derived.Test.YtlkgnjnnfoocpaaRefW
import Derived.Test.YtlkgnjnnfoocpaaRefR
import Derived.Test.YtlkgnjnnfoocpaaSeq
import Derived.Deep.Slices
namespace Go.Proofs.Ytlkgnjnnfoocpaa
open Go.RowKit
set_option linter.unusedVariables false
set_option linter.unusedSimpArgs false

/-- The program's writer in b1, the document's in b2; they share nothing. -/
def Two (w : World) (b1 : Nat) (o1 : Option Nat) (L1 : List Bool) (b2 : Nat) (o2 : Option Nat) (L2 : List Bool) : Prop :=
  Wr 59 w b1 o1 L1 ∧ Wr 29 w b2 o2 L2 ∧ b1 ≠ b2 ∧ (∀ k, o1 = some k → k ≠ b2 ∧ o2 ≠ some k) ∧ ∀ k, o2 = some k → k ≠ b1

theorem Two.kept {S : Nat → Prop} {w w' : World} {b1 b2 : Nat} {o1 o2 : Option Nat} {L1 L2 : List Bool} (h : Two w b1 o1 L1 b2 o2 L2) (hk : Keeps S w w') (hb1 : ¬ S b1) (hb2 : ¬ S b2) (ho1 : ∀ k, o1 = some k → ¬ S k) (ho2 : ∀ k, o2 = some k → ¬ S k) : Two w' b1 o1 L1 b2 o2 L2 :=
  ⟨h.1.kept hk hb1 ho1, h.2.1.kept hk hb2 ho2, h.2.2⟩

theorem Two.keptF {w w' : World} {b1 b2 : Nat} {o1 o2 : Option Nat} {L1 L2 : List Bool} (h : Two w b1 o1 L1 b2 o2 L2) (hk : Keeps (fun _ => False) w w') : Two w' b1 o1 L1 b2 o2 L2 :=
  h.kept hk (fun h => h) (fun h => h) (fun _ _ h => h) (fun _ _ h => h)

theorem Two.fst {w w' : World} {b1 b2 : Nat} {o1 o2 : Option Nat} {L1 L2 L : List Bool} (h : Two w b1 o1 L1 b2 o2 L2) (ho : Onto 59 w w' b1 o1 L) : ∃ o1', Two w' b1 o1' L b2 o2 L2 := by
  obtain ⟨h1, h2, hne, hd1, hd2⟩ := h
  obtain ⟨o', hw, hoo, hk⟩ := ho
  have hlt2 := h2.lt
  have hown2 := h2.own
  refine ⟨o', hw, h2.kept hk ?_ ?_, hne, ?_, ?_⟩
  · rintro (h | h)
    · exact hne h.symm
    · exact (hd1 _ h).1 rfl
  · intro k hk2
    rintro (h | h)
    · exact hd2 k hk2 h
    · exact (hd1 _ h).2 hk2
  · intro k hk'
    rcases hoo with rfl | ⟨g, rfl, hg⟩
    · exact hd1 k hk'
    · cases hk'
      refine ⟨by omega, fun h => ?_⟩
      have := hown2 _ h; omega
  · exact hd2

theorem Two.snd {w w' : World} {b1 b2 : Nat} {o1 o2 : Option Nat} {L1 L2 L : List Bool} (h : Two w b1 o1 L1 b2 o2 L2) (ho : Onto 29 w w' b2 o2 L) : ∃ o2', Two w' b1 o1 L1 b2 o2' L := by
  obtain ⟨h1, h2, hne, hd1, hd2⟩ := h
  obtain ⟨o', hw, hoo, hk⟩ := ho
  have hlt1 := h1.lt
  have hown1 := h1.own
  refine ⟨o', h1.kept hk ?_ ?_, hw, hne, ?_, ?_⟩
  · rintro (h | h)
    · exact hne h
    · exact hd2 _ h rfl
  · intro k hk1
    rintro (h | h)
    · exact (hd1 k hk1).1 h
    · exact (hd1 k hk1).2 h
  · intro k hk1
    refine ⟨(hd1 k hk1).1, ?_⟩
    rcases hoo with rfl | ⟨g, rfl, hg⟩
    · exact (hd1 k hk1).2
    · intro h; cases h
      have := hown1 _ hk1; omega
  · intro k hk'
    rcases hoo with rfl | ⟨g, rfl, hg⟩
    · exact hd2 k hk'
    · cases hk'; omega

/-! ### Each call in one form, whether it takes the bits or not -/
def takB (lo most : Int) (n : Nat) (x k : Int) : Bool := decide (lo ≤ k ∧ k ≤ most ∧ 0 ≤ x ∧ x < 2 ^ k.toNat ∧ (n : Int) + k ≤ 65536)
def errOf (t : Bool) : Int := cond t 0 100
def putL (L : List Bool) (x k : Int) : List Bool := cond (takB 0 16 L.length x k) (L ++ bitsOf x.toNat k.toNat) L
def codeL (L : List Bool) (x k : Int) : List Bool := cond (takB 1 15 L.length x k) (L ++ codeOf x.toNat k.toNat) L

theorem takB_true {lo most : Int} {n : Nat} {x k : Int} (h : takB lo most n x k = true) : lo ≤ k ∧ k ≤ most ∧ 0 ≤ x ∧ x < 2 ^ k.toNat ∧ (n : Int) + k ≤ 65536 := of_decide_eq_true h
theorem takB_false {lo most : Int} {n : Nat} {x k : Int} (h : takB lo most n x k = false) : ¬ (lo ≤ k ∧ k ≤ most ∧ 0 ≤ x ∧ x < 2 ^ k.toNat ∧ (n : Int) + k ≤ 65536) := of_decide_eq_false h

theorem putL_le (L : List Bool) (x k : Int) (h : L.length ≤ 65536) : (putL L x k).length ≤ 65536 := by
  unfold putL
  cases ht : takB 0 16 L.length x k with
  | false => exact h
  | true => have := takB_true ht; simp only [cond, List.length_append, bitsOf_length]; omega
theorem codeL_le (L : List Bool) (x k : Int) (h : L.length ≤ 65536) : (codeL L x k).length ≤ 65536 := by
  unfold codeL
  cases ht : takB 1 15 L.length x k with
  | false => exact h
  | true => have := takB_true ht; simp only [cond, List.length_append, codeOf_length]; omega
theorem alignOf_le (L : List Bool) (h : L.length ≤ 65536) : (alignOf L).length ≤ 65536 := by rw [alignOf_length]; omega

theorem Onto.same {T : TypeId} {w : World} {b : Nat} {o : Option Nat} {L : List Bool} (h : Wr T w b o L) : Onto T w w b o L := ⟨o, h, .inl rfl, Keeps.refl _ _⟩
theorem Onto.later {T : TypeId} {w w' : World} {b : Nat} {o : Option Nat} {L : List Bool} (h : Wr T w b o L) (hk : Keeps (fun _ => False) w w') : Onto T w w' b o L :=
  ⟨o, h.kept hk (fun h => h) (fun _ _ h => h), .inl rfl, hk.mono (fun _ _ h => h.elim)⟩

theorem put_all (b : Nat) (o : Option Nat) (L : List Bool) (x k : Int) (w : World) (hW : Wr 59 w b o L) (hL : L.length ≤ 65536) :
    Calls Try.prog 10 #[.pointer (some ⟨b, 0, none⟩), .int .i64 x, .int .i64 k] w fun e w' => e = .returned (.int .i64 (errOf (takB 0 16 L.length x k))) ∧ Onto 59 w w' b o (putL L x k) := by
  unfold putL
  cases ht : takB 0 16 L.length x k with
  | false =>
    refine (put_bad b o L x k w hW hL (takB_false ht)).mono ?_
    rintro e w' ⟨rfl, rfl⟩
    exact ⟨rfl, Onto.same hW⟩
  | true =>
    have h := takB_true ht
    exact put_okI b o L x k w hW h.1 h.2.1 h.2.2.1 h.2.2.2.1 (by omega)

theorem rput_all (b : Nat) (o : Option Nat) (L : List Bool) (x k : Int) (w : World) (hW : Wr 29 w b o L) (hL : L.length ≤ 65536) :
    Calls Try.prog 11 #[.pointer (some ⟨b, 0, none⟩), .int .i64 x, .int .i64 k] w fun e w' => e = .returned (.int .i64 (errOf (takB 0 16 L.length x k))) ∧ Onto 29 w w' b o (putL L x k) := by
  unfold putL
  cases ht : takB 0 16 L.length x k with
  | false =>
    refine (rput_bad b o L x k w hW hL (takB_false ht)).mono ?_
    rintro e w' ⟨rfl, rfl⟩
    exact ⟨rfl, Onto.same hW⟩
  | true =>
    obtain ⟨h1, h2, h3, h4, h5⟩ := takB_true ht
    obtain ⟨n, rfl⟩ := Int.eq_ofNat_of_zero_le h1
    obtain ⟨v, rfl⟩ := Int.eq_ofNat_of_zero_le h3
    exact rput_ok b o L v n w h2 (by rw [Int.toNat_natCast] at h4; exact_mod_cast h4) (by omega) hW

theorem code_all (b : Nat) (o : Option Nat) (L : List Bool) (x k : Int) (w : World) (hW : Wr 59 w b o L) (hL : L.length ≤ 65536) :
    Calls Try.prog 12 #[.pointer (some ⟨b, 0, none⟩), .agg #[.int .i64 k, .int .i64 x]] w fun e w' => e = .returned (.int .i64 (errOf (takB 1 15 L.length x k))) ∧ Onto 59 w w' b o (codeL L x k) := by
  unfold codeL
  cases ht : takB 1 15 L.length x k with
  | false =>
    refine (code_bad b o L x k w hW hL (takB_false ht)).mono ?_
    rintro e w' ⟨rfl, rfl⟩
    exact ⟨rfl, Onto.later hW ((Keeps.refl _ _).alloc _)⟩
  | true =>
    have h := takB_true ht
    exact code_okI b o L x k w hW h.1 h.2.1 h.2.2.1 h.2.2.2.1 (by omega)

theorem rcode_all (b : Nat) (o : Option Nat) (L : List Bool) (x k : Int) (w : World) (hW : Wr 29 w b o L) (hL : L.length ≤ 65536) :
    Calls Try.prog 13 #[.pointer (some ⟨b, 0, none⟩), .agg #[.int .i64 k, .int .i64 x]] w fun e w' => e = .returned (.int .i64 (errOf (takB 1 15 L.length x k))) ∧ Onto 29 w w' b o (codeL L x k) := by
  unfold codeL
  cases ht : takB 1 15 L.length x k with
  | false =>
    refine (rcode_bad b o L x k w hW hL (takB_false ht)).mono ?_
    rintro e w' ⟨rfl, m, rfl⟩
    exact ⟨rfl, Onto.later hW (((Keeps.refl _ _).alloc _).drewN m)⟩
  | true =>
    obtain ⟨h1, h2, h3, h4, h5⟩ := takB_true ht
    obtain ⟨n, rfl⟩ := Int.eq_ofNat_of_zero_le (show 0 ≤ k by omega)
    obtain ⟨v, rfl⟩ := Int.eq_ofNat_of_zero_le h3
    exact rcode_ok b o L v n w h1 h2 (by rw [Int.toNat_natCast] at h4; exact_mod_cast h4) (by omega) hW

/-- A block that neither writer owns. -/
theorem Two.apart {w : World} {b1 b2 : Nat} {o1 o2 : Option Nat} {L1 L2 : List Bool} (h : Two w b1 o1 L1 b2 o2 L2) (o : Obj) : Two (w.alloc o) b1 o1 L1 b2 o2 L2 := h.keptF ((Keeps.refl _ w).alloc o)

/-- A slice of structs of three ints that came in. -/
def IsTri (w : World) (a : Option Addr) (len : Nat) (f0 f1 f2 : Nat → Int) : Prop :=
  len = 0 ∨ ∃ b off, a = some ⟨b, off, none⟩ ∧ b < w.heap.size ∧ ∀ i, i < len → w.cell? ⟨b, off + i * 3, none⟩ = some (.int .i64 (f0 i)) ∧ w.cell? ⟨b, off + i * 3 + 1, none⟩ = some (.int .i64 (f1 i)) ∧ w.cell? ⟨b, off + i * 3 + 2, none⟩ = some (.int .i64 (f2 i))

theorem add_at (b off i : Nat) : (⟨b, off, none⟩ : Addr).add i = ⟨b, off + i, none⟩ := by unfold Addr.add; split <;> simp_all

theorem tri_open {H : Type} {enc : TypeId × Value → H} {P : Program} {w : World} {base : Nat} {spare : Nat → Bool} {held : Bool} {t e : TypeId} {fa fb fc : Field} {fuel : Nat} {a : Option Addr} {len cap : Nat} {x : DataW H × List MemPlace}
    (ht : P.underlying t = some (.slice e)) (he : P.underlying e = some (.struct #[fa, fb, fc])) (ce : P.cellsOf e = 3) (oa : fa.offset = 0) (ob : fb.offset = 1) (oc : fc.offset = 2)
    (ca : P.cellsOf fa.type = 1) (cb : P.cellsOf fb.type = 1) (cc : P.cellsOf fc.type = 1) (ua : P.underlying fa.type = some (.int .i64)) (ub : P.underlying fb.type = some (.int .i64)) (uc : P.underlying fc.type = some (.int .i64))
    (h : DataW.trod enc P w base spare held fuel t [.slice a len cap] = some x) : ∃ f0 f1 f2, IsTri w a len f0 f1 f2 := by
  rcases Deep.open_slice ht h with ⟨h0, _⟩ | ⟨a', len', cap', m, n, D, Pl, hcs, hb, hl, hm, hmm, rfl, hx⟩
  · cases h0; exact ⟨fun _ => 0, fun _ => 0, fun _ => 0, .inl rfl⟩
  · cases hcs
    by_cases hz : len = 0
    · exact ⟨fun _ => 0, fun _ => 0, fun _ => 0, .inl hz⟩
    have hlm : len ≤ m := by rw [hmm]; split <;> omega
    have each : ∀ i, i < len → ∃ q : Int × Int × Int, w.cell? (a'.add (i * 3)) = some (.int .i64 q.1) ∧ w.cell? (a'.add (i * 3 + 1)) = some (.int .i64 q.2.1) ∧ w.cell? (a'.add (i * 3 + 2)) = some (.int .i64 q.2.2) := by
      intro i hi
      obtain ⟨cs', h1, h2⟩ := hx i (by omega)
      rw [ce] at h1
      obtain ⟨_, hlen, hcell⟩ := World.cells?_some h1
      obtain ⟨xs, k, hk, hxy, _, hxl, hf⟩ := DataW.trod_struct he h2
      match xs, hxl, cs', hlen with
      | [y0, y1, y2], _, [v0, v1, v2], _ =>
        have g0 := hf 0 fa rfl
        have g1 := hf 1 fb rfl
        have g2 := hf 2 fc rfl
        simp [oa, ob, oc, ca, cb, cc] at g0 g1 g2
        obtain ⟨n0, e0, _, _⟩ := DataW.trod_int ua g0
        obtain ⟨n1, e1, _, _⟩ := DataW.trod_int ub g1
        obtain ⟨n2, e2, _, _⟩ := DataW.trod_int uc g2
        simp at e0 e1 e2
        subst e0 e1 e2
        have r0 := hcell 0 (by omega)
        have r1 := hcell 1 (by omega)
        have r2 := hcell 2 (by omega)
        rw [Deep.add_add] at r0 r1 r2
        exact ⟨(n0, n1, n2), by simpa using r0, by simpa using r1, by simpa using r2⟩
    obtain ⟨q, hq⟩ := Deep.choose_lt each
    obtain ⟨b, off, spot⟩ := a'
    have hs0 := (hq 0 (by omega)).1
    have hspot : spot = none := by simpa [Addr.add] using World.cell?_spot hs0
    subst hspot
    refine ⟨fun i => (q i).1, fun i => (q i).2.1, fun i => (q i).2.2, .inr ⟨b, off, rfl, ?_, ?_⟩⟩
    · exact World.block_lt_of_cell? w _ (by rw [add_at] at hs0; exact hs0)
    · intro i hi
      have := hq i hi
      simp only [add_at] at this
      exact this

end Go.Proofs.Ytlkgnjnnfoocpaa
