/-
  The program's maker of texts: Number and Told of package wire.
-/
import Derived.Test.YthlaeeepbkfkgaaWnum
import Derived.Lib.AppendStr
namespace Go.Proofs.Ythlaeeepbkfkgaa
open Go.RowKit
set_option linter.unusedVariables false
set_option linter.unusedSimpArgs false

/-- Bytes that a call owns. -/
def OwnB (w : World) (base : Nat) (v : Value) (xs : List Nat) : Prop := w.ownsRow base 5 1 v xs.length (xs.map byteV)
theorem OwnB.nil (w : World) (base : Nat) : OwnB w base (.slice none 0 0) [] := World.ownsRow_nil w base 5 1
theorem OwnB.kept {S : Nat → Prop} {w w' : World} {base : Nat} {v : Value} {xs : List Nat} (h : OwnB w base v xs) (hk : Keeps S w w') (hb : ∀ k, v.ownBlock = some k → ¬ S k) : OwnB w' base v xs :=
  owns_heap h (fun k e => hk.block k (World.ownsRow.lt h k e).2 (hb k e))
theorem OwnB.keptF {w w' : World} {base : Nat} {v : Value} {xs : List Nat} (h : OwnB w base v xs) (hk : Keeps (fun _ => False) w w') : OwnB w' base v xs := h.kept hk (fun _ _ h => h)
/-- A block's type, and its cells behind the first. -/
structure Lay where
  t : TypeId
  tl : List Value
instance (n : Nat) : OfNat Lay n := ⟨⟨n, []⟩⟩
/-- A text of bytes lies in block p, of type T. -/
def Txt (T : Lay) (w : World) (p : Nat) (v : Value) (xs : List Nat) : Prop := w.heap[p]? = some (.cells (v :: T.tl).toArray T.t (0, 0)) ∧ OwnB w (p + 1) v xs
theorem Txt.lt {T : Lay} {w : World} {p : Nat} {v : Value} {xs : List Nat} (h : Txt T w p v xs) : p < w.heap.size := lt_of_heap h.1
theorem Txt.kept {T : Lay} {S : Nat → Prop} {w w' : World} {p : Nat} {v : Value} {xs : List Nat} (h : Txt T w p v xs) (hk : Keeps S w w') (hp : ¬ S p) (hb : ∀ k, v.ownBlock = some k → ¬ S k) : Txt T w' p v xs :=
  ⟨(hk.block p h.lt hp).trans h.1, h.2.kept hk hb⟩
theorem Txt.keptF {T : Lay} {w w' : World} {p : Nat} {v : Value} {xs : List Nat} (h : Txt T w p v xs) (hk : Keeps (fun _ => False) w w') : Txt T w' p v xs := h.kept hk (fun h => h) (fun _ _ h => h)
theorem Txt.slice {T : Lay} {w : World} {p : Nat} {v : Value} {xs : List Nat} (h : Txt T w p v xs) : ∃ a cap0, v = .slice a xs.length cap0 := by
  rcases h.2.2 with ⟨rfl, h0⟩ | ⟨g, cap, cur, rfl, _⟩
  · exact ⟨none, 0, by rw [h0]⟩
  · exact ⟨_, cap, rfl⟩
theorem Txt.new (T : Lay) (w : World) : Txt T (w.alloc (.cells (.slice none 0 0 :: T.tl).toArray T.t)) w.heap.size (.slice none 0 0) [] := ⟨heap_alloc_new _ _, OwnB.nil _ _⟩
/-- What a call on a text leaves. -/
def OntoT (T : Lay) (w w' : World) (p : Nat) (v : Value) (xs : List Nat) : Prop :=
  ∃ v', Txt T w' p v' xs ∧ (v'.ownBlock = v.ownBlock ∨ ∃ g, v'.ownBlock = some g ∧ w.heap.size ≤ g) ∧ Keeps (fun k => k = p ∨ v.ownBlock = some k) w w'
theorem OntoT.refl {T : Lay} {w : World} {p : Nat} {v : Value} {xs : List Nat} (h : Txt T w p v xs) : OntoT T w w p v xs := ⟨v, h, .inl rfl, Keeps.refl _ _⟩
theorem OntoT.tr {T : Lay} {w w1 w2 : World} {p : Nat} {v v1 : Value} {ys : List Nat} (hb : v1.ownBlock = v.ownBlock ∨ ∃ g, v1.ownBlock = some g ∧ w.heap.size ≤ g) (hk : Keeps (fun k => k = p ∨ v.ownBlock = some k) w w1) (h : OntoT T w1 w2 p v1 ys) : OntoT T w w2 p v ys := by
  obtain ⟨v2, h1, h2, h3⟩ := h
  refine ⟨v2, h1, ?_, hk.trans h3 (fun i hi h => ?_)⟩
  · rcases h2 with h2 | ⟨g, e, hg⟩
    · rw [h2]; exact hb
    · exact .inr ⟨g, e, Nat.le_trans hk.size hg⟩
  · rcases h with h | h
    · exact .inl h
    · rcases hb with hb | ⟨g, e, hg⟩
      · exact .inr (hb ▸ h)
      · rw [e] at h; cases h; omega
/-- The same where nothing old is turned but the text's own. -/
theorem OntoT.far {T : Lay} {w w' : World} {p : Nat} {v : Value} {xs : List Nat} (h : OntoT T w w' p v xs) (hT : OwnB w (p + 1) v xs ∨ True) : Keeps (fun k => k = p ∨ v.ownBlock = some k) w w' := by
  obtain ⟨_, _, _, h⟩ := h; exact h
theorem info5 : (Try.prog.info? 5).map (fun i => (i.zero, i.size, i.bytes)) = some (some (.int .u8 0), 1, 1) := by kernel_rfl
theorem onto_byte {T : Lay} {p c : Nat} {xs : List Nat} {a : Option Addr} {cap0 : Nat} {w w1 w2 : World} {g cap : Nat} (hlt : p < w.heap.size) (hT : Txt T w p (.slice a xs.length cap0) xs) (ho : w1.ownsRow (p + 1) 5 1 (.slice (some ⟨g, 0, none⟩) (xs.length + 1) cap) (xs.length + 1) (xs.map byteV ++ [.int .u8 (c : Int)]))
    (hk : Keeps (fun k => (Value.slice a xs.length cap0).ownBlock = some k) w w1) (hg : (Value.slice a xs.length cap0).ownBlock = some g ∨ w.heap.size ≤ g) (h2 : w2 = w1.setCell ⟨p, 0, none⟩ (.slice (some ⟨g, 0, none⟩) (xs.length + 1) cap)) :
    OntoT T w w2 p (.slice a xs.length cap0) (xs ++ [c]) := by
  have hlow : ∀ k, (Value.slice a xs.length cap0).ownBlock = some k → p + 1 ≤ k := fun k e => (World.ownsRow.lt hT.2 k e).1
  have hp1 : w1.heap[p]? = some (.cells (.slice a xs.length cap0 :: T.tl).toArray T.t (0, 0)) := (hk.block p hlt (fun e => by have := hlow p e; omega)).trans hT.1
  have hgp : p + 1 ≤ g := by
    rcases hg with h | h
    · exact hlow g h
    · omega
  subst h2
  refine ⟨.slice (some ⟨g, 0, none⟩) (xs.length + 1) cap, ⟨?_, ?_⟩, ?_, ?_⟩
  · show (w1.setCell ⟨p, 0, none⟩ _).heap[p]? = _
    rw [heap_setCell_same hp1]; simp
  · have := owns_far ho (p := ⟨p, 0, none⟩) (by simp [Value.ownBlock]; omega) (.slice (some ⟨g, 0, none⟩) (xs.length + 1) cap)
    unfold OwnB
    rw [List.map_append, List.length_append]
    exact this
  · rcases hg with h | h
    · exact .inl h.symm
    · exact .inr ⟨g, rfl, h⟩
  · exact (hk.mono (fun _ _ h => .inr h)).setCell (fun _ => .inl rfl) _
theorem byte_of (m : Nat) : IntKind.u8.wrap (m : Int) = ((m % 256 : Nat) : Int) := by
  simp [IntKind.wrap, IntKind.bits, IntKind.signed]
theorem div_next (n i : Nat) : n / 256 ^ i / 256 = n / 256 ^ (i + 1) := by rw [Nat.div_div_eq_div_mul, Nat.pow_succ]

set_option maxHeartbeats 4000000 in
set_option maxRecDepth 1000000 in
theorem numb_ok (T : Lay) (p n k : Nat) (v : Value) (xs : List Nat) (w : World) (hn : n < 1099511627776) (hx : xs.length + k ≤ 100000) (hT : Txt T w p v xs) :
    Calls Try.prog 59 #[.pointer (some ⟨p, 0, none⟩), .int .i64 (n : Int), .int .i64 (k : Int)] w fun e w' => e = .returned (.tuple #[]) ∧ OntoT T w w' p v (xs ++ le k n) := by
  obtain ⟨i0, hi, hz0, hz1, hz2⟩ := info_parts info5
  have HW : Hid (OntoT T w w p v (xs ++ le 0 n)) := by
    have : xs ++ le 0 n = xs := by simp [le_zero]
    show OntoT T w w p v (xs ++ le 0 n)
    rw [this]; exact OntoT.refl hT
  have hlt := hT.lt
  clear hT
  go_enter Try.func59, Try.ntmps59
  go_wp2
  go_loopw [1, 7] (fun s1 s7 w' => ∃ i : Nat, i ≤ k ∧ s7 = .int .i64 (i : Int) ∧ s1 = .int .i64 ((n / 256 ^ i : Nat) : Int) ∧ Hid (OntoT T w w' p v (xs ++ le i n))) (fun _ s7 _ => ((k : Int) - intOf s7).toNat)
  case atStart => exact ⟨0, by omega, rfl, by simp, HW⟩
  case round =>
    clear HW
    obtain ⟨i, hik, rfl, rfl, HW⟩ := hrel
    by_cases hin : i < k
    · have hiz : (i : Int) < (k : Int) := by omega
      have HL : Hid (xs ++ le (i + 1) n = (xs ++ le i n) ++ [n / 256 ^ i % 256]) := by
        show _ = _
        rw [le_succ, List.append_assoc]
      have HD : Hid (n / 256 ^ i / 256 = n / 256 ^ (i + 1)) := div_next n i
      have hlen : (xs ++ le i n).length ≤ 100000 := by rw [List.length_append, le_len]; omega
      have hm : n / 256 ^ i < 1099511627776 := Nat.lt_of_le_of_lt (Nat.div_le_self _ _) hn
      generalize n / 256 ^ i = m at *
      generalize xs ++ le i n = ys at *
      obtain ⟨v1, hT1, hb1, hk1⟩ := HW.out
      obtain ⟨a, cap0, rfl⟩ := hT1.slice
      have HT : Hid (Txt T wr p (.slice a ys.length cap0) ys) := hT1
      have HB : Hid (((Value.slice a ys.length cap0).ownBlock = v.ownBlock ∨ ∃ g, (Value.slice a ys.length cap0).ownBlock = some g ∧ w.heap.size ≤ g) ∧ Keeps (fun k => k = p ∨ v.ownBlock = some k) w wr) := ⟨hb1, hk1⟩
      have hlow : ∀ k, (Value.slice a ys.length cap0).ownBlock = some k → p + 1 ≤ k := fun k hk => (hT1.2.lt k hk).1
      have hne : some p ≠ (Value.slice a ys.length cap0).ownBlock := fun h => by have := hlow p h.symm; omega
      have hpl := hT1.lt
      have k0 : wr.cell? ⟨p, 0, none⟩ = some (.slice a ys.length cap0) := cell_of_heap hT1.1 rfl
      have f0 : wr.frozen? ⟨p, 0, none⟩ = false := frozen_of_heap hT1.1
      have HO : Hid (wr.ownsRow (p + 1) 5 1 (.slice a ys.length cap0) ys.length (ys.map byteV)) := hT1.2
      clear hT1 hb1 hk1 hlow HW
      have hb8 := byte_of m
      have hm0 : (0 : Int) ≤ (m : Int) := by omega
      go_wp2_with (at_builtin; refine wpList_append_lies _ rfl (.tmp 13) (.tmp 16) 48 rfl (p + 1) 5 i0 (.int .u8 0) 1 1 Try.underlying48 hi hz0 hz1 hz2 rfl (by decide) (.slice a ys.length cap0) ys.length (ys.map byteV) rfl (HO.out.alloc _) ⟨wr.heap.size, 0, none⟩ 1 1 [.int .u8 _] rfl rfl (cell_one_new _ _ _) ?c2 (by decide) ?b1 ?b2 ?b3 (wr.heap.size + 1) (by simp) ?grow)
      case c2 => intro u hu; simp at hu; subst hu; rfl
      case b1 => unfold maxLen; omega
      case b2 => omega
      case b3 => simp; omega
      case grow =>
        intro g cap w1 hown1 hgrow hat hlt1
        have k1 : w1.cell? ⟨p, 0, none⟩ = some (.slice a ys.length cap0) := (hgrow.cell_far ⟨p, 0, none⟩ (by simp; omega) hne).trans (by rw [World.cell?_alloc_past _ _ _ hpl]; exact k0)
        have e1 : w1.frozen? ⟨p, 0, none⟩ = false := (hgrow.frozen_far ⟨p, 0, none⟩ (by simp; omega) hne).trans (by rw [World.frozen?_alloc_past _ _ _ hpl]; exact f0)
        have HO1 : Hid (w1.ownsRow (p + 1) 5 1 (.slice (some ⟨g, 0, none⟩) (ys.length + 1) cap) (ys.length + 1) _) := hown1
        have HK1 : Hid (Keeps (fun k => (Value.slice a ys.length cap0).ownBlock = some k) wr w1) := ((Keeps.refl _ wr).alloc _).grown hgrow (fun k _ e => e)
        have HA : Hid ((Value.slice a ys.length cap0).ownBlock = some g ∨ wr.heap.size ≤ g) := by
          rcases hat with h | h
          · exact .inl h
          · exact .inr (by omega)
        clear hown1 hgrow hat k0 f0 HO
        go_wp2
        go_roundw
        case rel =>
          refine ⟨i + 1, by omega, by push_cast; rfl, ?_, ?_⟩
          · rw [← HD.out]; first | rfl | (congr 1; omega)
          · rw [HL.out]
            refine OntoT.tr HB.out.1 HB.out.2 (onto_byte hpl HT.out ?_ HK1.out HA.out rfl)
            have := HO1.out
            first | exact this | (rw [← hb8]; exact this) | (rw [hb8] at this; exact this) | (simpa using this)
        case measure => simp [intOf]; omega
    · obtain rfl : i = k := by omega
      go_wp2
      go_end0
      exact ⟨rfl, HW.out⟩

end Go.Proofs.Ythlaeeepbkfkgaa
