/-
  Numbers in bytes, the lowest first (no program in sight). A head in plain bytes: told, and read again (no program in sight). The program's May and the document's answer alike for every text: nameB. An archive in plain bytes (no program in sight). The program's maker of texts: Number and Told of package wire. Bytes that a call owns as a text; the program's Told; the document's Bytes. Rows of bytes in a block of their own: read, written, made out of a text and back. The program's taker of numbers: Of and Number of package wire. The program's Put: may, flagOf, the maker's head, Put itself. The program's Get: the taker's head, Get itself. Entries copied, held against each other, written over. Small contracts: Of, Num, wholeBytes and At of package bits, for every world.
-/
import Derived.Test.YtfbghchgfbjogaaRows
import Derived.Test.YtfbghchgfbjogaaM01
import Derived.BigQuiet
import Derived.Lib.AppendStr
import Derived.WalkKit
import Derived.WalkSpells
import Derived.WalkLawsBesides
import Derived.BigRegion
namespace Go.Proofs.Ytfbghchgfbjogaa.Zp
open Go.RowKit
set_option linter.unusedVariables false
set_option linter.unusedSimpArgs false

/-- The k lowest bytes of a number, the lowest first. -/
def le (k n : Nat) : List Nat := (List.range k).map (fun i => n / 256 ^ i % 256)
theorem le_len (k n : Nat) : (le k n).length = k := by simp [le]
theorem le_zero (n : Nat) : le 0 n = [] := rfl
theorem le_succ (k n : Nat) : le (k + 1) n = le k n ++ [n / 256 ^ k % 256] := by simp [le, List.range_succ]
theorem le_lt (k n : Nat) : ∀ y ∈ le k n, y < 256 := by
  intro y hy
  simp only [le, List.mem_map] at hy
  obtain ⟨i, _, rfl⟩ := hy
  exact Nat.mod_lt _ (by decide)
theorem bytesOf_lt (s : ByteArray) : ∀ y ∈ bytesOf s, y < 256 := by
  intro y hy
  simp only [bytesOf, List.mem_map] at hy
  obtain ⟨u, _, rfl⟩ := hy
  exact UInt8.toNat_lt u
/-- How the walk spells the equality of two texts. -/
theorem toList_data (s : ByteArray) : s.toList = s.data.toList := by
  have key : ∀ (n i : Nat) (r : List UInt8), s.size - i = n → ByteArray.toList.loop s i r = r.reverse ++ s.data.toList.drop i := by
    intro n
    induction n with
    | zero =>
      intro i r h
      unfold ByteArray.toList.loop
      have hl : s.data.toList.length ≤ i := by rw [Array.length_toList]; show s.size ≤ i; omega
      rw [if_neg (by omega), List.drop_eq_nil_of_le hl, List.append_nil]
    | succ n ih =>
      intro i r h
      unfold ByteArray.toList.loop
      have hi : i < s.data.toList.length := by rw [Array.length_toList]; show i < s.size; omega
      rw [if_pos (by omega), ih (i + 1) _ (by omega), List.reverse_cons, List.append_assoc, List.drop_eq_getElem_cons hi]
      congr 1
      have hz : s.data[i]! = s.data[i]'(by simpa using hi) := getElem!_pos s.data i (by simpa using hi)
      simp [ByteArray.get!, hz]
  unfold ByteArray.toList
  rw [key s.size 0 [] rfl]; rfl
theorem beq_toList (a b : ByteArray) : (a.toList == b.toList) = decide (a = b) := by
  rw [toList_data, toList_data]
  by_cases h : a = b
  · subst h; simp
  · rw [decide_eq_false h]
    have : ¬ a.data.toList = b.data.toList := fun e => h (by cases a; cases b; simp at e; rw [e])
    simpa using this

end Go.Proofs.Ytfbghchgfbjogaa.Zp

namespace Go.Proofs.Ytfbghchgfbjogaa.Zp
open Go.RowKit
set_option linter.unusedVariables false
set_option linter.unusedSimpArgs false

/-- May a head be? -/
def headB (ys : List Int) (st nd : Int) : Bool := mayB ys && (decide (1 ≤ st ∧ st ≤ 1048576) && decide (0 ≤ nd ∧ nd < 4))
/-- A vector's bytes; a head's bytes. -/
def vecS (ys : List Int) : List Nat := ys.flatMap (fun y => le 4 y.toNat)
def putL (ys : List Int) (st nd : Int) (g : Bool) : List Nat := (le 2 20592 ++ le 2 22) ++ vecS ys ++ (le 4 st.toNat ++ le 1 nd.toNat ++ le 1 g.toNat)
/-- What Put answers. -/
def pErr (ys : List Int) (st nd : Int) : Int := bif headB ys st nd then 0 else 1200
def putT (ys : List Int) (st nd : Int) (g : Bool) : ByteArray := textOf (bif headB ys st nd then putL ys st nd g else [])
theorem headB_may {ys : List Int} {st nd : Int} (h : headB ys st nd = true) : mayB ys = true := by
  simp only [headB, Bool.and_eq_true] at h; exact h.1
theorem headB_st {ys : List Int} {st nd : Int} (h : headB ys st nd = true) : (1 ≤ st ∧ st ≤ 1048576) ∧ (0 ≤ nd ∧ nd < 4) := by
  simp only [headB, Bool.and_eq_true, decide_eq_true_eq] at h; exact h.2
theorem headB_of {ys : List Int} {st nd : Int} (h : mayB ys = true) (h1 : 1 ≤ st ∧ st ≤ 1048576) (h2 : 0 ≤ nd ∧ nd < 4) : headB ys st nd = true := by
  simp only [headB, Bool.and_eq_true, decide_eq_true_eq]; exact ⟨h, h1, h2⟩
theorem vecS_len (ys : List Int) : (vecS ys).length = 4 * ys.length := by
  induction ys with
  | nil => rfl
  | cons y r ih => simp only [vecS, List.flatMap_cons, List.length_append, le_len, List.length_cons] at ih ⊢; omega
theorem vecS_snoc (ys : List Int) (y : Int) : vecS (ys ++ [y]) = vecS ys ++ le 4 y.toNat := by simp [vecS]
theorem putL_lt (ys : List Int) (st nd : Int) (g : Bool) : ∀ y ∈ putL ys st nd g, y < 256 := by
  intro y hy
  simp only [putL, vecS, List.mem_append, List.mem_flatMap] at hy
  rcases hy with ((h | h) | ⟨_, _, h⟩) | ((h | h) | h) <;> exact le_lt _ _ y h
end Go.Proofs.Ytfbghchgfbjogaa.Zp

namespace Go.Proofs.Ytfbghchgfbjogaa.Nm
open Go.RowKit
set_option linter.unusedVariables false
set_option linter.unusedSimpArgs false

/-- A byte that may stand in a name. -/
def letB (n : Nat) : Bool := decide (97 ≤ n ∧ n ≤ 122) || decide (48 ≤ n ∧ n ≤ 57) || decide (n = 46) || decide (n = 45) || decide (n = 95)
/-- A text that may be a name. -/
def nameB (s : ByteArray) : Bool := decide (1 ≤ s.size ∧ s.size ≤ 8) && !decide (s = ⟨#[46]⟩) && !decide (s = ⟨#[46, 46]⟩) && (bytesOf s).all letB

theorem letter_ok (b : Nat) (w : World) (hb : b < 256) :
    Calls Try.prog 44 #[.int .u8 b] w fun e w' => e = .returned (.bool (letB b)) ∧ w' = w := by
  have hc : b < 45 ∨ b = 45 ∨ b = 46 ∨ b = 47 ∨ (48 ≤ b ∧ b ≤ 57) ∨ (58 ≤ b ∧ b < 95) ∨ b = 95 ∨ b = 96 ∨ (97 ≤ b ∧ b ≤ 122) ∨ 122 < b := by omega
  rcases hc with h | h | h | h | ⟨h, h'⟩ | ⟨h, h'⟩ | h | h | ⟨h, h'⟩ | h <;>
    (try subst h
     go_enter Try.func44, Try.ntmps44
     go_wp2
     go_ret
     refine ⟨congrArg (fun z => Ending.returned (Value.bool z)) ?_, rfl⟩
     first
       | decide
       | (unfold letB; simp; omega))

theorem mloop_eq (bs : ByteArray) : ∀ n i r, bs.size - i = n → i ≤ bs.size → ByteArray.toList.loop bs i r = r.reverse ++ bs.data.toList.drop i
  | 0, i, r, h, hi => by
    rw [ByteArray.toList.loop.eq_1, if_neg (by omega), List.drop_eq_nil_of_le (by rw [Array.length_toList]; show bs.size ≤ i; omega), List.append_nil]
  | n + 1, i, r, h, hi => by
    have hl : i < bs.data.toList.length := by rw [Array.length_toList]; show i < bs.size; omega
    have hg : bs.get! i = bs.data.toList[i] := by
      show bs.data[i]! = _
      rw [getElem!_pos bs.data i (by show i < bs.size; omega)]; rfl
    rw [ByteArray.toList.loop.eq_1, if_pos (by omega), mloop_eq bs n (i + 1) _ (by omega) (by omega), List.reverse_cons, List.append_assoc, List.drop_eq_getElem_cons hl, hg]; rfl
theorem mtoList_data (bs : ByteArray) : bs.toList = bs.data.toList := by
  rw [ByteArray.toList.eq_1, mloop_eq bs _ 0 [] rfl (Nat.zero_le _)]; rfl
theorem beq_list (a b : ByteArray) : (a.toList == b.toList) = decide (a = b) := by
  rw [mtoList_data, mtoList_data]
  by_cases h : a = b
  · subst h; simp
  · rw [decide_eq_false h]
    cases e : (a.data.toList == b.data.toList)
    · rfl
    · exact absurd (ByteArray.ext (Array.toList_inj.1 (eq_of_beq e))) h
theorem all_get (s : ByteArray) (p : Nat → Bool) : (bytesOf s).all p = true ↔ ∀ j (h : j < s.size), p s[j].toNat = true := by
  rw [List.all_eq_true]
  constructor
  · intro h j hj
    apply h
    rw [← bytesOf_get s j hj, List.getD, List.getElem?_eq_getElem (by rw [bytesOf_length]; exact hj)]
    exact List.getElem_mem _
  · intro h x hx
    obtain ⟨j, hj, rfl⟩ := List.getElem_of_mem hx
    rw [bytesOf_length] at hj
    have := bytesOf_get s j hj
    rw [List.getD, List.getElem?_eq_getElem (by rw [bytesOf_length]; exact hj), Option.getD_some] at this
    rw [this]; exact h j hj

theorem name_out (s : ByteArray) (h : s.size = 0 ∨ 8 < s.size ∨ s = ⟨#[46]⟩ ∨ s = ⟨#[46, 46]⟩) : nameB s = false := by
  unfold nameB
  rcases h with h | h | h | h
  · simp [h]
  · rw [decide_eq_false (by omega)]; rfl
  · subst h; decide
  · subst h; decide
theorem name_bad (s : ByteArray) (j : Nat) (hj : j < s.size) (h : letB s[j].toNat = false) : nameB s = false := by
  have : (bytesOf s).all letB = false := by
    cases e : (bytesOf s).all letB
    · rfl
    · rw [all_get] at e; rw [e j hj] at h; cases h
  unfold nameB; rw [this, Bool.and_false]
theorem name_good (s : ByteArray) (h1 : 1 ≤ s.size) (h8 : s.size ≤ 8) (hd : ¬ s = ⟨#[46]⟩) (hdd : ¬ s = ⟨#[46, 46]⟩) (h : ∀ j (h : j < s.size), letB s[j].toNat = true) : nameB s = true := by
  have : (bytesOf s).all letB = true := (all_get s letB).2 h
  unfold nameB
  rw [this, decide_eq_false hd, decide_eq_false hdd, decide_eq_true ⟨h1, h8⟩]; rfl

theorem beq_0 (s : ByteArray) : s.toList.isEmpty = decide (s = ⟨#[]⟩) := by
  rw [← beq_list, mtoList_data, mtoList_data]; cases s.data.toList <;> rfl
theorem beq_1 (s : ByteArray) : (s.toList == [46]) = decide (s = ⟨#[46]⟩) := by
  rw [← beq_list, mtoList_data, mtoList_data]
theorem beq_2 (s : ByteArray) : (s.toList == [46, 46]) = decide (s = ⟨#[46, 46]⟩) := by
  rw [← beq_list, mtoList_data, mtoList_data]

set_option maxHeartbeats 800000 in
theorem may_ok (s : ByteArray) (w : World) (hs : s.size ≤ 1125899906842624) :
    Calls Try.prog 33 #[.string s] w fun e w' => e = .returned (.bool (nameB s)) ∧ w' = w := by
  have E0 := beq_0 s
  have E1 := beq_1 s
  have E2 := beq_2 s
  by_cases h0 : s = ⟨#[]⟩
  · subst h0
    go_enter Try.func33, Try.ntmps33
    go_wp2
    go_ret
    exact ⟨by first | rfl | (rw [name_out _ (.inl rfl)]; rfl), rfl⟩
  have hz : 1 ≤ s.size := by
    rcases Nat.eq_zero_or_pos s.size with e | e
    · exfalso; apply h0; exact ByteArray.ext (Array.eq_empty_of_size_eq_zero e)
    · exact e
  rw [decide_eq_false h0] at E0
  by_cases h8 : 8 < s.size
  · have HN := name_out s (.inr (.inl h8))
    clear E1 E2
    go_enter Try.func33, Try.ntmps33
    go_wp2
    go_ret
    exact ⟨by first | rfl | (rw [HN]; rfl), rfl⟩
  have D8 : decide (8 < (s.size : Int)) = false := decide_eq_false (by omega)
  by_cases h1 : s = ⟨#[46]⟩
  · have HN := name_out s (.inr (.inr (.inl h1)))
    rw [decide_eq_true h1] at E1
    clear E2 h1
    go_enter Try.func33, Try.ntmps33
    go_wp2
    go_ret
    exact ⟨by first | rfl | (rw [HN]; rfl), rfl⟩
  by_cases h2 : s = ⟨#[46, 46]⟩
  · have HN := name_out s (.inr (.inr (.inr h2)))
    rw [decide_eq_true h2] at E2
    rw [decide_eq_false h1] at E1
    clear h1 h2
    go_enter Try.func33, Try.ntmps33
    go_wp2
    go_ret
    exact ⟨by first | rfl | (rw [HN]; rfl), rfl⟩
  have HG : Hid ((∀ j (h : j < s.size), letB s[j].toNat = true) → nameB s = true) := name_good s hz (by omega) h1 h2
  rw [decide_eq_false h1] at E1
  rw [decide_eq_false h2] at E2
  have H8 : Hid (s.size ≤ 8) := (by omega : s.size ≤ 8)
  clear h1 h2 h0
  go_enter Try.func33, Try.ntmps33
  go_wp2
  go_loopw [3, 21] (fun _ i w' => w' = w ∧ ∃ j : Nat, j ≤ s.size ∧ i = .int .i64 j ∧ ∀ q (h : q < s.size), q < j → letB s[q].toNat = true) (fun _ i _ => s.size - (intOf i).toNat)
  case atStart => exact ⟨rfl, 0, Nat.zero_le _, rfl, fun q _ h => absurd h (Nat.not_lt_zero _)⟩
  case round =>
    obtain ⟨rfl, j, hj, rfl, hq⟩ := hrel
    have HQ : Hid (∀ q (h : q < s.size), q < j → letB s[q].toNat = true) := hq
    clear hq E0 E1 E2 D8
    by_cases hlt : j < s.size
    · cases hb : letB s[j].toNat
      · have HN := name_bad s j hlt hb
        go_wp2_with fail
        refine (letter_ok _ _ (UInt8.toNat_lt _)).mono ?_
        rintro e w' ⟨rfl, hw⟩
        obtain rfl := hw.symm; clear hw
        rw [hb]
        go_wp2
        go_ret
        exact ⟨by first | rfl | (rw [HN]; rfl), rfl⟩
      · go_wp2_with fail
        refine (letter_ok _ _ (UInt8.toNat_lt _)).mono ?_
        rintro e w' ⟨rfl, hw⟩
        obtain rfl := hw.symm; clear hw
        rw [hb]
        have hs' := H8.out
        go_wp2
        go_roundw
        case rel =>
          refine ⟨trivial, j + 1, by omega, by go_num, ?_⟩
          intro q hq hlt'
          by_cases e : q = j
          · subst e; exact hb
          · exact HQ.out q hq (by omega)
        case measure => simp [intOf]; omega
    · go_wp2
      go_ret
      exact ⟨by rw [HG.out (fun q hq => HQ.out q hq (by omega))]; rfl, rfl⟩


end Go.Proofs.Ytfbghchgfbjogaa.Nm

namespace Go.Proofs.Ytfbghchgfbjogaa.Zp
open Go.RowKit
set_option linter.unusedVariables false
set_option linter.unusedSimpArgs false

/-- An entry and its vector's counts. -/
abbrev It := Ent × List Int
/-- Is a text not behind another one? -/
def leT (a b : ByteArray) : Bool := Op.bytesLess a.toList b.toList || (a.toList == b.toList)
def bareB (e : Ent) : Bool := decide (e.mt = 0) && (decide (e.pk = ⟨#[]⟩) && (decide (e.sz = 0) && decide (e.cr = 0)))
def packB (e : Ent) : Bool := decide (e.mt = 0 ∧ (e.pk.size : Int) = e.sz) || decide (e.mt = 8 ∧ e.pk.size ≤ 300)
def textB (e : Ent) : Bool := decide (0 ≤ e.cr ∧ e.cr ≤ 4294967295) && (decide (0 ≤ e.sz ∧ e.sz ≤ 300) && packB e)
/-- May an entry be written? -/
def heldB (x : It) : Bool := headB x.2 x.1.st x.1.nd && (Nm.nameB x.1.nm && (bif x.1.gn then bareB x.1 else textB x.1))
def risesB : ByteArray → List It → Bool
  | _, [] => true
  | p, x :: r => (!leT x.1.nm p && heldB x) && risesB x.1.nm r
/-- May a folder be written? -/
def writeB (es : List It) : Bool := decide (es.length ≤ 6) && risesB ⟨#[]⟩ es

theorem heldB_head {x : It} (h : heldB x = true) : headB x.2 x.1.st x.1.nd = true := by
  simp only [heldB, Bool.and_eq_true] at h; exact h.1
theorem heldB_name {x : It} (h : heldB x = true) : Nm.nameB x.1.nm = true := by
  simp only [heldB, Bool.and_eq_true] at h; exact h.2.1
theorem nameB_size {s : ByteArray} (h : Nm.nameB s = true) : 1 ≤ s.size ∧ s.size ≤ 8 := by
  simp only [Nm.nameB, Bool.and_eq_true, decide_eq_true_eq] at h; exact h.1.1.1
/-- The numbers of an entry that may be written. -/
theorem heldB_nums {x : It} (h : heldB x = true) : (x.1.mt = 0 ∨ x.1.mt = 8) ∧ (0 ≤ x.1.sz ∧ x.1.sz ≤ 300) ∧ (0 ≤ x.1.cr ∧ x.1.cr ≤ 4294967295) ∧ x.1.pk.size ≤ 300 ∧ (1 ≤ x.1.nm.size ∧ x.1.nm.size ≤ 8) := by
  have hn := nameB_size (heldB_name h)
  simp only [heldB, Bool.and_eq_true] at h
  obtain ⟨_, _, h⟩ := h
  cases hg : x.1.gn
  · rw [hg, cond_false] at h
    simp only [textB, packB, Bool.and_eq_true, Bool.or_eq_true, decide_eq_true_eq] at h
    obtain ⟨h1, h2, h3⟩ := h
    rcases h3 with ⟨h3, h4⟩ | ⟨h3, h4⟩
    · exact ⟨.inl h3, h2, h1, by omega, hn⟩
    · exact ⟨.inr h3, h2, h1, h4, hn⟩
  · rw [hg, cond_true] at h
    simp only [bareB, Bool.and_eq_true, decide_eq_true_eq] at h
    obtain ⟨h1, h2, h3, h4⟩ := h
    exact ⟨.inl h1, by omega, by omega, by rw [h2]; exact Nat.zero_le _, hn⟩
/-- No text is below the empty one. -/
theorem leT_nil (a : ByteArray) : leT a ⟨#[]⟩ = decide (a.size = 0) := by
  unfold leT
  rw [toList_data, toList_data]
  obtain ⟨⟨l⟩⟩ := a
  cases l with
  | nil => simp [Op.bytesLess]; rfl
  | cons x r =>
    have : ¬ (ByteArray.mk ⟨x :: r⟩).size = 0 := by show ¬ (x :: r).length = 0; simp
    rw [decide_eq_false this]
    simp [Op.bytesLess]

end Go.Proofs.Ytfbghchgfbjogaa.Zp

namespace Go.Proofs.Ytfbghchgfbjogaa.Zp
open Go.RowKit
set_option linter.unusedVariables false
set_option linter.unusedSimpArgs false

/-- Bytes that a call owns. -/
def OwnB (w : World) (base : Nat) (v : Value) (xs : List Nat) : Prop := w.ownsRow base 5 1 v xs.length (xs.map byteV)
theorem OwnB.nil (w : World) (base : Nat) : OwnB w base (.slice none 0 0) [] := World.ownsRow_nil w base 5 1
theorem OwnB.kept {S : Nat → Prop} {w w' : World} {base : Nat} {v : Value} {xs : List Nat} (h : OwnB w base v xs) (hk : Keeps S w w') (hb : ∀ k, v.ownBlock = some k → ¬ S k) : OwnB w' base v xs :=
  owns_heap h (fun k e => hk.block k (World.ownsRow.lt h k e).2 (hb k e))
theorem OwnB.keptF {w w' : World} {base : Nat} {v : Value} {xs : List Nat} (h : OwnB w base v xs) (hk : Keeps (fun _ => False) w w') : OwnB w' base v xs := h.kept hk (fun _ _ h => h)
/-- A block's type, and its cells behind the first. -/
structure Lay where
  t : TypeId
  tl : List Value
instance (n : Nat) : OfNat Lay n := ⟨⟨n, []⟩⟩
/-- A text of bytes lies in block p, of type T. -/
def Txt (T : Lay) (w : World) (p : Nat) (v : Value) (xs : List Nat) : Prop := w.heap[p]? = some (.cells (v :: T.tl).toArray T.t (0, 0)) ∧ OwnB w (p + 1) v xs
theorem Txt.lt {T : Lay} {w : World} {p : Nat} {v : Value} {xs : List Nat} (h : Txt T w p v xs) : p < w.heap.size := lt_of_heap h.1
theorem Txt.kept {T : Lay} {S : Nat → Prop} {w w' : World} {p : Nat} {v : Value} {xs : List Nat} (h : Txt T w p v xs) (hk : Keeps S w w') (hp : ¬ S p) (hb : ∀ k, v.ownBlock = some k → ¬ S k) : Txt T w' p v xs :=
  ⟨(hk.block p h.lt hp).trans h.1, h.2.kept hk hb⟩
theorem Txt.keptF {T : Lay} {w w' : World} {p : Nat} {v : Value} {xs : List Nat} (h : Txt T w p v xs) (hk : Keeps (fun _ => False) w w') : Txt T w' p v xs := h.kept hk (fun h => h) (fun _ _ h => h)
theorem Txt.slice {T : Lay} {w : World} {p : Nat} {v : Value} {xs : List Nat} (h : Txt T w p v xs) : ∃ a cap0, v = .slice a xs.length cap0 := by
  rcases h.2.2 with ⟨rfl, h0⟩ | ⟨g, cap, cur, rfl, _⟩
  · exact ⟨none, 0, by rw [h0]⟩
  · exact ⟨_, cap, rfl⟩
theorem Txt.new (T : Lay) (w : World) : Txt T (w.alloc (.cells (.slice none 0 0 :: T.tl).toArray T.t)) w.heap.size (.slice none 0 0) [] := ⟨heap_alloc_new _ _, OwnB.nil _ _⟩
/-- What a call on a text leaves. -/
def OntoT (T : Lay) (w w' : World) (p : Nat) (v : Value) (xs : List Nat) : Prop :=
  ∃ v', Txt T w' p v' xs ∧ (v'.ownBlock = v.ownBlock ∨ ∃ g, v'.ownBlock = some g ∧ w.heap.size ≤ g) ∧ Keeps (fun k => k = p ∨ v.ownBlock = some k) w w'
theorem OntoT.refl {T : Lay} {w : World} {p : Nat} {v : Value} {xs : List Nat} (h : Txt T w p v xs) : OntoT T w w p v xs := ⟨v, h, .inl rfl, Keeps.refl _ _⟩
theorem OntoT.tr {T : Lay} {w w1 w2 : World} {p : Nat} {v v1 : Value} {ys : List Nat} (hb : v1.ownBlock = v.ownBlock ∨ ∃ g, v1.ownBlock = some g ∧ w.heap.size ≤ g) (hk : Keeps (fun k => k = p ∨ v.ownBlock = some k) w w1) (h : OntoT T w1 w2 p v1 ys) : OntoT T w w2 p v ys := by
  obtain ⟨v2, h1, h2, h3⟩ := h
  refine ⟨v2, h1, ?_, hk.trans h3 (fun i hi h => ?_)⟩
  · rcases h2 with h2 | ⟨g, e, hg⟩
    · rw [h2]; exact hb
    · exact .inr ⟨g, e, Nat.le_trans hk.size hg⟩
  · rcases h with h | h
    · exact .inl h
    · rcases hb with hb | ⟨g, e, hg⟩
      · exact .inr (hb ▸ h)
      · rw [e] at h; cases h; omega
/-- The same where nothing old is turned but the text's own. -/
theorem OntoT.far {T : Lay} {w w' : World} {p : Nat} {v : Value} {xs : List Nat} (h : OntoT T w w' p v xs) (hT : OwnB w (p + 1) v xs ∨ True) : Keeps (fun k => k = p ∨ v.ownBlock = some k) w w' := by
  obtain ⟨_, _, _, h⟩ := h; exact h
theorem info5 : (Try.prog.info? 5).map (fun i => (i.zero, i.size, i.bytes)) = some (some (.int .u8 0), 1, 1) := by kernel_rfl
theorem onto_byte {T : Lay} {p c : Nat} {xs : List Nat} {a : Option Addr} {cap0 : Nat} {w w1 w2 : World} {g cap : Nat} (hlt : p < w.heap.size) (hT : Txt T w p (.slice a xs.length cap0) xs) (ho : w1.ownsRow (p + 1) 5 1 (.slice (some ⟨g, 0, none⟩) (xs.length + 1) cap) (xs.length + 1) (xs.map byteV ++ [.int .u8 (c : Int)]))
    (hk : Keeps (fun k => (Value.slice a xs.length cap0).ownBlock = some k) w w1) (hg : (Value.slice a xs.length cap0).ownBlock = some g ∨ w.heap.size ≤ g) (h2 : w2 = w1.setCell ⟨p, 0, none⟩ (.slice (some ⟨g, 0, none⟩) (xs.length + 1) cap)) :
    OntoT T w w2 p (.slice a xs.length cap0) (xs ++ [c]) := by
  have hlow : ∀ k, (Value.slice a xs.length cap0).ownBlock = some k → p + 1 ≤ k := fun k e => (World.ownsRow.lt hT.2 k e).1
  have hp1 : w1.heap[p]? = some (.cells (.slice a xs.length cap0 :: T.tl).toArray T.t (0, 0)) := (hk.block p hlt (fun e => by have := hlow p e; omega)).trans hT.1
  have hgp : p + 1 ≤ g := by
    rcases hg with h | h
    · exact hlow g h
    · omega
  subst h2
  refine ⟨.slice (some ⟨g, 0, none⟩) (xs.length + 1) cap, ⟨?_, ?_⟩, ?_, ?_⟩
  · show (w1.setCell ⟨p, 0, none⟩ _).heap[p]? = _
    rw [heap_setCell_same hp1]; simp
  · have := owns_far ho (p := ⟨p, 0, none⟩) (by simp [Value.ownBlock]; omega) (.slice (some ⟨g, 0, none⟩) (xs.length + 1) cap)
    unfold OwnB
    rw [List.map_append, List.length_append]
    exact this
  · rcases hg with h | h
    · exact .inl h.symm
    · exact .inr ⟨g, rfl, h⟩
  · exact (hk.mono (fun _ _ h => .inr h)).setCell (fun _ => .inl rfl) _
theorem byte_of (m : Nat) : IntKind.u8.wrap (m : Int) = ((m % 256 : Nat) : Int) := by
  simp [IntKind.wrap, IntKind.bits, IntKind.signed]
theorem div_next (n i : Nat) : n / 256 ^ i / 256 = n / 256 ^ (i + 1) := by rw [Nat.div_div_eq_div_mul, Nat.pow_succ]

set_option maxHeartbeats 4000000 in
set_option maxRecDepth 1000000 in
theorem numb_ok (T : Lay) (p n k : Nat) (v : Value) (xs : List Nat) (w : World) (hn : n < 1099511627776) (hx : xs.length + k ≤ 100000) (hT : Txt T w p v xs) :
    Calls Try.prog 48 #[.pointer (some ⟨p, 0, none⟩), .int .i64 (n : Int), .int .i64 (k : Int)] w fun e w' => e = .returned (.tuple #[]) ∧ OntoT T w w' p v (xs ++ le k n) := by
  obtain ⟨i0, hi, hz0, hz1, hz2⟩ := info_parts info5
  have HW : Hid (OntoT T w w p v (xs ++ le 0 n)) := by
    have : xs ++ le 0 n = xs := by simp [le_zero]
    show OntoT T w w p v (xs ++ le 0 n)
    rw [this]; exact OntoT.refl hT
  have hlt := hT.lt
  clear hT
  go_enter Try.func48, Try.ntmps48
  go_wp2
  go_loopw [1, 7] (fun s1 s7 w' => ∃ i : Nat, i ≤ k ∧ s7 = .int .i64 (i : Int) ∧ s1 = .int .i64 ((n / 256 ^ i : Nat) : Int) ∧ Hid (OntoT T w w' p v (xs ++ le i n))) (fun _ s7 _ => ((k : Int) - intOf s7).toNat)
  case atStart => exact ⟨0, by omega, rfl, by simp, HW⟩
  case round =>
    clear HW
    obtain ⟨i, hik, rfl, rfl, HW⟩ := hrel
    by_cases hin : i < k
    · have hiz : (i : Int) < (k : Int) := by omega
      have HL : Hid (xs ++ le (i + 1) n = (xs ++ le i n) ++ [n / 256 ^ i % 256]) := by
        show _ = _
        rw [le_succ, List.append_assoc]
      have HD : Hid (n / 256 ^ i / 256 = n / 256 ^ (i + 1)) := div_next n i
      have hlen : (xs ++ le i n).length ≤ 100000 := by rw [List.length_append, le_len]; omega
      have hm : n / 256 ^ i < 1099511627776 := Nat.lt_of_le_of_lt (Nat.div_le_self _ _) hn
      generalize n / 256 ^ i = m at *
      generalize xs ++ le i n = ys at *
      obtain ⟨v1, hT1, hb1, hk1⟩ := HW.out
      obtain ⟨a, cap0, rfl⟩ := hT1.slice
      have HT : Hid (Txt T wr p (.slice a ys.length cap0) ys) := hT1
      have HB : Hid (((Value.slice a ys.length cap0).ownBlock = v.ownBlock ∨ ∃ g, (Value.slice a ys.length cap0).ownBlock = some g ∧ w.heap.size ≤ g) ∧ Keeps (fun k => k = p ∨ v.ownBlock = some k) w wr) := ⟨hb1, hk1⟩
      have hlow : ∀ k, (Value.slice a ys.length cap0).ownBlock = some k → p + 1 ≤ k := fun k hk => (hT1.2.lt k hk).1
      have hne : some p ≠ (Value.slice a ys.length cap0).ownBlock := fun h => by have := hlow p h.symm; omega
      have hpl := hT1.lt
      have k0 : wr.cell? ⟨p, 0, none⟩ = some (.slice a ys.length cap0) := cell_of_heap hT1.1 rfl
      have f0 : wr.frozen? ⟨p, 0, none⟩ = false := frozen_of_heap hT1.1
      have HO : Hid (wr.ownsRow (p + 1) 5 1 (.slice a ys.length cap0) ys.length (ys.map byteV)) := hT1.2
      clear hT1 hb1 hk1 hlow HW
      have hb8 := byte_of m
      have hm0 : (0 : Int) ≤ (m : Int) := by omega
      go_wp2_with (at_builtin; refine wpList_append_lies _ rfl (.tmp 13) (.tmp 16) 38 rfl (p + 1) 5 i0 (.int .u8 0) 1 1 Try.underlying38 hi hz0 hz1 hz2 rfl (by decide) (.slice a ys.length cap0) ys.length (ys.map byteV) rfl (HO.out.alloc _) ⟨wr.heap.size, 0, none⟩ 1 1 [.int .u8 _] rfl rfl (cell_one_new _ _ _) ?c2 (by decide) ?b1 ?b2 ?b3 (wr.heap.size + 1) (by simp) ?grow)
      case c2 => intro u hu; simp at hu; subst hu; rfl
      case b1 => unfold maxLen; omega
      case b2 => omega
      case b3 => simp; omega
      case grow =>
        intro g cap w1 hown1 hgrow hat hlt1
        have k1 : w1.cell? ⟨p, 0, none⟩ = some (.slice a ys.length cap0) := (hgrow.cell_far ⟨p, 0, none⟩ (by simp; omega) hne).trans (by rw [World.cell?_alloc_past _ _ _ hpl]; exact k0)
        have e1 : w1.frozen? ⟨p, 0, none⟩ = false := (hgrow.frozen_far ⟨p, 0, none⟩ (by simp; omega) hne).trans (by rw [World.frozen?_alloc_past _ _ _ hpl]; exact f0)
        have HO1 : Hid (w1.ownsRow (p + 1) 5 1 (.slice (some ⟨g, 0, none⟩) (ys.length + 1) cap) (ys.length + 1) _) := hown1
        have HK1 : Hid (Keeps (fun k => (Value.slice a ys.length cap0).ownBlock = some k) wr w1) := ((Keeps.refl _ wr).alloc _).grown hgrow (fun k _ e => e)
        have HA : Hid ((Value.slice a ys.length cap0).ownBlock = some g ∨ wr.heap.size ≤ g) := by
          rcases hat with h | h
          · exact .inl h
          · exact .inr (by omega)
        clear hown1 hgrow hat k0 f0 HO
        go_wp2
        go_roundw
        case rel =>
          refine ⟨i + 1, by omega, by push_cast; rfl, ?_, ?_⟩
          · rw [← HD.out]; first | rfl | (congr 1; omega)
          · rw [HL.out]
            refine OntoT.tr HB.out.1 HB.out.2 (onto_byte hpl HT.out ?_ HK1.out HA.out rfl)
            have := HO1.out
            first | exact this | (rw [← hb8]; exact this) | (rw [hb8] at this; exact this) | (simpa using this)
        case measure => simp [intOf]; omega
    · obtain rfl : i = k := by omega
      go_wp2
      go_end0
      exact ⟨rfl, HW.out⟩

end Go.Proofs.Ytfbghchgfbjogaa.Zp

namespace Go.Proofs.Ytfbghchgfbjogaa.Zp
open Go.RowKit
set_option linter.unusedVariables false
set_option linter.unusedSimpArgs false

theorem OwnB.text {w : World} {base : Nat} {v : Value} {xs : List Nat} (h : OwnB w base v xs) (hy : ∀ y ∈ xs, y < 256) :
    (convert 38 9 v).run Try.prog w = .ok (.string (textOf xs)) w := by
  rcases h.2 with ⟨rfl, h0⟩ | ⟨g, cap, cur, rfl, _⟩
  · obtain rfl := List.length_eq_zero_iff.1 h0
    exact run_convert_bytes_nil w 38 5 Try.underlying38 Try.underlying5 0 0 9 Try.underlying9
  · have e : xs.length = (xs.map UInt8.ofNat).length := by rw [List.length_map]
    rw [e]
    refine run_convert_bytes_back w 38 9 5 ⟨g, 0, none⟩ cap (xs.map UInt8.ofNat) Try.underlying38 Try.underlying5 Try.underlying9 ?_
    intro j hj
    rw [List.length_map] at hj
    have hc := (owns_cell h j (byteV xs[j]) (by rw [List.getElem?_map, List.getElem?_eq_getElem hj]; rfl)).1
    rw [addr_add, hc]
    have : xs[j] < 256 := hy _ (List.getElem_mem hj)
    simp only [List.getElem_map, UInt8.toNat_ofNat', byteV]
    rw [Nat.mod_eq_of_lt (by omega)]

set_option maxHeartbeats 4000000 in
set_option maxRecDepth 1000000 in
theorem told_ok (T : Lay) (p : Nat) (v : Value) (xs : List Nat) (w : World) (hy : ∀ y ∈ xs, y < 256) (hT : Txt T w p v xs) :
    Calls Try.prog 43 #[.pointer (some ⟨p, 0, none⟩)] w fun e w' => e = .returned (.string (textOf xs)) ∧ w' = w := by
  have k0 : w.cell? ⟨p, 0, none⟩ = some v := cell_of_heap hT.1 rfl
  have hc := hT.2.text hy
  clear hT
  go_enter Try.func43, Try.ntmps43
  go_wp2
  go_ret
  exact ⟨rfl, rfl⟩

end Go.Proofs.Ytfbghchgfbjogaa.Zp

namespace Go.Proofs.Ytfbghchgfbjogaa.Zp
open Go.RowKit
set_option linter.unusedVariables false
set_option linter.unusedSimpArgs false

/-- Block g begins with the bytes ys, and none of them is barred. -/
def Byb (w : World) (g : Nat) (ys : List Nat) : Prop :=
  ∃ cs fr, w.heap[g]? = some (.cells cs 5 fr) ∧ (∀ i (h : i < ys.length), cs[i]? = some (byteV ys[i])) ∧ (ys.length ≤ fr.1 ∨ fr.2 = 0)

theorem Byb.cell {w : World} {g : Nat} {ys : List Nat} (h : Byb w g ys) (i : Nat) (hi : i < ys.length) : w.cell? ⟨g, i, none⟩ = some (.int .u8 (ys[i] : Nat)) := by
  obtain ⟨cs, fr, h1, h2, h3⟩ := h
  exact cell_of_heap h1 (h2 i hi)
theorem Byb.free {w : World} {g : Nat} {ys : List Nat} (h : Byb w g ys) (i : Nat) (hi : i < ys.length) : w.frozen? ⟨g, i, none⟩ = false := by
  obtain ⟨cs, fr, h1, h2, h3⟩ := h
  simp only [World.frozen?, h1]
  rcases h3 with h3 | h3
  · simp; omega
  · simp; omega
theorem Byb.set {w : World} {g : Nat} {ys : List Nat} (h : Byb w g ys) (i y : Nat) : Byb (w.setCell ⟨g, i, none⟩ (.int .u8 (y : Nat))) g (ys.set i y) := by
  obtain ⟨cs, fr, h1, h2, h3⟩ := h
  refine ⟨_, fr, heap_setCell_same h1 _, ?_, by simpa using h3⟩
  intro t ht
  rw [List.length_set] at ht
  rw [List.getElem_set, Array.getElem?_setIfInBounds]
  have hc := h2 t ht
  by_cases e : i = t
  · subst e
    have : i < cs.size := (Array.getElem?_eq_some_iff.1 hc).1
    simp [this, byteV]
  · rw [if_neg e, if_neg e]; exact hc
theorem Byb.kept {S : Nat → Prop} {w w' : World} {g : Nat} {ys : List Nat} (h : Byb w g ys) (hk : Keeps S w w') (hg : ¬ S g) : Byb w' g ys := by
  obtain ⟨cs, fr, h1, r⟩ := h
  exact ⟨cs, fr, (hk.block g (lt_of_heap h1) hg).trans h1, r⟩
theorem Byb.text {w : World} {g : Nat} {ys : List Nat} (h : Byb w g ys) (hy : ∀ y ∈ ys, y < 256) (cap : Nat) :
    (convert 38 9 (.slice (some ⟨g, 0, none⟩) ys.length cap)).run Try.prog w = .ok (.string (textOf ys)) w := by
  have e : ys.length = (ys.map UInt8.ofNat).length := by rw [List.length_map]
  rw [e]
  refine run_convert_bytes_back w 38 9 5 ⟨g, 0, none⟩ cap (ys.map UInt8.ofNat) Try.underlying38 Try.underlying5 Try.underlying9 ?_
  intro j hj
  rw [List.length_map] at hj
  rw [addr_add, h.cell j hj]
  have : ys[j] < 256 := hy _ (List.getElem_mem hj)
  simp only [List.getElem_map, UInt8.toNat_ofNat']
  rw [Nat.mod_eq_of_lt (by omega)]
end Go.Proofs.Ytfbghchgfbjogaa.Zp

namespace Go.Proofs.Ytfbghchgfbjogaa.Zp
open Go.RowKit
set_option linter.unusedVariables false
set_option linter.unusedSimpArgs false

/-- A taker of type T lies in block b, and has the bytes L left. -/
def Tkr (T : TypeId) (w : World) (b : Nat) (L : List Nat) : Prop := ∃ r : ByteArray, w.heap[b]? = some (.cells #[.string r] T (0, 0)) ∧ bytesOf r = L ∧ r.size ≤ 140737488355328
theorem Tkr.lt {T : TypeId} {w : World} {b : Nat} {L : List Nat} (h : Tkr T w b L) : b < w.heap.size := by
  obtain ⟨r, h, _⟩ := h; exact lt_of_heap h
theorem Tkr.kept {T : TypeId} {S : Nat → Prop} {w w' : World} {b : Nat} {L : List Nat} (h : Tkr T w b L) (hk : Keeps S w w') (hb : ¬ S b) : Tkr T w' b L := by
  have := h.lt
  obtain ⟨r, h1, h2⟩ := h
  exact ⟨r, (hk.block b this hb).trans h1, h2⟩
theorem Tkr.keptF {T : TypeId} {w w' : World} {b : Nat} {L : List Nat} (h : Tkr T w b L) (hk : Keeps (fun _ => False) w w') : Tkr T w' b L := h.kept hk (fun h => h)

end Go.Proofs.Ytfbghchgfbjogaa.Zp

namespace Go.Proofs.Ytfbghchgfbjogaa.Zp
open Go.RowKit
set_option linter.unusedVariables false
set_option linter.unusedSimpArgs false

theorem headB_no {ys : List Int} {st nd : Int} (h : mayB ys = false ∨ st < 1 ∨ 1048576 < st ∨ nd < 0 ∨ 4 ≤ nd) : headB ys st nd = false := by
  cases e : headB ys st nd
  · rfl
  · have h1 := headB_may e
    have h2 := headB_st e
    rcases h with h | h | h | h | h
    · rw [h1] at h; cases h
    all_goals omega

set_option maxHeartbeats 4000000 in
set_option maxRecDepth 1000000 in
theorem xmay_ok (e : Ent) (ys : List Int) (w : World) (hv : e.vn = ys.length) (hR : Row w e.va ys) (hn : ys.length ≤ 1125899906842624) :
    Calls Try.prog 41 #[.agg #[.string e.nm, .bool e.gn, .slice e.va e.vn e.vc, .int .i64 e.st, .int .i64 e.nd, .int .i64 e.mt, .string e.pk, .int .i64 e.sz, .int .i64 e.cr]] w fun r w' => r = .returned (.bool (headB ys e.st e.nd)) ∧ Keeps (fun _ => False) w w' := by
  have HM : Hid (∀ w', Keeps (fun _ => False) w w' → Calls Try.prog 26 #[.slice e.va e.vn e.vc] w' fun r w'' => r = .returned (.bool (mayB ys)) ∧ w'' = w') := fun w' hk => by rw [hv]; exact may_ok _ ys _ w' (hR.keptF hk) hn
  have HN := @headB_no ys e.st e.nd
  have HY := @headB_of ys e.st e.nd
  clear hv hR hn
  cases hm : mayB ys
  · rw [HN (.inl hm)]
    rw [hm] at HM
    clear HN HY hm
    go_enter Try.func41, Try.ntmps41
    go_wp2_with (first
      | (refine wpList_box9 rfl _ rfl e rfl ?_; intro b w1 hE hK hb; have HK : Hid (Keeps (fun _ => False) w w1) := hK; have c2 := hE.c2; clear hK hb hE)
      | (go_at_call 26; refine (HM.out w1 HK.out).mono ?_; rintro r w' ⟨rfl, hw⟩; obtain rfl := hw.symm; clear hw))
    go_ret
    exact ⟨rfl, HK.out⟩
  · rw [hm] at HM
    have hall : (¬ 1 ≤ e.st) ∨ (1 ≤ e.st ∧ ¬ e.st ≤ 1048576) ∨ (1 ≤ e.st ∧ e.st ≤ 1048576 ∧ ¬ 0 ≤ e.nd) ∨ (1 ≤ e.st ∧ e.st ≤ 1048576 ∧ 0 ≤ e.nd ∧ ¬ e.nd < 4) ∨ (1 ≤ e.st ∧ e.st ≤ 1048576 ∧ 0 ≤ e.nd ∧ e.nd < 4) := by omega
    rcases hall with h | ⟨h1, h⟩ | ⟨h1, h2, h⟩ | ⟨h1, h2, h3, h⟩ | ⟨h1, h2, h3, h4⟩
    all_goals
      first
        | rw [HN (by omega)]
        | rw [HY hm ⟨h1, h2⟩ ⟨h3, h4⟩]
      clear HN HY hm
      go_enter Try.func41, Try.ntmps41
      go_wp2_with (first
        | (refine wpList_box9 rfl _ rfl e rfl ?_; intro b w1 hE hK hb; have HK : Hid (Keeps (fun _ => False) w w1) := hK; have c2 := hE.c2; have c3 := hE.c3; have c4 := hE.c4; clear hK hb hE)
        | (go_at_call 26; refine (HM.out w1 HK.out).mono ?_; rintro r w' ⟨rfl, hw⟩; obtain rfl := hw.symm; clear hw))
      go_ret
      exact ⟨by first | rfl | (show Ending.returned (.bool (decide (e.nd < 4))) = _; rw [decide_eq_false (by omega)]), HK.out⟩

set_option maxHeartbeats 400000 in
theorem flag_ok (g : Bool) (w : World) : Calls Try.prog 49 #[.bool g] w fun r w' => r = .returned (.int .i64 (g.toNat : Int)) ∧ w' = w := by
  cases g <;>
    (go_enter Try.func49, Try.ntmps49
     go_wp2
     go_ret
     exact ⟨rfl, rfl⟩)

/-- A count of a row that may be, as a natural number. -/
theorem may_nat {ys : List Int} (h : mayB ys = true) (i : Nat) : at_ ys i = ((at_ ys i).toNat : Int) ∧ (at_ ys i).toNat < 1099511627776 := by
  have := mayB_cnt h i; omega
theorem vecS_take {ys : List Int} (i : Nat) (hi : i < ys.length) : vecS (ys.take (i + 1)) = vecS (ys.take i) ++ le 4 (at_ ys i).toNat := by
  rw [List.take_succ_eq_append_getElem hi, vecS_snoc, at_eq i hi]
theorem numb_on {T : Lay} {p : Nat} {v : Value} {L : List Nat} {w1 w' : World} (n k : Nat) (h : OntoT T w1 w' p v L) (hn : n < 1099511627776) (hL : L.length + k ≤ 100000) :
    Calls Try.prog 48 #[.pointer (some ⟨p, 0, none⟩), .int .i64 (n : Int), .int .i64 (k : Int)] w' fun r w'' => r = .returned (.tuple #[]) ∧ OntoT T w1 w'' p v (L ++ le k n) := by
  obtain ⟨v', hT, hb, hk⟩ := h
  refine (numb_ok T p n k v' L w' hn hL hT).mono ?_
  rintro r w'' ⟨rfl, h⟩
  exact ⟨rfl, OntoT.tr hb hk h⟩
theorem OntoT.cells {T : Lay} {p : Nat} {v : Value} {L : List Nat} {w1 w' : World} (h : OntoT T w1 w' p v L) {x : Addr} (hx : x.block < w1.heap.size) (hp : x.block ≠ p) (hv : v.ownBlock ≠ some x.block) : w'.cell? x = w1.cell? x := by
  obtain ⟨_, _, _, hk⟩ := h
  exact World.cell?_of_block (hk.block x.block hx (fun h => by rcases h with h | h; exact hp h; exact hv h))

theorem OntoT.drew {T : Lay} {p : Nat} {v : Value} {L : List Nat} {w1 w' : World} (h : OntoT T w1 w' p v L) : OntoT T w1 w'.drew p v L := by
  obtain ⟨v', h1, h2, h3⟩ := h
  exact ⟨v', h1, h2, h3.drew⟩
set_option maxHeartbeats 4000000 in
set_option maxRecDepth 1000000 in
/-- What the maker's head puts. -/
theorem mhead_ok (p : Nat) (v : Value) (e : Ent) (ys : List Int) (w : World) (hv : e.vn = ys.length) (hR : Row w e.va ys) (hH : headB ys e.st e.nd = true) (hRp : ∀ x, e.va = some x → x.block ≠ p ∧ v.ownBlock ≠ some x.block) (hT : Txt 80 w p v []) :
    Calls Try.prog 42 #[.pointer (some ⟨p, 0, none⟩), .agg #[.string e.nm, .bool e.gn, .slice e.va e.vn e.vc, .int .i64 e.st, .int .i64 e.nd, .int .i64 e.mt, .string e.pk, .int .i64 e.sz, .int .i64 e.cr]] w fun r w' => r = .returned (.tuple #[]) ∧ OntoT 80 w w' p v (putL ys e.st e.nd e.gn) := by
  have hm := headB_may hH
  obtain ⟨hs, hd⟩ := headB_st hH
  have hl := mayB_len hm
  obtain ⟨b, off, hva, hb, hc⟩ := hR.at (by omega)
  obtain ⟨hbp, hbv⟩ := hRp _ hva
  obtain ⟨snat, hsn⟩ : ∃ n : Nat, e.st = (n : Int) := ⟨e.st.toNat, by omega⟩
  obtain ⟨dnat, hdn⟩ : ∃ n : Nat, e.nd = (n : Int) := ⟨e.nd.toNat, by omega⟩
  have HP : Hid (∀ L, L = (le 2 20592 ++ le 2 22) ++ vecS (ys.take 4) ++ le 4 snat ++ le 1 dnat ++ le 1 e.gn.toNat → putL ys e.st e.nd e.gn = L) := by
    refine (fun L hL => ?_ : ∀ L, L = (le 2 20592 ++ le 2 22) ++ vecS (ys.take 4) ++ le 4 snat ++ le 1 dnat ++ le 1 e.gn.toNat → putL ys e.st e.nd e.gn = L)
    rw [hL, putL, hsn, hdn, List.take_of_length_le (by omega)]
    simp [List.append_assoc]
  have HX : Hid (∀ b1 w1 w' L, Entb w1 b1 e → Keeps (fun _ => False) w w1 → w.heap.size ≤ b1 → OntoT 80 w1 w' p v L → (w'.cell? ⟨b1, 1, none⟩ = some (.bool e.gn) ∧ w'.cell? ⟨b1, 2, none⟩ = some (.slice (some ⟨b, off, none⟩) 4 e.vc) ∧ w'.cell? ⟨b1, 3, none⟩ = some (.int .i64 (snat : Int)) ∧ w'.cell? ⟨b1, 4, none⟩ = some (.int .i64 (dnat : Int))) ∧ ∀ i, i < 4 → w'.cell? ⟨b, off + i, none⟩ = some (.int .i64 ((at_ ys i).toNat : Int))) := by
    refine (fun b1 w1 w' L hE hK hb1 hO => ?_ : ∀ b1 w1 w' L, Entb w1 b1 e → Keeps (fun _ => False) w w1 → w.heap.size ≤ b1 → OntoT 80 w1 w' p v L → (w'.cell? ⟨b1, 1, none⟩ = some (.bool e.gn) ∧ w'.cell? ⟨b1, 2, none⟩ = some (.slice (some ⟨b, off, none⟩) 4 e.vc) ∧ w'.cell? ⟨b1, 3, none⟩ = some (.int .i64 (snat : Int)) ∧ w'.cell? ⟨b1, 4, none⟩ = some (.int .i64 (dnat : Int))) ∧ ∀ i, i < 4 → w'.cell? ⟨b, off + i, none⟩ = some (.int .i64 ((at_ ys i).toNat : Int)))
    have hp := hT.lt
    have hne : v.ownBlock ≠ some b1 := fun h => by have := (World.ownsRow.lt hT.2 b1 h).2; omega
    have hlt := hE.lt
    refine ⟨⟨(hO.cells (x := ⟨b1, 1, none⟩) hlt (by show b1 ≠ p; omega) hne).trans hE.c1, ?_, ?_, ?_⟩, fun i hi => ?_⟩
    · rw [hO.cells (x := ⟨b1, 2, none⟩) hlt (by show b1 ≠ p; omega) hne, hE.c2, hva, hv, hl]
    · rw [hO.cells (x := ⟨b1, 3, none⟩) hlt (by show b1 ≠ p; omega) hne, hE.c3, hsn]
    · rw [hO.cells (x := ⟨b1, 4, none⟩) hlt (by show b1 ≠ p; omega) hne, hE.c4, hdn]
    · rw [hO.cells (x := ⟨b, off + i, none⟩) (Nat.lt_of_lt_of_le hb hK.size) hbp hbv, hc w1 hK i (by omega)]
      rw [← (may_nat hm i).1]
  have HT : Hid (Txt 80 w p v []) := hT
  have HV : Hid (∀ i, i < 4 → vecS (ys.take (i + 1)) = vecS (ys.take i) ++ le 4 (at_ ys i).toNat) := fun i hi => vecS_take i (by omega)
  have HL : Hid (∀ i, i ≤ 4 → (vecS (ys.take i)).length ≤ 16) := fun i hi => by
    show (vecS (ys.take i)).length ≤ 16
    rw [vecS_len, List.length_take]; omega
  have HN : Hid (∀ i, (at_ ys i).toNat < 1099511627776) := fun i => (may_nat hm i).2
  have hs2 : snat < 1099511627776 := by omega
  have hd2 : dnat < 1099511627776 := by omega
  have HG : Hid (e.gn.toNat < 1099511627776) := (by cases e.gn <;> decide : e.gn.toNat < 1099511627776)
  have HF : Hid (∀ w0 L, OntoT 80 w0 w0 p v L → Keeps (fun _ => False) w w0 → True) := fun _ _ _ _ => trivial
  clear HF hT hR hH hm hs hd hc hbp hbv hRp hl hva hsn hdn hv hb
  go_enter Try.func42, Try.ntmps42
  go_wp2_with (first
    | (refine wpList_box9 rfl _ rfl e rfl ?_; intro b1 w1 hE hK hb; have HE : Hid (Entb w1 b1 e ∧ Keeps (fun _ => False) w w1 ∧ w.heap.size ≤ b1) := ⟨hE, hK, hb⟩; have HO : Hid (OntoT 80 w1 w1 p v []) := OntoT.refl (HT.out.keptF hK); clear hE hK hb)
    | (go_at_call 48; (fail_if_success (clear M1)); refine (numb_on 20592 2 HO.out (by decide) (by decide)).mono ?_; rintro r w2 ⟨rfl, h⟩; clear HO; have HO : Hid (OntoT 80 w1 w2 p v (le 2 20592)) := h; have M1 : Hid True := trivial; clear h)
    | (go_at_call 48; (fail_if_success (clear M2)); refine (numb_on 22 2 HO.out (by decide) (by decide)).mono ?_; rintro r w3 ⟨rfl, h⟩; clear HO; have HO : Hid (OntoT 80 w1 w3 p v (le 2 20592 ++ le 2 22)) := h; have M2 : Hid True := trivial; clear h; obtain ⟨⟨d1, d2, d3, d4⟩, _⟩ := HX.out b1 w1 w3 _ HE.out.1 HE.out.2.1 HE.out.2.2 HO.out))
  clear d1 d2 d3 d4
  go_loopw [17] (fun s17 w' => ∃ i : Nat, i ≤ 4 ∧ s17 = .int .i64 (i : Int) ∧ Hid (OntoT 80 w1 w' p v ((le 2 20592 ++ le 2 22) ++ vecS (ys.take i)))) (fun s17 _ => (4 - intOf s17).toNat)
  case atStart => exact ⟨0, by omega, rfl, by (have h : OntoT 80 w1 w3 p v (le 2 20592 ++ le 2 22 ++ vecS (ys.take 0)) := by simpa [vecS] using HO.out); exact h⟩
  case round =>
    clear HO
    obtain ⟨i, hi, rfl, HO⟩ := hrel
    obtain ⟨⟨d1, d2, d3, d4⟩, hc⟩ := HX.out b1 w1 wr _ HE.out.1 HE.out.2.1 HE.out.2.2 HO.out
    have hl := HL.out i hi
    by_cases hin : i < 4
    · have hiz : (i : Int) < 4 := by omega
      have hci := hc i hin
      have HV1 := HV.out i hin
      have hn := HN.out i
      clear d1 d2 d3 d4 hc
      generalize (at_ ys i).toNat = n at *
      have HV2 : Hid (vecS (ys.take (i + 1)) = vecS (ys.take i) ++ le 4 n) := HV1
      clear HV1
      go_wp2_with (go_at_call 48; refine (numb_on n 4 HO.out hn (by simp [le_len]; omega)).mono ?_; rintro r w4 ⟨rfl, h⟩; have HO4 : Hid (OntoT 80 w1 w4 p v ((le 2 20592 ++ le 2 22) ++ vecS (ys.take (i + 1)))) := (by rw [HV2.out, ← List.append_assoc]; exact h : OntoT 80 w1 w4 p v ((le 2 20592 ++ le 2 22) ++ vecS (ys.take (i + 1)))); clear h)
      go_roundw
      case rel => exact ⟨i + 1, by omega, by push_cast; rfl, HO4⟩
      case measure => simp [intOf]; omega
    · obtain rfl : i = 4 := by omega
      clear hc
      obtain ⟨L, hL⟩ : ∃ L, (le 2 20592 ++ le 2 22) ++ vecS (ys.take 4) = L := ⟨_, rfl⟩
      have hLl : L.length ≤ 20 := by rw [← hL]; simp only [List.length_append, le_len]; omega
      have HD : Hid (OntoT 80 w1 wr.drew p v L) := (by rw [← hL]; exact HO.out.drew : OntoT 80 w1 wr.drew p v L)
      have HPL : Hid ((le 2 20592 ++ le 2 22) ++ vecS (ys.take 4) = L) := hL
      clear HO hl hL
      go_wp2
      go_region_held3 (fun w' => w'.cell? ⟨b1, 3, none⟩ = some (.int .i64 (snat : Int))) (go_keep)
        (first | (go_at_call 48; refine (numb_on snat 4 HD.out hs2 (by omega)).mono ?_; rintro r w4 ⟨rfl, h⟩; obtain ⟨⟨q1, q2, q3, q4⟩, _⟩ := HX.out b1 w1 w4 _ HE.out.1 HE.out.2.1 HE.out.2.2 h; have HO4 : Hid (OntoT 80 w1 w4 p v (L ++ le 4 snat)) := h; clear h))
      go_wp2
      have HD4 : Hid (OntoT 80 w1 w4.drew p v (L ++ le 4 snat)) := HO4.out.drew
      clear HO4 HD d1 d2 d3 d4
      go_region_held3 (fun w' => w'.cell? ⟨b1, 4, none⟩ = some (.int .i64 (dnat : Int))) (go_keep)
        (first | (go_at_call 48; refine (numb_on dnat 1 HD4.out hd2 (by simp [le_len]; omega)).mono ?_; rintro r w5 ⟨rfl, h⟩; obtain ⟨⟨t1, t2, t3, t4⟩, _⟩ := HX.out b1 w1 w5 _ HE.out.1 HE.out.2.1 HE.out.2.2 h; have HO5 : Hid (OntoT 80 w1 w5 p v (L ++ le 4 snat ++ le 1 dnat)) := h; clear h))
      go_wp2
      have HD5 : Hid (OntoT 80 w1 w5.drew p v (L ++ le 4 snat ++ le 1 dnat)) := HO5.out.drew
      clear HO5 HD4 q1 q2 q3 q4
      go_region_held3 (fun w' => w'.cell? ⟨b1, 1, none⟩ = some (.bool e.gn)) (go_keep)
        (first | (go_at_call 49; refine (flag_ok _ _).mono ?_; rintro r w' ⟨rfl, hw⟩; obtain rfl := hw.symm; clear hw)
               | (go_at_call 48; refine (numb_on e.gn.toNat 1 HD5.out HG.out (by simp [le_len]; omega)).mono ?_; rintro r w6 ⟨rfl, h⟩; obtain ⟨⟨r1, r2, r3, r4⟩, _⟩ := HX.out b1 w1 w6 _ HE.out.1 HE.out.2.1 HE.out.2.2 h; have HO6 : Hid (OntoT 80 w1 w6 p v (L ++ le 4 snat ++ le 1 dnat ++ le 1 e.gn.toNat)) := h; clear h))
      go_wp2
      go_end0
      refine ⟨rfl, ?_⟩
      rw [HP.out _ rfl, HPL.out]
      obtain ⟨v', g1, g2, g3⟩ := HO6.out
      refine ⟨v', g1, ?_, (HE.out.2.1.mono (fun _ _ h => h.elim)).trans g3 (fun i hi h => h)⟩
      rcases g2 with g2 | ⟨g, e1, e2⟩
      · exact .inl g2
      · exact .inr ⟨g, e1, Nat.le_trans HE.out.2.1.size e2⟩

theorem Row.lt {w : World} {a : Option Addr} {ys : List Int} (h : Row w a ys) (hn : 0 < ys.length) : ∀ x, a = some x → x.block < w.heap.size := by
  intro x hx
  obtain ⟨b, off, e, hb, _⟩ := h.spot hn
  rw [hx] at e
  cases e
  exact hb

set_option maxHeartbeats 4000000 in
set_option maxRecDepth 1000000 in
theorem put_ok (e : Ent) (ys : List Int) (w : World) (hv : e.vn = ys.length) (hR : Row w e.va ys) (hn : ys.length ≤ 1125899906842624) :
    Calls Try.prog 32 #[.agg #[.string e.nm, .bool e.gn, .slice e.va e.vn e.vc, .int .i64 e.st, .int .i64 e.nd, .int .i64 e.mt, .string e.pk, .int .i64 e.sz, .int .i64 e.cr]] w fun r w' => r = .returned (.tuple #[.string (putT ys e.st e.nd e.gn), .int .i64 (pErr ys e.st e.nd)]) ∧ Keeps (fun _ => False) w w' := by
  have HM : Hid (∀ w', Keeps (fun _ => False) w w' → Calls Try.prog 41 #[.agg #[.string e.nm, .bool e.gn, .slice e.va e.vn e.vc, .int .i64 e.st, .int .i64 e.nd, .int .i64 e.mt, .string e.pk, .int .i64 e.sz, .int .i64 e.cr]] w' fun r w'' => r = .returned (.bool (headB ys e.st e.nd)) ∧ Keeps (fun _ => False) w' w'') := fun w' hk => xmay_ok e ys w' hv (hR.keptF hk) hn
  cases hh : headB ys e.st e.nd
  · have E1 : putT ys e.st e.nd e.gn = ⟨#[]⟩ := by simp [putT, hh, textOf]
    have E2 : pErr ys e.st e.nd = 1200 := by simp [pErr, hh]
    rw [hh] at HM
    rw [E1, E2]
    clear hh E1 E2 hv hR hn
    go_enter Try.func32, Try.ntmps32
    go_wp2_with (first
      | (refine wpList_box9 rfl _ rfl e rfl ?_; intro b w1 hE hK hb; have HE : Hid (Entb w1 b e ∧ Keeps (fun _ => False) w w1) := ⟨hE, hK⟩; clear hE hK hb)
      | (refine wpList_load9 rfl _ rfl b 0 rfl e ?hA ?_; (case hA => exact HE.out.1.at))
      | (go_at_call 41; refine (HM.out w1 HE.out.2).mono ?_; rintro r w2 ⟨rfl, h⟩; have HK2 : Hid (Keeps (fun _ => False) w w2) := HE.out.2.trans h (fun _ _ h => h); clear h))
    go_ret2
    exact ⟨rfl, HK2.out⟩
  · have hl := mayB_len (headB_may hh)
    have E1 : putT ys e.st e.nd e.gn = textOf (putL ys e.st e.nd e.gn) := by simp [putT, hh]
    have E2 : pErr ys e.st e.nd = 0 := by simp [pErr, hh]
    have HH : Hid (∀ w2, Keeps (fun _ => False) w w2 → Calls Try.prog 42 #[.pointer (some ⟨w2.heap.size, 0, none⟩), .agg #[.string e.nm, .bool e.gn, .slice e.va e.vn e.vc, .int .i64 e.st, .int .i64 e.nd, .int .i64 e.mt, .string e.pk, .int .i64 e.sz, .int .i64 e.cr]] (w2.alloc (.cells #[.slice none 0 0] 80)) fun r w' => r = .returned (.tuple #[]) ∧ ∃ v', Txt 80 w' w2.heap.size v' (putL ys e.st e.nd e.gn) ∧ Keeps (fun _ => False) w w') := by
      refine (fun w2 hk => ?_ : ∀ w2, Keeps (fun _ => False) w w2 → Calls Try.prog 42 #[.pointer (some ⟨w2.heap.size, 0, none⟩), .agg #[.string e.nm, .bool e.gn, .slice e.va e.vn e.vc, .int .i64 e.st, .int .i64 e.nd, .int .i64 e.mt, .string e.pk, .int .i64 e.sz, .int .i64 e.cr]] (w2.alloc (.cells #[.slice none 0 0] 80)) fun r w' => r = .returned (.tuple #[]) ∧ ∃ v', Txt 80 w' w2.heap.size v' (putL ys e.st e.nd e.gn) ∧ Keeps (fun _ => False) w w')
      refine (mhead_ok w2.heap.size (.slice none 0 0) e ys _ hv (hR.keptF (hk.alloc _)) hh (fun x hx => ⟨?_, by simp [Value.ownBlock]⟩) (Txt.new _ w2)).mono ?_
      · have := hR.lt (by omega) x hx
        have := hk.size
        omega
      · rintro r w' ⟨rfl, v', g1, _, g3⟩
        refine ⟨rfl, v', g1, (hk.alloc _).trans g3 (fun i hi h => ?_)⟩
        have := hk.size
        rcases h with h | h
        · omega
        · simp [Value.ownBlock] at h
    have HB : Hid (∀ y ∈ putL ys e.st e.nd e.gn, y < 256) := putL_lt _ _ _ _
    rw [hh] at HM
    rw [E1, E2]
    generalize putL ys e.st e.nd e.gn = L at *
    clear hh E1 E2 hv hR hn hl
    go_enter Try.func32, Try.ntmps32
    go_wp2_with (first
      | (refine wpList_box9 rfl _ rfl e rfl ?_; intro b w1 hE hK hb; have HE : Hid (Entb w1 b e ∧ Keeps (fun _ => False) w w1) := ⟨hE, hK⟩; clear hE hK hb)
      | (refine wpList_load9 rfl _ rfl b 0 rfl e ?hA ?_; (case hA => first | exact HE.out.1.at | exact ((HE.out.1.keptF HK2.out.1).keptF ((Keeps.refl _ _).alloc _)).at))
      | (go_at_call 41; refine (HM.out w1 HE.out.2).mono ?_; rintro r w2 ⟨rfl, h⟩; have HK2 : Hid (Keeps (fun _ => False) w1 w2 ∧ Keeps (fun _ => False) w w2) := ⟨h, HE.out.2.trans h (fun _ _ h => h)⟩; clear h)
      | (go_at_call 42; refine (HH.out w2 HK2.out.2).mono ?_; rintro r w3 ⟨rfl, v', h1, h2⟩; have H3 : Hid (Txt 80 w3 w2.heap.size v' L ∧ Keeps (fun _ => False) w w3) := ⟨h1, h2⟩; clear h1 h2)
      | (go_at_call 43; refine (told_ok _ _ v' L w3 HB.out H3.out.1).mono ?_; rintro r w' ⟨rfl, hw⟩; obtain rfl := hw.symm; clear hw))
    go_ret2
    exact ⟨rfl, H3.out.2⟩

end Go.Proofs.Ytfbghchgfbjogaa.Zp

namespace Go.Proofs.Ytfbghchgfbjogaa.Zp
open Go.RowKit
set_option linter.unusedVariables false
set_option linter.unusedSimpArgs false

def Ent.row (g : Nat) (st nd : Int) (gn : Bool) : Ent := ⟨⟨#[]⟩, gn, some ⟨g, 0, none⟩, 4, 4, st, nd, 0, ⟨#[]⟩, 0, 0⟩

end Go.Proofs.Ytfbghchgfbjogaa.Zp

namespace Go.Proofs.Ytfbghchgfbjogaa.Zp
open Go.RowKit
set_option linter.unusedVariables false
set_option linter.unusedSimpArgs false

/-- An entry with another vector's slice. -/
def Ent.vec (e : Ent) (a : Option Addr) (n c : Nat) : Ent := ⟨e.nm, e.gn, a, n, c, e.st, e.nd, e.mt, e.pk, e.sz, e.cr⟩

set_option maxHeartbeats 4000000 in
set_option maxRecDepth 1000000 in
theorem copyE_ok (e : Ent) (ys : List Int) (w : World) (hv : e.vn = ys.length) (hR : Row w e.va ys) (hA : Came e.va ys.length e.vc) (hsz : ys.length * 8 ≤ 140737488355328) :
    Calls Try.prog 7 #[.agg #[.string e.nm, .bool e.gn, .slice e.va e.vn e.vc, .int .i64 e.st, .int .i64 e.nd, .int .i64 e.mt, .string e.pk, .int .i64 e.sz, .int .i64 e.cr]] w fun r w' => ∃ a n c, r = .returned (.agg #[.string (e.vec a n c).nm, .bool (e.vec a n c).gn, .slice (e.vec a n c).va (e.vec a n c).vn (e.vec a n c).vc, .int .i64 (e.vec a n c).st, .int .i64 (e.vec a n c).nd, .int .i64 (e.vec a n c).mt, .string (e.vec a n c).pk, .int .i64 (e.vec a n c).sz, .int .i64 (e.vec a n c).cr]) ∧ OwnV w' w.heap.size (.slice a n c) ys ∧ n = ys.length ∧ Keeps (fun _ => False) w w' := by
  have HR : Hid (Row w e.va ys) := hR
  have HA : Hid (Came e.va ys.length e.vc) := hA
  have HV : Hid (e.vn = ys.length) := hv
  clear hR hA hv
  go_enter Try.func7, Try.ntmps7
  go_wp2_with (first
    | (refine wpList_box9 rfl _ rfl e rfl ?_; intro b1 w1 hE hK hb; have H1 : Hid (Entb w1 b1 e ∧ Keeps (fun _ => False) w w1 ∧ w.heap.size ≤ b1) := ⟨hE, hK, hb⟩; clear hE hK hb)
    | (refine wpList_alloc9 rfl rfl ?_; intro b2 w2 hE hK hb; have H2 : Hid (Entb w2 b1 e ∧ Entb w2 b2 Ent.zero ∧ Keeps (fun _ => False) w w2 ∧ w.heap.size ≤ b1 ∧ w.heap.size ≤ b2 ∧ b1 ≠ b2) := ⟨H1.out.1.keptF hK, hE, H1.out.2.1.trans hK (fun _ _ h => h), H1.out.2.2, Nat.le_trans H1.out.2.1.size hb, (by have := H1.out.1.lt; omega)⟩; clear hE hK hb; have q2 : w2.cell? ⟨b1, 2, none⟩ = some (.slice e.va ys.length e.vc) := (by rw [H2.out.1.c2, HV.out]); have hbl : b1 < w2.heap.size := H2.out.1.lt)
    | (refine wpList_append rfl _ _ rfl rfl w2.heap.size (.slice (some ⟨w2.heap.size, 0, none⟩) 0 0) 0 [] rfl ?hown e.va ys e.vc rfl ((HR.out.keptF H2.out.2.2.1).keptF ((Keeps.refl _ w2).alloc _)) HA.out ?hb ?hsz ?_; (case hown => exact World.ownsRow_lit w2 #[] _ (Nat.le_refl _) (by decide) rfl); (case hb => simp); (case hsz => omega); intro v w3 hO hG; have hK3 : Keeps (fun _ => False) w2 w3 := ((Keeps.refl (fun _ => False) w2).alloc (Obj.cells #[] 3)).grown hG (fun k hk e => by simp [Value.ownBlock] at e; omega); have H3 : Hid (Entb w3 b1 e ∧ Entb w3 b2 Ent.zero ∧ Keeps (fun _ => False) w w3 ∧ OwnV w3 w2.heap.size v ys) := ⟨H2.out.1.keptF hK3, H2.out.2.1.keptF hK3, H2.out.2.2.1.trans hK3 (fun _ _ h => h), (by simpa [OwnV] using hO)⟩; obtain ⟨a3, c3, hv3⟩ : ∃ a c, v = .slice a ys.length c := (by obtain ⟨a, c, h, _⟩ := H3.out.2.2.2.row; exact ⟨a, c, h⟩); subst hv3; have q3 := H3.out.1.c2; have f3 := H3.out.1.free 2; clear hO hG hK3)
    | (refine wpList_load9 rfl _ rfl b1 0 rfl (e.vec a3 ys.length c3) ?hA ?_; (case hA => exact (H3.out.1.setC 2 (.slice a3 ys.length c3) (e.vec a3 ys.length c3) rfl).at))
    | (refine wpList_store9 rfl _ _ rfl b2 (e.vec a3 ys.length c3) rfl rfl Ent.zero ?hA ?_; (case hA => exact H3.out.2.1.kept ((Keeps.refl (fun x => x = b1) w3).setCell (p := ⟨b1, 2, none⟩) (fun _ => rfl) _) (fun e => H2.out.2.2.2.2.2 e.symm)); intro w4 hE hK; have H4 : Hid (Entb w4 b2 (e.vec a3 ys.length c3) ∧ Keeps (fun x => x = b2) (w3.setCell ⟨b1, 2, none⟩ (.slice a3 ys.length c3)) w4) := ⟨hE, hK⟩; clear hE hK))
  (try simp only [Exit.inBlock, Exit.then])
  have hk1 : Keeps (fun x => x = b1) w3 (w3.setCell ⟨b1, 2, none⟩ (.slice a3 ys.length c3)) := (Keeps.refl (fun x => x = b1) w3).setCell (p := ⟨b1, 2, none⟩) (fun _ => rfl) _
  have h1 := H2.out.1.lt
  have h2 := H2.out.2.1.lt
  obtain ⟨_, _, _, g1, g2, _⟩ := H2.out
  have hge := H3.out.2.2.2.lo
  refine bodyPost_ret (v := .agg #[.string (e.vec a3 ys.length c3).nm, .bool (e.vec a3 ys.length c3).gn, .slice (e.vec a3 ys.length c3).va (e.vec a3 ys.length c3).vn (e.vec a3 ys.length c3).vc, .int .i64 (e.vec a3 ys.length c3).st, .int .i64 (e.vec a3 ys.length c3).nd, .int .i64 (e.vec a3 ys.length c3).mt, .string (e.vec a3 ys.length c3).pk, .int .i64 (e.vec a3 ys.length c3).sz, .int .i64 (e.vec a3 ys.length c3).cr]) (H4.out.1.res1 rfl rfl) rfl ⟨a3, ys.length, c3, rfl, ?_, rfl, (H3.out.2.2.1.trans hk1 (fun i hi h => by omega)).trans H4.out.2 (fun i hi h => by omega)⟩
  exact ((H3.out.2.2.2.kept hk1 (fun k hk e => by have := (hge k hk).1; omega)).kept H4.out.2 (fun k hk e => by have := (hge k hk).1; omega)).mono H2.out.2.2.1.size

set_option maxHeartbeats 4000000 in
set_option maxRecDepth 1000000 in
/-- Two entries that are the same. -/
theorem sameE_yes (e f : Ent) (ys : List Int) (w : World) (hf : f = e.vec f.va f.vn f.vc) (hv : e.vn = ys.length) (hv' : f.vn = ys.length) (hR : Row w e.va ys) (hR' : Row w f.va ys) (hn : ys.length ≤ 1125899906842624) :
    Calls Try.prog 11 #[.agg #[.string e.nm, .bool e.gn, .slice e.va e.vn e.vc, .int .i64 e.st, .int .i64 e.nd, .int .i64 e.mt, .string e.pk, .int .i64 e.sz, .int .i64 e.cr], .agg #[.string f.nm, .bool f.gn, .slice f.va f.vn f.vc, .int .i64 f.st, .int .i64 f.nd, .int .i64 f.mt, .string f.pk, .int .i64 f.sz, .int .i64 f.cr]] w fun r w' => r = .returned (.bool true) ∧ Keeps (fun _ => False) w w' := by
  have HS : Hid (∀ w', Keeps (fun _ => False) w w' → Calls Try.prog 15 #[.slice e.va e.vn e.vc, .slice f.va f.vn f.vc] w' fun r w'' => r = .returned (.bool true) ∧ Keeps (fun _ => False) w' w'') := fun w' hk => by
    rw [hv, hv']; exact sameInts_yes _ _ ys _ _ w' (hR.keptF hk) (hR'.keptF hk) hn
  obtain ⟨nm, gn, va, vn, vc, st, nd, mt, pk, sz, cr⟩ := e
  obtain ⟨nm', gn', va', vn', vc', st', nd', mt', pk', sz', cr'⟩ := f
  simp only [Ent.vec, Ent.mk.injEq, true_and, and_true] at hf
  obtain ⟨rfl, rfl, rfl, rfl, rfl, rfl, rfl, rfl⟩ := hf
  clear hv hv' hR hR' hn
  simp only at HS ⊢
  have e1 : (nm'.toList == nm'.toList) = true := by simp
  have e2 : (pk'.toList == pk'.toList) = true := by simp
  cases gn'
  all_goals
    go_enter Try.func11, Try.ntmps11
    go_wp2_with (first
      | (refine wpList_box9 rfl _ rfl ⟨nm', _, va, vn, vc, st', nd', mt', pk', sz', cr'⟩ rfl ?_; (fail_if_success (clear H1)); intro b1 w1 hE hK hb; have H1 : Hid (Entb w1 b1 _ ∧ Keeps (fun _ => False) w w1) := ⟨hE, hK⟩; clear hE hK hb)
      | (refine wpList_box9 rfl _ rfl ⟨nm', _, va', vn', vc', st', nd', mt', pk', sz', cr'⟩ rfl ?_; intro b2 w2 hE hK hb; have H2 : Hid (Entb w2 b1 _ ∧ Entb w2 b2 _ ∧ Keeps (fun _ => False) w w2) := ⟨H1.out.1.keptF hK, hE, H1.out.2.trans hK (fun _ _ h => h)⟩; have q0 := H2.out.1.c0; have q1 := H2.out.1.c1; have q2 := H2.out.1.c2; have r0 := H2.out.2.1.c0; have r1 := H2.out.2.1.c1; have r2 := H2.out.2.1.c2; clear hE hK hb)
      | (go_at_call 15; refine (HS.out w2 H2.out.2.2).mono ?_; rintro r w3 ⟨rfl, h⟩; have H3 : Hid (Entb w3 b1 _ ∧ Entb w3 b2 _ ∧ Keeps (fun _ => False) w w3) := ⟨H2.out.1.keptF h, H2.out.2.1.keptF h, H2.out.2.2.trans h (fun _ _ h => h)⟩; have q3 := H3.out.1.c3; have q4 := H3.out.1.c4; have q5 := H3.out.1.c5; have q6 := H3.out.1.c6; have q7 := H3.out.1.c7; have q8 := H3.out.1.c8; have r3 := H3.out.2.1.c3; have r4 := H3.out.2.1.c4; have r5 := H3.out.2.1.c5; have r6 := H3.out.2.1.c6; have r7 := H3.out.2.1.c7; have r8 := H3.out.2.1.c8; clear h q0 q1 q2 r0 r1 r2))
    go_ret
    exact ⟨rfl, H3.out.2.2⟩

end Go.Proofs.Ytfbghchgfbjogaa.Zp

namespace Go.Proofs.Ytfbghchgfbjogaa
open Go.RowKit
set_option linter.unusedVariables false
set_option linter.unusedSimpArgs false

set_option maxHeartbeats 400000 in
theorem of_any (s : ByteArray) (w : World) :
    Calls Try.prog 36 #[.string s] w fun e w' => e = .returned (.pointer (some ⟨w.heap.size, 0, none⟩)) ∧ w' = w.alloc (.cells #[.string s, .int .i64 0] 85) := by
  go_enter Try.func36, Try.ntmps36
  go_wp2
  go_ret
  exact ⟨rfl, rfl⟩

set_option maxHeartbeats 400000 in
theorem num_any (n : Int) (w : World) :
    Calls Try.prog 10 #[.int .i64 n] w fun e w' => e = .returned (.int .i64 n) ∧ w' = w := by
  go_enter Try.func10, Try.ntmps10
  go_wp2
  go_ret
  exact ⟨rfl, rfl⟩

set_option maxHeartbeats 400000 in
theorem whole_any (n : Int) (w : World) (h0 : 0 ≤ n) (h1 : n ≤ 4503599627370496) :
    Calls Try.prog 47 #[.int .i64 n] w fun e w' => e = .returned (.int .i64 ((n + 7) / 8 * 8)) ∧ w' = w := by
  go_enter Try.func47, Try.ntmps47
  go_wp2
  go_ret
  exact ⟨rfl, rfl⟩

set_option maxHeartbeats 400000 in
theorem at_any (b : Nat) (n : Int) (w : World) (hc : w.cell? ⟨b, 1, none⟩ = some (.int .i64 n)) :
    Calls Try.prog 39 #[.pointer (some ⟨b, 0, none⟩)] w fun e w' => e = .returned (.int .i64 n) ∧ w' = w := by
  go_enter Try.func39, Try.ntmps39
  go_wp2
  go_ret
  exact ⟨rfl, rfl⟩

end Go.Proofs.Ytfbghchgfbjogaa
