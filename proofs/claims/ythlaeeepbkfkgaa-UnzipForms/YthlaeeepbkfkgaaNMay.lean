/-
  The program's May and the document's answer alike for every text: nameB.
-/
import Derived.Test.YthlaeeepbkfkgaaPlain
import Derived.Test.YthlaeeepbkfkgaaChecked
import Derived.BigQuiet
namespace Go.Proofs.Ythlaeeepbkfkgaa.Nm
open Go.RowKit
set_option linter.unusedVariables false
set_option linter.unusedSimpArgs false

/-- A byte that may stand in a name. -/
def letB (n : Nat) : Bool := decide (97 ≤ n ∧ n ≤ 122) || decide (48 ≤ n ∧ n ≤ 57) || decide (n = 46) || decide (n = 45) || decide (n = 95)
/-- A text that may be a name. -/
def nameB (s : ByteArray) : Bool := decide (1 ≤ s.size ∧ s.size ≤ 8) && !decide (s = ⟨#[46]⟩) && !decide (s = ⟨#[46, 46]⟩) && (bytesOf s).all letB

theorem letter_ok (b : Nat) (w : World) (hb : b < 256) :
    Calls Try.prog 63 #[.int .u8 b] w fun e w' => e = .returned (.bool (letB b)) ∧ w' = w := by
  have hc : b < 45 ∨ b = 45 ∨ b = 46 ∨ b = 47 ∨ (48 ≤ b ∧ b ≤ 57) ∨ (58 ≤ b ∧ b < 95) ∨ b = 95 ∨ b = 96 ∨ (97 ≤ b ∧ b ≤ 122) ∨ 122 < b := by omega
  rcases hc with h | h | h | h | ⟨h, h'⟩ | ⟨h, h'⟩ | h | h | ⟨h, h'⟩ | h <;>
    (try subst h
     go_enter Try.func63, Try.ntmps63
     go_wp2
     go_ret
     refine ⟨congrArg (fun z => Ending.returned (Value.bool z)) ?_, rfl⟩
     first
       | decide
       | (unfold letB; simp; omega))

theorem mloop_eq (bs : ByteArray) : ∀ n i r, bs.size - i = n → i ≤ bs.size → ByteArray.toList.loop bs i r = r.reverse ++ bs.data.toList.drop i
  | 0, i, r, h, hi => by
    rw [ByteArray.toList.loop.eq_1, if_neg (by omega), List.drop_eq_nil_of_le (by rw [Array.length_toList]; show bs.size ≤ i; omega), List.append_nil]
  | n + 1, i, r, h, hi => by
    have hl : i < bs.data.toList.length := by rw [Array.length_toList]; show i < bs.size; omega
    have hg : bs.get! i = bs.data.toList[i] := by
      show bs.data[i]! = _
      rw [getElem!_pos bs.data i (by show i < bs.size; omega)]; rfl
    rw [ByteArray.toList.loop.eq_1, if_pos (by omega), mloop_eq bs n (i + 1) _ (by omega) (by omega), List.reverse_cons, List.append_assoc, List.drop_eq_getElem_cons hl, hg]; rfl
theorem mtoList_data (bs : ByteArray) : bs.toList = bs.data.toList := by
  rw [ByteArray.toList.eq_1, mloop_eq bs _ 0 [] rfl (Nat.zero_le _)]; rfl
theorem beq_list (a b : ByteArray) : (a.toList == b.toList) = decide (a = b) := by
  rw [mtoList_data, mtoList_data]
  by_cases h : a = b
  · subst h; simp
  · rw [decide_eq_false h]
    cases e : (a.data.toList == b.data.toList)
    · rfl
    · exact absurd (ByteArray.ext (Array.toList_inj.1 (eq_of_beq e))) h
theorem all_get (s : ByteArray) (p : Nat → Bool) : (bytesOf s).all p = true ↔ ∀ j (h : j < s.size), p s[j].toNat = true := by
  rw [List.all_eq_true]
  constructor
  · intro h j hj
    apply h
    rw [← bytesOf_get s j hj, List.getD, List.getElem?_eq_getElem (by rw [bytesOf_length]; exact hj)]
    exact List.getElem_mem _
  · intro h x hx
    obtain ⟨j, hj, rfl⟩ := List.getElem_of_mem hx
    rw [bytesOf_length] at hj
    have := bytesOf_get s j hj
    rw [List.getD, List.getElem?_eq_getElem (by rw [bytesOf_length]; exact hj), Option.getD_some] at this
    rw [this]; exact h j hj

theorem name_out (s : ByteArray) (h : s.size = 0 ∨ 8 < s.size ∨ s = ⟨#[46]⟩ ∨ s = ⟨#[46, 46]⟩) : nameB s = false := by
  unfold nameB
  rcases h with h | h | h | h
  · simp [h]
  · rw [decide_eq_false (by omega)]; rfl
  · subst h; decide
  · subst h; decide
theorem name_bad (s : ByteArray) (j : Nat) (hj : j < s.size) (h : letB s[j].toNat = false) : nameB s = false := by
  have : (bytesOf s).all letB = false := by
    cases e : (bytesOf s).all letB
    · rfl
    · rw [all_get] at e; rw [e j hj] at h; cases h
  unfold nameB; rw [this, Bool.and_false]
theorem name_good (s : ByteArray) (h1 : 1 ≤ s.size) (h8 : s.size ≤ 8) (hd : ¬ s = ⟨#[46]⟩) (hdd : ¬ s = ⟨#[46, 46]⟩) (h : ∀ j (h : j < s.size), letB s[j].toNat = true) : nameB s = true := by
  have : (bytesOf s).all letB = true := (all_get s letB).2 h
  unfold nameB
  rw [this, decide_eq_false hd, decide_eq_false hdd, decide_eq_true ⟨h1, h8⟩]; rfl

theorem beq_0 (s : ByteArray) : s.toList.isEmpty = decide (s = ⟨#[]⟩) := by
  rw [← beq_list, mtoList_data, mtoList_data]; cases s.data.toList <;> rfl
theorem beq_1 (s : ByteArray) : (s.toList == [46]) = decide (s = ⟨#[46]⟩) := by
  rw [← beq_list, mtoList_data, mtoList_data]
theorem beq_2 (s : ByteArray) : (s.toList == [46, 46]) = decide (s = ⟨#[46, 46]⟩) := by
  rw [← beq_list, mtoList_data, mtoList_data]

set_option maxHeartbeats 800000 in
theorem may_ok (s : ByteArray) (w : World) (hs : s.size ≤ 1125899906842624) :
    Calls Try.prog 47 #[.string s] w fun e w' => e = .returned (.bool (nameB s)) ∧ w' = w := by
  have E0 := beq_0 s
  have E1 := beq_1 s
  have E2 := beq_2 s
  by_cases h0 : s = ⟨#[]⟩
  · subst h0
    go_enter Try.func47, Try.ntmps47
    go_wp2
    go_ret
    exact ⟨by first | rfl | (rw [name_out _ (.inl rfl)]; rfl), rfl⟩
  have hz : 1 ≤ s.size := by
    rcases Nat.eq_zero_or_pos s.size with e | e
    · exfalso; apply h0; exact ByteArray.ext (Array.eq_empty_of_size_eq_zero e)
    · exact e
  rw [decide_eq_false h0] at E0
  by_cases h8 : 8 < s.size
  · have HN := name_out s (.inr (.inl h8))
    clear E1 E2
    go_enter Try.func47, Try.ntmps47
    go_wp2
    go_ret
    exact ⟨by first | rfl | (rw [HN]; rfl), rfl⟩
  have D8 : decide (8 < (s.size : Int)) = false := decide_eq_false (by omega)
  by_cases h1 : s = ⟨#[46]⟩
  · have HN := name_out s (.inr (.inr (.inl h1)))
    rw [decide_eq_true h1] at E1
    clear E2 h1
    go_enter Try.func47, Try.ntmps47
    go_wp2
    go_ret
    exact ⟨by first | rfl | (rw [HN]; rfl), rfl⟩
  by_cases h2 : s = ⟨#[46, 46]⟩
  · have HN := name_out s (.inr (.inr (.inr h2)))
    rw [decide_eq_true h2] at E2
    rw [decide_eq_false h1] at E1
    clear h1 h2
    go_enter Try.func47, Try.ntmps47
    go_wp2
    go_ret
    exact ⟨by first | rfl | (rw [HN]; rfl), rfl⟩
  have HG : Hid ((∀ j (h : j < s.size), letB s[j].toNat = true) → nameB s = true) := name_good s hz (by omega) h1 h2
  rw [decide_eq_false h1] at E1
  rw [decide_eq_false h2] at E2
  have H8 : Hid (s.size ≤ 8) := (by omega : s.size ≤ 8)
  clear h1 h2 h0
  go_enter Try.func47, Try.ntmps47
  go_wp2
  go_loopw [3, 21] (fun _ i w' => w' = w ∧ ∃ j : Nat, j ≤ s.size ∧ i = .int .i64 j ∧ ∀ q (h : q < s.size), q < j → letB s[q].toNat = true) (fun _ i _ => s.size - (intOf i).toNat)
  case atStart => exact ⟨rfl, 0, Nat.zero_le _, rfl, fun q _ h => absurd h (Nat.not_lt_zero _)⟩
  case round =>
    obtain ⟨rfl, j, hj, rfl, hq⟩ := hrel
    have HQ : Hid (∀ q (h : q < s.size), q < j → letB s[q].toNat = true) := hq
    clear hq E0 E1 E2 D8
    by_cases hlt : j < s.size
    · cases hb : letB s[j].toNat
      · have HN := name_bad s j hlt hb
        go_wp2_with fail
        refine (letter_ok _ _ (UInt8.toNat_lt _)).mono ?_
        rintro e w' ⟨rfl, hw⟩
        obtain rfl := hw.symm; clear hw
        rw [hb]
        go_wp2
        go_ret
        exact ⟨by first | rfl | (rw [HN]; rfl), rfl⟩
      · go_wp2_with fail
        refine (letter_ok _ _ (UInt8.toNat_lt _)).mono ?_
        rintro e w' ⟨rfl, hw⟩
        obtain rfl := hw.symm; clear hw
        rw [hb]
        have hs' := H8.out
        go_wp2
        go_roundw
        case rel =>
          refine ⟨trivial, j + 1, by omega, by go_num, ?_⟩
          intro q hq hlt'
          by_cases e : q = j
          · subst e; exact hb
          · exact HQ.out q hq (by omega)
        case measure => simp [intOf]; omega
    · go_wp2
      go_ret
      exact ⟨by rw [HG.out (fun q hq => HQ.out q hq (by omega))]; rfl, rfl⟩


end Go.Proofs.Ythlaeeepbkfkgaa.Nm
