/-
  What every such program answers.
-/
import Derived.Test.YtapbjkhbnehllaaSame
namespace Go.Proofs.Ytapbjkhbnehllaa
open Go.RowKit
set_option linter.unusedVariables false
set_option linter.unusedSimpArgs false

theorem Keeps.tr {a b c : World} (h : Keeps (fun _ => False) a b) (k : Keeps (fun _ => False) b c) : Keeps (fun _ => False) a c := h.trans k (fun _ _ h => h)

def awkL : List Nat := [112, 80, 22, 0, 1, 0, 0, 0, 2, 0, 0, 0, 0, 0, 0, 0, 2, 1, 0, 0, 3, 0, 0, 0, 1, 1]
def awkT : ByteArray := ⟨#[112, 80, 22, 0, 1, 0, 0, 0, 2, 0, 0, 0, 0, 0, 0, 0, 2, 1, 0, 0, 3, 0, 0, 0, 1, 1]⟩
theorem awk_head : headB [1, 2, 0, 258] 3 1 = true := by decide
theorem awk_put : putL [1, 2, 0, 258] 3 1 true = awkL := by rw [putL_four]; rfl
theorem awk_text : putT [1, 2, 0, 258] 3 1 true = awkT := by
  rw [putT, awk_head, cond_true, awk_put]; rfl
theorem awk_err : pErr [1, 2, 0, 258] 3 1 = 0 := by rw [pErr, awk_head]; rfl
theorem awk_bytes : bytesOf awkT = awkL := rfl
theorem awk_ok : gOk awkL = true := by rw [← awk_put]; exact put_gOk true awk_head
theorem awk_got : gGn awkL = true ∧ gSt awkL = 3 ∧ gNd awkL = 1 ∧ gVec awkL = [1, 2, 0, 258] ∧ gErr awkL = 0 := by
  obtain ⟨h1, h2, h3, h4, _⟩ := put_read true awk_head
  rw [awk_put] at h1 h2 h3 h4
  refine ⟨?_, ?_, ?_, ?_, ?_⟩
  · rw [gGn, awk_ok, h4]; rfl
  · rw [gSt, awk_ok, h2]; rfl
  · rw [gNd, awk_ok, h3]; rfl
  · rw [gVec, awk_ok, h1]; rfl
  · rw [gErr, awk_ok]; rfl
theorem gErr_len {L : List Nat} (h : ¬ L.length = 26) : gErr L = 1200 ∧ gGn L = false ∧ gSt L = 0 ∧ gNd L = 0 ∧ gVec L = [] := by
  have : gOk L = false := by
    cases e : gOk L
    · rfl
    · exact absurd (gOk_len e) h
  simp [gErr, gGn, gSt, gNd, gVec, this]
theorem awk_more : ¬ (bytesOf (awkT ++ ⟨#[120]⟩)).length = 26 := by rw [bytesOf_length, ByteArray.size_append]; decide
theorem zero_err : pErr [] 0 0 = 1200 := by decide
theorem awk_size : awkT.size = 26 := rfl
theorem awk_list : (awkT.toList == [112, 80, 22, 0, 1, 0, 0, 0, 2, 0, 0, 0, 0, 0, 0, 0, 2, 1, 0, 0, 3, 0, 0, 0, 1, 1]) = true := by rw [toList_data]; rfl
theorem get_awk (w' : World) : Calls Try.prog 11 #[.string awkT] w' fun r w'' => ∃ a c, r = .returned (.tuple #[.agg #[.string ⟨#[]⟩, .bool true, .slice a 4 c, .int .i64 3, .int .i64 1, .int .i64 0, .string ⟨#[]⟩, .int .i64 0, .int .i64 0], .int .i64 0]) ∧ Row w'' a [1, 2, 0, 258] ∧ Keeps (fun _ => False) w' w'' := by
  have hs := awk_size
  have hb := awk_bytes
  generalize awkT = t at *
  obtain ⟨g1, g2, g3, g4, g5⟩ := awk_got
  refine (get_ok t w' (by omega)).mono ?_
  rintro r w'' ⟨a, n, c, rfl, h1, rfl, h3⟩
  rw [hb] at h1 ⊢
  rw [g1, g2, g3, g5]
  rw [g4] at h1 ⊢
  obtain ⟨a', c', e, hr, _⟩ := h1.row
  cases e
  exact ⟨a, c, rfl, hr, h3⟩
theorem get_out (t : ByteArray) (ht : ¬ t.size = 26) (hs : t.size ≤ 140737488355328) (w' : World) : Calls Try.prog 11 #[.string t] w' fun r w'' => ∃ a n c, r = .returned (.tuple #[.agg #[.string ⟨#[]⟩, .bool false, .slice a n c, .int .i64 0, .int .i64 0, .int .i64 0, .string ⟨#[]⟩, .int .i64 0, .int .i64 0], .int .i64 1200]) ∧ Row w'' a [] ∧ n = 0 ∧ Keeps (fun _ => False) w' w'' := by
  obtain ⟨g1, g2, g3, g4, g5⟩ := gErr_len (L := bytesOf t) (by rw [bytesOf_length]; exact ht)
  refine (get_ok t w' hs).mono ?_
  rintro r w'' ⟨a, n, c, rfl, h1, h2, h3⟩
  rw [g1, g2, g3, g4]
  rw [g5] at h2
  exact ⟨a, n, c, rfl, .inl rfl, h2, h3⟩

/-- The heads' literal: a row, and an entry made of it. -/
def Ent.lit (b : Nat) (n : Nat) (st nd : Int) (gn : Bool) : Ent := ⟨⟨#[]⟩, gn, some ⟨b, 0, none⟩, n, n, st, nd, 0, ⟨#[]⟩, 0, 0⟩

def Ent.gotten (a : Option Addr) (n c : Nat) (gn : Bool) (st nd : Int) : Ent := ⟨⟨#[]⟩, gn, a, n, c, st, nd, 0, ⟨#[]⟩, 0, 0⟩

set_option maxHeartbeats 8000000 in
set_option maxRecDepth 1000000 in
theorem awake_ok (w : World) : Calls Try.prog 16 #[] w fun e w' => e = .returned (.bool true) ∧ Keeps (fun _ => False) w w' := by
  have HR : Hid (∀ w', Keeps (fun _ => False) (w.alloc (.cells #[.int .i64 1, .int .i64 2, .int .i64 0, .int .i64 258] 3)) w' → Row w' (some ⟨w.heap.size, 0, none⟩) [1, 2, 0, 258] ∧ w.heap.size < w'.heap.size) := fun w' hk => ⟨(Row.lit w [1, 2, 0, 258] 3).keptF hk, by have := hk.size; simp at this; omega⟩
  have HP : Hid (∀ w', Keeps (fun _ => False) (w.alloc (.cells #[.int .i64 1, .int .i64 2, .int .i64 0, .int .i64 258] 3)) w' → Calls Try.prog 9 #[.agg #[.string ⟨#[]⟩, .bool true, .slice (some ⟨w.heap.size, 0, none⟩) 4 4, .int .i64 3, .int .i64 1, .int .i64 0, .string ⟨#[]⟩, .int .i64 0, .int .i64 0]] w' fun r w'' => r = .returned (.tuple #[.string awkT, .int .i64 0]) ∧ Keeps (fun _ => False) w' w'') := fun w' hk => by
    have := put_ok (Ent.lit w.heap.size 4 3 1 true) [1, 2, 0, 258] w' rfl (HR.out w' hk).1 (by decide)
    have e1 : putT [1, 2, 0, 258] (Ent.lit w.heap.size 4 3 1 true).st (Ent.lit w.heap.size 4 3 1 true).nd (Ent.lit w.heap.size 4 3 1 true).gn = awkT := awk_text
    have e2 : pErr [1, 2, 0, 258] (Ent.lit w.heap.size 4 3 1 true).st (Ent.lit w.heap.size 4 3 1 true).nd = 0 := awk_err
    rw [e1, e2] at this
    exact this
  have HG : Hid (∀ w', Calls Try.prog 11 #[.string awkT] w' fun r w'' => ∃ a c, r = .returned (.tuple #[.agg #[.string ⟨#[]⟩, .bool true, .slice a 4 c, .int .i64 3, .int .i64 1, .int .i64 0, .string ⟨#[]⟩, .int .i64 0, .int .i64 0], .int .i64 0]) ∧ Row w'' a [1, 2, 0, 258] ∧ Keeps (fun _ => False) w' w'') := get_awk
  have HZ : Hid (∀ w', Calls Try.prog 9 #[.agg #[.string Ent.zero.nm, .bool Ent.zero.gn, .slice Ent.zero.va Ent.zero.vn Ent.zero.vc, .int .i64 Ent.zero.st, .int .i64 Ent.zero.nd, .int .i64 Ent.zero.mt, .string Ent.zero.pk, .int .i64 Ent.zero.sz, .int .i64 Ent.zero.cr]] w' fun r w'' => ∃ u, r = .returned (.tuple #[.string u, .int .i64 1200]) ∧ Keeps (fun _ => False) w' w'') := fun w' => by
    refine (put_ok Ent.zero [] w' rfl (.inl rfl) (by decide)).mono ?_
    rintro r w'' ⟨rfl, h⟩
    exact ⟨_, by rw [show pErr [] Ent.zero.st Ent.zero.nd = 1200 from zero_err], h⟩
  have hq := awk_list
  have hs := awk_size
  have hz : ¬ 9223372036854775807 < awkT.size + 1 := by rw [hs]; decide
  generalize awkT = t at *
  obtain ⟨X, hX⟩ : ∃ X : ByteArray, t ++ ⟨#[120]⟩ = X := ⟨_, rfl⟩
  have HX : Hid (∀ w', Calls Try.prog 11 #[.string X] w' fun r w'' => ∃ a n c, r = .returned (.tuple #[.agg #[.string ⟨#[]⟩, .bool false, .slice a n c, .int .i64 0, .int .i64 0, .int .i64 0, .string ⟨#[]⟩, .int .i64 0, .int .i64 0], .int .i64 1200]) ∧ Row w'' a [] ∧ n = 0 ∧ Keeps (fun _ => False) w' w'') := by
    have h27 : X.size = 27 := by rw [← hX, ByteArray.size_append, hs]; rfl
    exact get_out X (by omega) (by omega)
  have HS : Hid (∀ w' a c, Row w' (some ⟨w.heap.size, 0, none⟩) [1, 2, 0, 258] → Row w' a [1, 2, 0, 258] → Calls Try.prog 14 #[.agg #[.string (Ent.lit w.heap.size 4 3 1 true).nm, .bool (Ent.lit w.heap.size 4 3 1 true).gn, .slice (Ent.lit w.heap.size 4 3 1 true).va (Ent.lit w.heap.size 4 3 1 true).vn (Ent.lit w.heap.size 4 3 1 true).vc, .int .i64 (Ent.lit w.heap.size 4 3 1 true).st, .int .i64 (Ent.lit w.heap.size 4 3 1 true).nd, .int .i64 (Ent.lit w.heap.size 4 3 1 true).mt, .string (Ent.lit w.heap.size 4 3 1 true).pk, .int .i64 (Ent.lit w.heap.size 4 3 1 true).sz, .int .i64 (Ent.lit w.heap.size 4 3 1 true).cr], .agg #[.string (Ent.gotten a 4 c true 3 1).nm, .bool (Ent.gotten a 4 c true 3 1).gn, .slice (Ent.gotten a 4 c true 3 1).va (Ent.gotten a 4 c true 3 1).vn (Ent.gotten a 4 c true 3 1).vc, .int .i64 (Ent.gotten a 4 c true 3 1).st, .int .i64 (Ent.gotten a 4 c true 3 1).nd, .int .i64 (Ent.gotten a 4 c true 3 1).mt, .string (Ent.gotten a 4 c true 3 1).pk, .int .i64 (Ent.gotten a 4 c true 3 1).sz, .int .i64 (Ent.gotten a 4 c true 3 1).cr]] w' fun r w'' => r = .returned (.bool true) ∧ Keeps (fun _ => False) w' w'') :=
    fun w' a c h1 h2 => sameE_yes (Ent.lit w.heap.size 4 3 1 true) (Ent.gotten a 4 c true 3 1) [1, 2, 0, 258] w' rfl rfl rfl h1 h2 (by decide)
  clear hs
  go_enter Try.func16, Try.ntmps16
  go_wp2_with (first
    | (refine wpList_alloc9 rfl rfl ?_; (fail_if_success (clear A1)); intro b1 w1 hE hK hb; have A1 : Hid (Entb w1 b1 Ent.zero ∧ Keeps (fun _ => False) (w.alloc (.cells #[.int .i64 1, .int .i64 2, .int .i64 0, .int .i64 258] 3)) w1 ∧ (w.alloc (.cells #[.int .i64 1, .int .i64 2, .int .i64 0, .int .i64 258] 3)).heap.size ≤ b1) := ⟨hE, hK, hb⟩; clear hE hK hb)
    | (refine wpList_store9 rfl _ _ rfl b1 (Ent.lit w.heap.size 4 3 1 true) rfl rfl Ent.zero ?hA ?_; (fail_if_success (clear A2)); (case hA => exact A1.out.1); intro w2 hE hK; have A2 : Hid (Entb w2 b1 (Ent.lit w.heap.size 4 3 1 true) ∧ Keeps (fun _ => False) (w.alloc (.cells #[.int .i64 1, .int .i64 2, .int .i64 0, .int .i64 258] 3)) w2) := ⟨hE, A1.out.2.1.trans hK (fun i hi h => by have := A1.out.2.2; omega)⟩; clear hE hK)
    | (refine wpList_load9 rfl _ rfl b1 0 rfl (Ent.lit w.heap.size 4 3 1 true) ?hA ?_; (case hA => exact A2.out.1.at))
    | (go_at_call 9; (fail_if_success (clear A3)); refine (HP.out w2 A2.out.2).mono ?_; rintro r w3 ⟨rfl, h⟩; have A3 : Hid (Entb w3 b1 (Ent.lit w.heap.size 4 3 1 true) ∧ Keeps (fun _ => False) (w.alloc (.cells #[.int .i64 1, .int .i64 2, .int .i64 0, .int .i64 258] 3)) w3) := ⟨A2.out.1.keptF h, A2.out.2.tr h⟩; clear h)
    | (go_at_call 11; (fail_if_success (clear A4)); refine (HG.out w3).mono ?_; rintro r w4 ⟨a4, c4, rfl, hr, h⟩; have A4 : Hid (Entb w4 b1 (Ent.lit w.heap.size 4 3 1 true) ∧ Keeps (fun _ => False) (w.alloc (.cells #[.int .i64 1, .int .i64 2, .int .i64 0, .int .i64 258] 3)) w4 ∧ Row w4 a4 [1, 2, 0, 258]) := ⟨A3.out.1.keptF h, A3.out.2.tr h, hr⟩; clear h hr)
    | (refine wpList_alloc9 rfl rfl ?_; (fail_if_success (clear A5)); intro b4 w5 hE hK hb; have A5 : Hid (Entb w5 b1 (Ent.lit w.heap.size 4 3 1 true) ∧ Keeps (fun _ => False) (w.alloc (.cells #[.int .i64 1, .int .i64 2, .int .i64 0, .int .i64 258] 3)) w5 ∧ Row w5 a4 [1, 2, 0, 258] ∧ Entb w5 b4 Ent.zero ∧ w4.heap.size ≤ b4) := ⟨A4.out.1.keptF hK, A4.out.2.1.tr hK, A4.out.2.2.keptF hK, hE, hb⟩; clear hE hK hb)
    | (refine wpList_store9 rfl _ _ rfl b4 (Ent.gotten a4 4 c4 true 3 1) rfl rfl Ent.zero ?hA ?_; (fail_if_success (clear A6)); (case hA => exact A5.out.2.2.2.1); intro w6 hE hK; have A6 : Hid (Entb w6 b1 (Ent.lit w.heap.size 4 3 1 true) ∧ Keeps (fun _ => False) (w.alloc (.cells #[.int .i64 1, .int .i64 2, .int .i64 0, .int .i64 258] 3)) w6 ∧ Row w6 a4 [1, 2, 0, 258] ∧ Entb w6 b4 (Ent.gotten a4 4 c4 true 3 1)) := ⟨A5.out.1.kept hK (by have := A4.out.1.lt; have := A5.out.2.2.2.2; omega), A5.out.2.1.trans hK (fun i hi h => by have := A4.out.2.1.size; have := A5.out.2.2.2.2; omega), A5.out.2.2.1.kept hK (fun x hx => by have := A4.out.2.2.lt (by decide) x hx; have := A5.out.2.2.2.2; omega), hE⟩; clear hE hK)
    | (go_at_call 11; (fail_if_success (clear A7)); refine (HX.out w6).mono ?_; rintro r w7 ⟨a6, n6, c6, rfl, hr, h0, h⟩; have A7 : Hid (Entb w7 b1 (Ent.lit w.heap.size 4 3 1 true) ∧ Keeps (fun _ => False) (w.alloc (.cells #[.int .i64 1, .int .i64 2, .int .i64 0, .int .i64 258] 3)) w7 ∧ Row w7 a4 [1, 2, 0, 258] ∧ Entb w7 b4 (Ent.gotten a4 4 c4 true 3 1)) := ⟨A6.out.1.keptF h, A6.out.2.1.tr h, A6.out.2.2.1.keptF h, A6.out.2.2.2.keptF h⟩; clear h hr h0)
    | (refine wpList_alloc9 rfl rfl ?_; (fail_if_success (clear A8)); intro b6 w8 hE hK hb; have A8 : Hid (Entb w8 b1 (Ent.lit w.heap.size 4 3 1 true) ∧ Keeps (fun _ => False) (w.alloc (.cells #[.int .i64 1, .int .i64 2, .int .i64 0, .int .i64 258] 3)) w8 ∧ Row w8 a4 [1, 2, 0, 258] ∧ Entb w8 b4 (Ent.gotten a4 4 c4 true 3 1) ∧ Entb w8 b6 Ent.zero ∧ w7.heap.size ≤ b6) := ⟨A7.out.1.keptF hK, A7.out.2.1.tr hK, A7.out.2.2.1.keptF hK, A7.out.2.2.2.keptF hK, hE, hb⟩; clear hE hK hb)
    | (refine wpList_store9 rfl _ _ rfl b6 (Ent.gotten a6 n6 c6 false 0 0) rfl rfl Ent.zero ?hA ?_; (fail_if_success (clear A9)); (case hA => exact A8.out.2.2.2.2.1); intro w9 hE hK; have A9 : Hid (Entb w9 b1 (Ent.lit w.heap.size 4 3 1 true) ∧ Keeps (fun _ => False) (w.alloc (.cells #[.int .i64 1, .int .i64 2, .int .i64 0, .int .i64 258] 3)) w9 ∧ Row w9 a4 [1, 2, 0, 258] ∧ Entb w9 b4 (Ent.gotten a4 4 c4 true 3 1)) := ⟨A8.out.1.kept hK (by have := A7.out.1.lt; have := A8.out.2.2.2.2.2; omega), A8.out.2.1.trans hK (fun i hi h => by have := A7.out.2.1.size; have := A8.out.2.2.2.2.2; omega), A8.out.2.2.1.kept hK (fun x hx => by have := A7.out.2.2.1.lt (by decide) x hx; have := A8.out.2.2.2.2.2; omega), A8.out.2.2.2.1.kept hK (by have := A7.out.2.2.2.lt; have := A8.out.2.2.2.2.2; omega)⟩; clear hE hK)
    | (go_at_call 9; (fail_if_success (clear A10)); refine (HZ.out w9).mono ?_; rintro r w10 ⟨u10, rfl, h⟩; have A10 : Hid (Entb w10 b1 (Ent.lit w.heap.size 4 3 1 true) ∧ Keeps (fun _ => False) (w.alloc (.cells #[.int .i64 1, .int .i64 2, .int .i64 0, .int .i64 258] 3)) w10 ∧ Row w10 a4 [1, 2, 0, 258] ∧ Entb w10 b4 (Ent.gotten a4 4 c4 true 3 1)) := ⟨A9.out.1.keptF h, A9.out.2.1.tr h, A9.out.2.2.1.keptF h, A9.out.2.2.2.keptF h⟩; clear h)
    | (go_at_call 13; refine (num_any _ _).mono ?_; rintro e w' ⟨rfl, hw⟩; obtain rfl := hw.symm; clear hw)
    | (refine wpList_load9w _ rfl b1 0 rfl rfl (Ent.lit w.heap.size 4 3 1 true) ?hA ?_; (case hA => exact A10.out.1.at))
    | (refine wpList_load9w _ rfl b4 0 rfl rfl (Ent.gotten a4 4 c4 true 3 1) ?hA ?_; (case hA => exact A10.out.2.2.2.at))
    | (go_at_call 14; refine (HS.out w10 a4 c4 ((HR.out w10 A10.out.2.1).1) A10.out.2.2.1).mono ?_; rintro r w11 ⟨rfl, h⟩; have A11 : Hid (Keeps (fun _ => False) w w11) := ((Keeps.refl (fun _ => False) w).alloc _).tr (A10.out.2.1.tr h); clear h))
  go_ret
  exact ⟨rfl, A11.out⟩

end Go.Proofs.Ytapbjkhbnehllaa
