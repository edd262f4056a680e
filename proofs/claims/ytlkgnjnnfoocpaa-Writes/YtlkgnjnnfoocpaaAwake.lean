/-
  awake returns true in every world and turns nothing that was there.
-/
import Derived.Test.YtlkgnjnnfoocpaaGets
namespace Go.Proofs.Ytlkgnjnnfoocpaa
open Go.RowKit
set_option linter.unusedVariables false
set_option linter.unusedSimpArgs false

theorem new_ok (w : World) :
    Calls Try.prog 8 #[] w fun e w' => e = .returned (.pointer (some ⟨w.heap.size, 0, none⟩)) ∧ Wr 59 w' w.heap.size none [] ∧ Keeps (fun _ => False) w w' := by
  refine (new_any w).mono ?_
  rintro e w' ⟨rfl, rfl⟩
  refine ⟨rfl, ⟨none, 0, ?_, World.ownsRow_nil _ _ _ _, rfl⟩, (Keeps.refl _ w).alloc _⟩
  exact heap_alloc_new w _

theorem of_ok (s : ByteArray) (w : World) :
    Calls Try.prog 17 #[.string s] w fun e w' => e = .returned (.pointer (some ⟨w.heap.size, 0, none⟩)) ∧ Rd 64 w' w.heap.size s 0 ∧ Keeps (fun _ => False) w w' := by
  refine (of_any s w).mono ?_
  rintro e w' ⟨rfl, rfl⟩
  exact ⟨rfl, heap_alloc_new w _, (Keeps.refl _ w).alloc _⟩

theorem put_okI (b : Nat) (o : Option Nat) (L : List Bool) (x k : Int) (w : World) (hW : Hid (Wr 59 w b o L)) (hk0 : 0 ≤ k) (hk : k ≤ 16) (hx0 : 0 ≤ x) (hx : x < 2 ^ k.toNat) (hL : L.length + k.toNat ≤ 65536) :
    Calls Try.prog 10 #[.pointer (some ⟨b, 0, none⟩), .int .i64 x, .int .i64 k] w fun e w' => e = .returned (.int .i64 0) ∧ Onto 59 w w' b o (L ++ bitsOf x.toNat k.toNat) := by
  obtain ⟨n, rfl⟩ := Int.eq_ofNat_of_zero_le hk0
  obtain ⟨v, rfl⟩ := Int.eq_ofNat_of_zero_le hx0
  exact put_ok b o L v n w hk (by rw [Int.toNat_natCast] at hx; exact_mod_cast hx) hL hW

theorem code_okI (b : Nat) (o : Option Nat) (L : List Bool) (x k : Int) (w : World) (hW : Hid (Wr 59 w b o L)) (hk0 : 1 ≤ k) (hk : k ≤ 15) (hx0 : 0 ≤ x) (hx : x < 2 ^ k.toNat) (hL : L.length + k.toNat ≤ 65536) :
    Calls Try.prog 12 #[.pointer (some ⟨b, 0, none⟩), .agg #[.int .i64 k, .int .i64 x]] w fun e w' => e = .returned (.int .i64 0) ∧ Onto 59 w w' b o (L ++ codeOf x.toNat k.toNat) := by
  obtain ⟨n, rfl⟩ := Int.eq_ofNat_of_zero_le (show 0 ≤ k by omega)
  obtain ⟨v, rfl⟩ := Int.eq_ofNat_of_zero_le hx0
  exact code_ok b o L v n w hk0 hk (by rw [Int.toNat_natCast] at hx; exact_mod_cast hx) hL hW

theorem get_okI (b p : Nat) (k : Int) (s : ByteArray) (w : World) (hR : Hid (Rd 64 w b s p)) (hk0 : 0 ≤ k) (hk : k ≤ 16) (hs : s.size ≤ 140737488355328) (hp : p + k.toNat ≤ 8 * s.size) :
    Calls Try.prog 22 #[.pointer (some ⟨b, 0, none⟩), .int .i64 k] w fun e w' => e = .returned (.tuple #[.int .i64 ((val (readBits (bytesOf s) p k.toNat) : Nat) : Int), .int .i64 0]) ∧ Read 64 w w' b s (p + k.toNat) := by
  obtain ⟨n, rfl⟩ := Int.eq_ofNat_of_zero_le hk0
  exact get_ok b p n s w hk (by omega) (by rw [Int.toNat_natCast] at hp; omega) hR


theorem keep_wr {T : TypeId} {w w1 w2 : World} {b : Nat} {o : Option Nat} {L : List Bool} (hk : Keeps (fun _ => False) w w1) (hW : Wr T w1 b o L) (hb : w.heap.size ≤ b) (h : Keeps (fun k => k = b ∨ o = some k) w1 w2) : Keeps (fun _ => False) w w2 :=
  hk.trans h (fun i hi h' => by
    rcases h' with h' | h'
    · omega
    · have := hW.own i h'; omega)
theorem keep_rd {w w1 w2 : World} {b : Nat} (hk : Keeps (fun _ => False) w w1) (hb : w.heap.size ≤ b) (h : Keeps (fun k => k = b) w1 w2) : Keeps (fun _ => False) w w2 :=
  hk.trans h (fun i hi h' => by omega)
theorem keep_none {S : Nat → Prop} {w w1 w2 : World} (hk : Keeps S w w1) (h : Keeps (fun _ => False) w1 w2) : Keeps S w w2 := hk.trans h (fun _ _ h => h.elim)

/-- The bits that 'awake' writes. -/
def awakeBits : List Bool := [true, false, true, false, false, true, false, false]

set_option maxHeartbeats 1000000 in
set_option maxRecDepth 100000 in
theorem awake_ok (w : World) : Calls Try.prog 25 #[] w fun e w' => e = .returned (.bool true) ∧ Keeps (fun _ => False) w w' := by
  go_enter Try.func25, Try.ntmps25
  go_wp2_with fail
  refine (new_ok _).mono ?_
  rintro e w1 ⟨rfl, hw1, hk1⟩
  have HW1 : Hid (Wr 59 w1 w.heap.size none []) := hw1
  have HK1 : Hid (Keeps (fun _ => False) w w1) := hk1
  clear hw1 hk1
  go_wp2_with fail
  refine (put_okI _ none [] 5 3 w1 HW1 (by decide) (by decide) (by decide) (by decide) (by decide)).mono ?_
  rintro e w2 ⟨rfl, o2, hw2, ho2, hk2⟩
  have HW2 : Hid (Wr 59 w2 w.heap.size o2 [true, false, true]) := hw2
  have HK2 : Hid (Keeps (fun _ => False) w w2) := keep_wr HK1.out HW1.out (Nat.le_refl _) hk2
  clear hw2 ho2 hk2 HW1 HK1
  go_wp2_with fail
  refine (code_okI _ o2 [true, false, true] 1 3 w2 HW2 (by decide) (by decide) (by decide) (by decide) (by decide)).mono ?_
  rintro e w3 ⟨rfl, o3, hw3, ho3, hk3⟩
  have HW3 : Hid (Wr 59 w3 w.heap.size o3 [true, false, true, false, false, true]) := hw3
  have HK3 : Hid (Keeps (fun _ => False) w w3) := keep_wr HK2.out HW2.out (Nat.le_refl _) hk3
  clear hw3 ho3 hk3 HW2 HK2
  go_wp2_with fail
  refine (walign_ok _ o3 [true, false, true, false, false, true] w3 (by decide) HW3.out).mono ?_
  rintro e w4 ⟨rfl, o4, hw4, ho4, hk4⟩
  have HW4 : Hid (Wr 59 w4 w.heap.size o4 awakeBits) := hw4
  have HK4 : Hid (Keeps (fun _ => False) w w4) := keep_wr HK3.out HW3.out (Nat.le_refl _) hk4
  clear hw4 ho4 hk4 HW3 HK3
  go_wp2_with fail
  refine (put_bad _ o4 awakeBits 2 1 w4 HW4.out (by decide) (by decide)).mono ?_
  rintro e w' ⟨rfl, hw⟩
  obtain rfl := hw.symm
  clear hw
  go_wp2_with fail
  refine (text_ok _ o4 awakeBits w4 HW4.out).mono ?_
  rintro e w' ⟨rfl, hw⟩
  obtain rfl := hw.symm
  clear hw
  have htx : textOf (pack awakeBits) = ⟨#[37]⟩ := by decide
  rw [htx]
  clear htx
  go_wp2_with fail
  refine (of_ok ⟨#[37]⟩ w4).mono ?_
  rintro e w5 ⟨rfl, hr5, hk5⟩
  have hrb : w.heap.size < w4.heap.size := HW4.out.lt
  have HO : Hid (∀ k, o4 = some k → k < w4.heap.size) := fun k hk => (HW4.out.own k hk).2
  have HR5 : Hid (Rd 64 w5 w4.heap.size ⟨#[37]⟩ 0) := hr5
  have HW5 : Hid (Wr 59 w5 w.heap.size o4 awakeBits) := HW4.out.kept hk5 (fun h => h) (fun _ _ h => h)
  have HK5 : Hid (Keeps (fun _ => False) w w5) := keep_none HK4.out hk5
  clear hr5 hk5 HW4 HK4
  generalize w4.heap.size = rb at *
  go_wp2_with fail
  refine (get_okI rb 0 3 ⟨#[37]⟩ w5 HR5 (by decide) (by decide) (by decide) (by decide)).mono ?_
  rintro e w6 ⟨rfl, hr6, hk6⟩
  have HR6 : Hid (Rd 64 w6 rb ⟨#[37]⟩ 3) := hr6
  have HW6 : Hid (Wr 59 w6 w.heap.size o4 awakeBits) := HW5.out.kept hk6 (by omega) (fun k hk => by have := HO.out k hk; omega)
  have HK6 : Hid (Keeps (fun _ => False) w w6) := keep_rd HK5.out (by omega) hk6
  clear hr6 hk6 HR5 HW5 HK5
  rw [show val (readBits (bytesOf ⟨#[37]⟩) 0 (Int.toNat 3)) = 5 by decide]
  go_wp2_with fail
  refine (get_okI rb 3 1 ⟨#[37]⟩ w6 HR6 (by decide) (by decide) (by decide) (by decide)).mono ?_
  rintro e w7 ⟨rfl, hr7, hk7⟩
  have HR7 : Hid (Rd 64 w7 rb ⟨#[37]⟩ 4) := hr7
  have HW7 : Hid (Wr 59 w7 w.heap.size o4 awakeBits) := HW6.out.kept hk7 (by omega) (fun k hk => by have := HO.out k hk; omega)
  have HK7 : Hid (Keeps (fun _ => False) w w7) := keep_rd HK6.out (by omega) hk7
  clear hr7 hk7 HR6 HW6 HK6
  rw [show val (readBits (bytesOf ⟨#[37]⟩) 3 (Int.toNat 1)) = 0 by decide]
  go_wp2_with fail
  refine (ralign_ok rb 4 ⟨#[37]⟩ w7 (by decide) (by decide) HR7.out).mono ?_
  rintro e w8 ⟨rfl, hr8, hk8⟩
  have HR8 : Hid (Rd 64 w8 rb ⟨#[37]⟩ 8) := hr8
  have HW8 : Hid (Wr 59 w8 w.heap.size o4 awakeBits) := HW7.out.kept hk8 (by omega) (fun k hk => by have := HO.out k hk; omega)
  have HK8 : Hid (Keeps (fun _ => False) w w8) := keep_rd HK7.out (by omega) hk8
  clear hr8 hk8 HR7 HW7 HK7
  go_wp2_with fail
  refine (get_end rb 8 1 ⟨#[37]⟩ w8 (by decide) (by decide) (by decide) (by decide) (by decide) HR8.out).mono ?_
  rintro e w9 ⟨rfl, hr9, hk9⟩
  have HR9 : Hid (Rd 64 w9 rb ⟨#[37]⟩ 8) := hr9
  have HW9 : Hid (Wr 59 w9 w.heap.size o4 awakeBits) := HW8.out.kept hk9 (by omega) (fun k hk => by have := HO.out k hk; omega)
  have HK9 : Hid (Keeps (fun _ => False) w w9) := keep_rd HK8.out (by omega) hk9
  clear hr9 hk9 HR8 HW8 HK8
  go_wp2_with fail
  refine (get_out rb 17 w9 (by decide)).mono ?_
  rintro e w' ⟨rfl, hw⟩
  obtain rfl := hw.symm
  clear hw
  go_wp2_with fail
  refine (get_nil 1 w9).mono ?_
  rintro e w' ⟨rfl, hw⟩
  obtain rfl := hw.symm
  clear hw
  have hlen := len_ok w.heap.size o4 awakeBits w9 HW9.out
  rw [show awakeBits.length = 8 from rfl] at hlen
  have hat := at_ok rb 8 ⟨#[37]⟩ w9 HR9.out
  have HLEN : Hid (Calls Try.prog 16 #[.pointer (some ⟨w.heap.size, 0, none⟩)] w9 fun e w' => e = .returned (.int .i64 8) ∧ w' = w9) := hlen
  have HAT : Hid (Calls Try.prog 24 #[.pointer (some ⟨rb, 0, none⟩)] w9 fun e w' => e = .returned (.int .i64 8) ∧ w' = w9) := hat
  clear hlen hat
  go_wp2_with (first | (go_at_call 9; refine (num_any _ _).mono ?_; rintro e w' ⟨rfl, hw⟩; obtain rfl := hw.symm; clear hw) | (go_at_call 16; refine HLEN.out.mono ?_; rintro e w' ⟨rfl, hw⟩; obtain rfl := hw.symm; clear hw) | (go_at_call 24; refine HAT.out.mono ?_; rintro e w' ⟨rfl, hw⟩; obtain rfl := hw.symm; clear hw) | (go_at_call 10; refine (put_nil _ _ _).mono ?_; rintro e w' ⟨rfl, hw⟩; obtain rfl := hw.symm; clear hw) | (go_at_call 18; refine (text_nil _).mono ?_; rintro e w' ⟨rfl, hw⟩; obtain rfl := hw.symm; clear hw))
  go_ret
  exact ⟨rfl, HK9.out⟩

end Go.Proofs.Ytlkgnjnnfoocpaa
