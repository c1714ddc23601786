/- The walk of the law GaloisSquares: the square of a sum is the sum of the squares, the square is the product with itself, and the 256th power is the number. -/
import Derived.Test.YtolgpepnjinfgabDoorGa
namespace Go.Proofs.YtolgpepnjinfgabDoor
open Go.RowKit

theorem powI_two (a : Nat) (ha : (a : Int) < 256) : Gf.powI a 2 = Gf.mul a a := congrArg (Gf.mul a) (Gf.mul_one a (by omega))
theorem powI_256 (a : Nat) (ha : (a : Int) < 256) : Gf.powI a 256 = a := by
  by_cases h : a = 0
  · subst h; exact Gf.zero_mul _
  · have : Gf.powI a 256 = Gf.mul a (Gf.pow a 255) := rfl
    rw [this, Gf.pow_255 a (by omega) h, Gf.mul_one a (by omega)]
theorem neq_false {x y : Nat} (h : x = y) : ((x : Int) != (y : Int)) = false := by rw [h]; exact bne_self_eq_false _
theorem eq_true {x y : Nat} (h : x = y) : ((x : Int) == (y : Int)) = true := by rw [h]; exact beq_self_eq_true _
theorem xor_lt8 (b c : Nat) (hb : (b : Int) < 256) (hc : (c : Int) < 256) : b ^^^ c < 256 := Nat.xor_lt_two_pow (n := 8) (by omega) (by omega)
theorem powI_lt (a : Nat) (n : Int) (ha : (a : Int) < 256) : Gf.powI a n < 256 := Gf.pow_lt a (by omega) _
theorem pow2_any (a : Nat) (w : World) (ha : (a : Int) < 256) (hp : Pows w) :
    Calls Tryd.prog 9 #[.int .u8 a, .int .i64 2] w fun e w' => e = .returned (.int .u8 (Gf.powI a 2)) ∧ ∃ n, w' = w.drewN n :=
  pow_any a 2 w ha (show (2 : Int) < 9223372036854775808 by omega) hp
theorem pow256_any (a : Nat) (w : World) (ha : (a : Int) < 256) (hp : Pows w) :
    Calls Tryd.prog 9 #[.int .u8 a, .int .i64 256] w fun e w' => e = .returned (.int .u8 (Gf.powI a 256)) ∧ ∃ n, w' = w.drewN n :=
  pow_any a 256 w ha (show (256 : Int) < 9223372036854775808 by omega) hp

set_option maxRecDepth 100000 in
set_option maxHeartbeats 800000 in
theorem squares_walk (a b : Nat) (w : World) (ha : (a : Int) < 256) (hb : (b : Int) < 256) (hp : Pows w) :
    Calls Tryd.prog 3 #[.int .u8 a, .int .u8 b] w fun e w' => e = .returned (.bool true) ∧ ∃ n, w' = w.drewN n := by
  have l1 := xor_lt8 a b ha hb
  have l2 := powI_lt a 2 ha
  have l3 := powI_lt b 2 hb
  have f1 : ((Gf.powI (a ^^^ b) 2 : Nat) : Int) == ((Gf.powI a 2 ^^^ Gf.powI b 2 : Nat) : Int) := eq_true (by rw [powI_two _ (by omega), powI_two _ ha, powI_two _ hb]; exact Gf.square_xor a b (by omega) (by omega))
  have f2 := eq_true (powI_two a ha)
  have f3 := eq_true (powI_256 a ha)
  go_enter Tryd.func3, Tryd.ntmps3
  go_wp2_with fail
  refine (add_nat a b _ ha hb).mono ?_
  rintro e w' ⟨rfl, rfl⟩
  go_wp2_with fail
  refine (pow2_any (a ^^^ b) _ (by omega) hp).mono ?_
  rintro e w' ⟨rfl, m1, rfl⟩
  go_wp2_with fail
  refine (pow2_any a _ ha (hp.drewN _)).mono ?_
  rintro e w' ⟨rfl, m2, rfl⟩
  go_wp2_with fail
  refine (pow2_any b _ hb (hp.drewN _)).mono ?_
  rintro e w' ⟨rfl, m3, rfl⟩
  go_wp2_with fail
  refine (add_nat (Gf.powI a 2) (Gf.powI b 2) _ (by omega) (by omega)).mono ?_
  rintro e w' ⟨rfl, rfl⟩
  go_wp2_with fail
  refine (pow2_any a _ ha (hp.drewN _)).mono ?_
  rintro e w' ⟨rfl, m4, rfl⟩
  go_wp2_with fail
  refine (mul_nat a a _ ha ha (hp.drewN _)).mono ?_
  rintro e w' ⟨rfl, m5, rfl⟩
  go_wp2_with fail
  refine (pow256_any a _ ha (hp.drewN _)).mono ?_
  rintro e w' ⟨rfl, m6, rfl⟩
  go_wp2_with fail
  go_ret
  exact ⟨rfl, _, rfl⟩
end Go.Proofs.YtolgpepnjinfgabDoor
