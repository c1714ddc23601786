/- stripe.Join of one shard of a blob of code {1, 1}. -/
import Derived.Test.YtmncocmeafcpfaaDoorMb
import Derived.Test.YtmncocmeafcpfaaDoorMfS3
namespace Go.Proofs.YtmncocmeafcpfaaDoor
set_option linter.unusedVariables false
set_option linter.unusedSimpArgs false
open Go.RowKit Go.Deep

abbrev L10 : Nat → Nat := fun r => if r = 0 then 8 else 0
theorem join1 (w : World) (g cs n : Nat) (ps : Option Addr) (xs : List Nat) (lg : Lv w g [.slice ps 8 cs, .slice none 0 0]) (hx : Rb w ps 8 xs) (h1 : 1 ≤ n) (h8 : n ≤ 8) (hp : Mf.Pows w) :
    Calls Tryd.prog 115 #[.agg #[.int .i64 1, .int .i64 1], .int .i64 (n : Int), .slice (some ⟨g, 0, none⟩) 2 2] w fun e w' => ∃ jb, e = .returned (.tuple #[.slice (some ⟨jb, 0, none⟩) n n, .int .i64 0]) ∧ Kp (fun _ => False) w w' ∧ Rb w' (some ⟨jb, 0, none⟩) n (xs.take n) := by
  obtain ⟨pb, po, rfl, hc⟩ := hx.pt (by omega)
  have hL : Mf.lenOf 1 n = 8 := by
    unfold Mf.lenOf Mf.stripesOf
    omega
  let s : Mf.Sh := ⟨some ⟨g, 0, none⟩, 2, 2, g, 0, fun r => if r = 0 then some ⟨pb, po, none⟩ else none, L10, fun r => if r = 0 then cs else 0, fun _ => pb, fun _ => po, fun r c => if r = 0 then xs.getD c 0 else 0⟩
  have hs : Mf.Rd w s := by
    refine ⟨fun _ => rfl, fun r hr => ?_, fun r hr c hcc => ?_, fun r hr c hcc => ?_, fun r c => ?_⟩
    · have hr2 : r < 2 := hr
      rcases r with _ | _ | r
      · exact lg.cell (j := 0) rfl
      · exact lg.cell (j := 1) rfl
      · omega
    · have hr2 : r < 2 := hr
      rcases r with _ | _ | r
      · rfl
      · exact absurd hcc (show ¬ c < 0 by omega)
      · omega
    · have hr2 : r < 2 := hr
      rcases r with _ | _ | r
      · exact hc c hcc
      · exact absurd hcc (show ¬ c < 0 by omega)
      · omega
    · show (if r = 0 then xs.getD c 0 else 0) < 256
      split
      · exact hx.byteAt c
      · omega
  have hf : Mf.firstK L10 2 1 = [0] := by decide
  refine (Mf.join_yes 1 1 n s w hs rfl (by decide) (by decide) (by omega) (fun r hr => ?_) (show Mf.alikeTo L10 2 2 = true by decide) (show 1 ≤ (Mf.thereTo L10 2).length by decide) (by rw [hL]; show Mf.len0 L10 2 = 8; decide) hp).mono ?_
  · rw [hL]
    rcases r with _ | _ | r
    · show Mf.oddLen 8 8 = false; decide
    · show Mf.oddLen 0 8 = false; decide
    · omega
  rintro e w' ⟨jb, W, rfl, hk, hE, hrow⟩
  refine ⟨jb, rfl, kp_of hk, by rw [List.length_take, hx.len]; omega, fun x hx' => hx.byte x (List.mem_of_mem_take hx'), fun j hj => ⟨jb, 0, rfl, ?_⟩⟩
  have := hrow.cell (i := j) hj
  rw [Nat.zero_add, this]
  have hD : ∀ i j : Nat, (fun _ c => xs.getD c 0 : Nat → Nat → Nat) i j < 256 := fun i j => hx.byteAt j
  have hdec := Mf.decM_enc (K := 1) (D := fun _ c => xs.getD c 0) hD (xs := Mf.firstK s.L (1 + 1) 1) hE (M := s.M) (p := Mf.seatAt 1 j) (fun i hi => by
    obtain rfl : i = 0 := by omega
    have hf' : Mf.firstK s.L (1 + 1) 1 = [0] := hf
    rw [hf']
    show (if (0 : Nat) = 0 then xs.getD _ 0 else 0) = Mf.enc 1 _ 0 _
    rw [Mf.enc_data hD (by decide)]
    rfl) (fun r => r) (Mf.seatK 1 j)
  have e1 : Mf.seatK 1 j = 0 := by unfold Mf.seatK; omega
  have e2 : Mf.seatAt 1 j = j := by unfold Mf.seatAt; omega
  show some (Value.int .u8 ((Mf.decM 1 s.M (Mf.firstK s.L (1 + 1) 1) W (fun r => r) (Mf.seatK 1 j) (Mf.seatAt 1 j) : Nat) : Int)) = _
  rw [hdec, e1, e2, Mf.enc_data hD (by decide)]
  rw [List.getD_eq_getElem?_getD, List.getD_eq_getElem?_getD, List.getElem?_take_of_lt hj]
end Go.Proofs.YtmncocmeafcpfaaDoor
