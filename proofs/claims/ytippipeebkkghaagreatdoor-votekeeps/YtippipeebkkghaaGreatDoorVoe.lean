/- Votes that are read: readVote, may. -/
import Derived.Test.YtippipeebkkghaaGreatDoorVod
import Derived.Test.YtippipeebkkghaaGreatDoorVop
import Derived.Test.YtippipeebkkghaaGreatDoorQy
namespace Go.Proofs.YtippipeebkkghaaGreatDoor
set_option linter.unusedVariables false
set_option linter.unusedSimpArgs false
open Go.RowKit Go.Deep

abbrev zeroVo : Array Value := #[.int .i64 0, .int .i64 0, .int .i64 0, .int .i64 0, .string ⟨#[]⟩, .int .i64 0, .int .i64 0, .int .i64 0, .int .i64 0, .int .i64 0, .int .u32 0, .int .i64 0, .int .i64 0, .slice none 0 0]

/-- a vote for a command of an ID alone -/
abbrev voI (s : Int) (b : Nat) : Vo := ⟨s, (b : Int), cId b, []⟩

set_option maxRecDepth 100000 in
set_option maxHeartbeats 1600000 in
theorem readVote_ok (s : Int) (p : Option Addr) (n c b : Nat) (w : World) (h : Rb w p n (votB b)) (hc : n ≤ c) (hb : 1 ≤ b ∧ b ≤ 20) (hcap : c ≤ 9223372036854775807) :
    Calls Tryz.prog 37 #[.int .i64 s, .slice p n c] w fun e w' => ∃ q cap, e = .returned (.tuple #[.agg (vcell (voI s b) (.slice q 0 cap)).toArray, .bool true]) ∧ Kp (fun _ => False) w w' := by
  obtain ⟨h0, hh0⟩ : ∃ y, y = w.heap.size := ⟨_, rfl⟩
  obtain ⟨w0, hw0⟩ : ∃ y, y = w.alloc (.cells zeroVo 59) := ⟨_, rfl⟩
  have HK0 : Hid (Kp (fun _ => False) w w0) := by rw [hw0]; exact (Kp.refl _ _).alloc _
  have HL0 : Hid (Lv w0 h0 zeroVo.toList) := by rw [hw0, hh0]; exact Lv.new _ _ _
  have hn := h.len
  rw [votB_eq hb.1 hb.2] at hn
  have hn : n = 15 := hn.symm
  have HRR : Hid (Calls _ _ _ w0 _) := readRank_one p n c b (cmdV b) w0 (h.keep0 HK0.out) hc hb (by omega)
  have HB : Hid (h0 = w.heap.size ∧ b ≤ 20 ∧ c ≤ 9223372036854775807) := ⟨hh0, hb.2, hcap⟩
  have hb0 : ¬ ((b : Int) = 0) := by omega
  have hb1 : ((b : Int) == 0) = false := by simpa using hb0
  clear h hc hb hn hcap
  go_enter Tryz.func37, Tryz.ntmps37
  go_upto_region 1 with fail
  rw [← hw0, ← hh0]
  clear hw0 hh0
  go_wp2_with fail
  refine HRR.out.mono ?_
  rintro e9 w1 ⟨q, m, cq, rfl, k1, hm, r1, hmc, hcc⟩
  obtain ⟨g1, hg1⟩ : ∃ y, y = w1.heap.size := ⟨_, rfl⟩
  have HG1 : Hid (g1 = w1.heap.size) := hg1
  obtain ⟨w2, hw2⟩ : ∃ y, y = w1.alloc (.cells #[.int .i64 (b : Int)] 68) := ⟨_, rfl⟩
  have k2 : Kp (fun _ => False) w1 w2 := by rw [hw2]; exact (Kp.refl _ _).alloc _
  have HK2 : Hid (Kp (fun _ => False) w0 w2) := k1.trans k2 (fun _ _ e => e)
  have HL2 : Hid (Lv w2 g1 [.int .i64 (b : Int)]) := by rw [hw2, hg1]; exact Lv.new _ _ _
  have HRc : Hid (Calls _ _ _ w2 _) := readcmd_ok q m cq (cmdV b) w2 (r1.keep0 k2) hmc (by have := HB.out.2.2; omega)
  have c2 : w2.cell? ⟨g1, 0, none⟩ = some (.int .i64 (b : Int)) := HL2.out.cell (j := 0) rfl
  clear k1 hm r1 hmc hcc k2 HRR
  have hok := okC_id HB.out.2.1
  go_upto_region 2 with fail
  rw [← hg1, ← hw2]
  clear hw2 hg1
  go_wp2_with fail
  refine HRc.out.mono ?_
  rintro e9 w3 ⟨hr, k3⟩
  unfold AtRes at hr
  rw [hok] at hr
  obtain ⟨q9, cap9, rfl, _⟩ := hr
  have e9 : (cPl b).nodes.length = 0 := rfl
  rw [csOf_id, e9]
  have HK3 : Hid (Kp (fun _ => False) w0 w3) := HK2.out.trans k3 (fun _ _ e => e)
  have HL3 : Hid (Lv w3 g1 [.int .i64 (b : Int)]) := HL2.out.keep k3 id
  clear k3 HRc hok e9 c2
  have hg3 : g1 < w3.heap.size := HL3.out.lt (by simp)
  have hh3 : h0 < w3.heap.size := Nat.lt_of_lt_of_le (HL0.out.lt (by simp)) HK3.out.size
  go_upto_region 5 with (refine wpList_store_all rfl 31 _ _ rfl 12 w3.heap.size zeroC.toList (cmdA (cId b) (.slice q9 0 cap9)).toList rfl rfl (Lv.new w3 _ _) szCmd rfl rfl (cmd_one (cId b) (v := .slice q9 0 cap9) rfl) ?_; intro w4 hl4 k4)
  have ka : Kp (fun _ => False) w3 (w3.alloc (.cells zeroC 31)) := (Kp.refl _ _).alloc _
  have HC4 : Hid (Lv w4 w3.heap.size (cmdA (cId b) (.slice q9 0 cap9)).toList) := hl4
  have HL4 : Hid (Lv w4 h0 zeroVo.toList) := ((HL0.out.keep HK3.out id).keep ka id).keep k4 (fun e => by omega)
  have hr4 : Lv w4 g1 [.int .i64 (b : Int)] := (HL3.out.keep ka id).keep k4 (fun e => by omega)
  have c4 : w4.cell? ⟨g1, 0, none⟩ = some (.int .i64 (b : Int)) := hr4.cell (j := 0) rfl
  have HK4 : Hid (Kp (fun _ => False) w w4) := ((HK0.out.trans HK3.out (fun _ _ e => e)).trans ka (fun _ _ e => e)).trans k4 (fun b9 hb e => by have := HK0.out.size; have := HK3.out.size; have e' : b9 = w3.heap.size := e; omega)
  obtain ⟨g4, hg4⟩ : ∃ y, y = w3.heap.size := ⟨_, rfl⟩
  rw [← hg4] at HC4
  rw [← hg4]
  have HOv : Hid ((vcell (voI s b) (.slice q9 0 cap9)).toArray.all (·.oneCell') = true) := vcell_one _ rfl
  clear hl4 k4 ka hr4 HL3 HK3 HK2 HL2 hg3 hh3 hg4
  go_wp2_with (first
    | (refine wpList_load_all rfl 31 _ rfl 12 g4 (cmdA (cId b) (.slice q9 0 cap9)).toList rfl HC4.out dsCmd szCmd rfl ?_)
    | (refine wpList_store_all rfl 59 _ _ rfl 14 h0 zeroVo.toList (vcell (voI s b) (.slice q9 0 cap9)) rfl rfl HL4.out szVote rfl rfl HOv.out ?_; intro w5 hl5 k5))
  refine bodyPost_ret (res_cell_tmp Tryz.results37 _ _ h0 _ rfl (hl5.load dsVote szVote rfl)) rfl ?_
  exact ⟨⟨q9, cap9, rfl⟩, HK4.out.trans k5 (fun b9 hb e => by have e' : b9 = h0 := e; have := HB.out.1; omega)⟩
set_option maxRecDepth 100000 in
set_option maxHeartbeats 1600000 in
theorem mayV_ok (s : Int) (hs : ¬ s = 0) (p : Option Addr) (n c b : Nat) (w : World) (h : Rb w p n (votB b)) (hc : n ≤ c) (hb : 1 ≤ b ∧ b ≤ 20) (hcap : c ≤ 9223372036854775807) :
    Calls Tryz.prog 34 #[.int .i64 s, .slice p n c] w fun e w' => e = .returned (.bool true) ∧ Kp (fun _ => False) w w' := by
  have HRV : Hid (Calls _ _ _ w _) := readVote_ok s p n c b w h hc hb hcap
  have hs1 : (s == 0) = false := by simpa using hs
  clear h hc hb hcap
  go_enter Tryz.func34, Tryz.ntmps34
  go_wp2_with fail
  refine HRV.out.mono ?_
  rintro e9 w1 ⟨q, cap, rfl, k1⟩
  have HK1 : Hid (Kp (fun _ => False) w w1) := k1
  have HW1 : Hid (w.heap.size ≤ w1.heap.size) := k1.size
  have HOv : Hid ((vcell (voI s b) (.slice q 0 cap)).toArray.all (·.oneCell') = true) := vcell_one _ rfl
  clear k1 HRV
  go_upto_region 3 with (refine wpList_store_all rfl 59 _ _ rfl 14 w1.heap.size zeroVo.toList (vcell (voI s b) (.slice q 0 cap)) rfl rfl (Lv.new w1 _ _) szVote rfl rfl HOv.out ?_; intro w5 hl5 k5)
  have ka : Kp (fun _ => False) w1 (w1.alloc (.cells zeroVo 59)) := (Kp.refl _ _).alloc _
  have HK5 : Hid (Kp (fun _ => False) w w5) := (HK1.out.trans ka (fun _ _ e => e)).trans k5 (fun b9 hb e => by have e' : b9 = w1.heap.size := e; have := HW1.out; omega)
  clear hl5 k5 ka
  go_wp2_with fail
  go_ret
  exact ⟨rfl, HK5.out⟩

set_option maxRecDepth 100000 in
set_option maxHeartbeats 1600000 in
theorem mayP_ok (p : Option Addr) (n c b : Nat) (w : World) (h : Rb w p n [1, b]) (hc : n ≤ c) (hb : 1 ≤ b ∧ b ≤ 20) (hn : n ≤ 100000) :
    Calls Tryz.prog 34 #[.int .i64 0, .slice p n c] w fun e w' => e = .returned (.bool true) ∧ Kp (fun _ => False) w w' := by
  have HRV : Hid (Calls _ _ _ w _) := readRank_one p n c b [] w h hc hb hn
  clear h hc hb hn
  go_enter Tryz.func34, Tryz.ntmps34
  go_wp2_with fail
  refine HRV.out.mono ?_
  rintro e9 w1 ⟨q, m, cq, rfl, k1, rfl, _⟩
  have HK1 : Hid (Kp (fun _ => False) w (w1.alloc (.cells #[.int .i64 (b : Int)] 68))) := k1.trans ((Kp.refl (fun _ => False) _).alloc _) (fun _ _ e => e)
  clear k1 HRV
  go_wp2_with fail
  go_ret
  exact ⟨rfl, HK1.out⟩
end Go.Proofs.YtippipeebkkghaaGreatDoor
