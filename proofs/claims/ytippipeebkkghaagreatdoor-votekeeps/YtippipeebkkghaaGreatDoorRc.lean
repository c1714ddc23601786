/- The reference's plate: Crash, Sync. -/
import Derived.Test.YtippipeebkkghaaGreatDoorRx
import Derived.Deep.RegionHeld
import Derived.Deep.RegionHeld3
import Derived.Deep.AppendLies
namespace Go.Proofs.YtippipeebkkghaaGreatDoor
open Go.RowKit Go.Deep Go.Maps

/-- what is durable of a sector behind the reference's crash -/
def crB (Bf Wf : Nat → List Nat) (df : Nat → Bool) (zs : List Int) (i : Int) (c : Nat) (j : Nat) : List Nat :=
  if df j = true ∧ (j : Int) ∈ zs then Wf j else if df j = true ∧ (j : Int) = i then (Wf j).take c ++ (Bf j).drop c else Bf j

theorem Rp.congr {w : World} {x tb tw td n : Nat} {Bf Wf Bf' Wf' : Nat → List Nat} {df df' : Nat → Bool} {Y : Nat → Prop} (h : Rp w x tb tw td n Bf Wf df Y) (h1 : ∀ j, j < n → Bf j = Bf' j) (h2 : ∀ j, j < n → Wf j = Wf' j) (h3 : ∀ j, j < n → df j = df' j) : Rp w x tb tw td n Bf' Wf' df' Y := by
  obtain ⟨cp, f, b3, hd⟩ := h.D
  exact ⟨h.c0, h.c1, h.c2, h.c3, h.fz, h.B.congr h1, h.W.congr h2, ⟨cp, f, b3, hd.congr (fun j _ => by
    by_cases hj : j < n
    · rw [if_pos hj, if_pos hj, h3 j hj]
    · rw [if_neg hj, if_neg hj])⟩, h.ne, h.n1, h.n2⟩
theorem sl_firstR (p : Option Addr) (n c r : Nat) (hr : r ≤ c) (w : World) :
    (Instr.slice 75 (.slice p n c) none (some (.int .i64 (r : Int))) none).run Tryz.prog w = .ok (.slice p r c) w := by
  obtain ⟨i, hi, hz⟩ := Option.map_eq_some_iff.1 info5
  simp only [Prod.mk.injEq] at hz
  obtain ⟨hz, hs, hb⟩ := hz
  have h2 : (0 : Int) ≤ r ∧ (r : Int) ≤ (c : Int) := by omega
  simp [Instr.slice, Instr.sliceBounds, Instr.sliceBound, asIntOf, run_underlying Tryz.underlying75, sizeOf, typeInfo, hi, hr]
  cases p <;> simp [Addr.add]
theorem sl_fromR (p : Option Addr) (n c l : Nat) (hl : l ≤ n) (w : World) :
    (Instr.slice 75 (.slice p n c) (some (.int .i64 (l : Int))) none none).run Tryz.prog w = .ok (.slice (if c = l then p else p.map (·.add (l * 1))) (n - l) (c - l)) w := by
  obtain ⟨i, hi, hz⟩ := Option.map_eq_some_iff.1 info5
  simp only [Prod.mk.injEq] at hz
  obtain ⟨hz, hs, hb⟩ := hz
  simp [Instr.slice, Instr.sliceBounds, Instr.sliceBound, asIntOf, run_underlying Tryz.underlying75, sizeOf, typeInfo, hi, hs, hl]
/-- f below k, g from k on -/
def upToRc {α : Type} (k : Nat) (f g : Nat → α) (j : Nat) : α := if j < k then f j else g j
theorem upTo_lt {α : Type} {k : Nat} {f g : Nat → α} {j : Nat} (h : j < k) : upToRc k f g j = f j := if_pos h
theorem upTo_ge {α : Type} {k : Nat} {f g : Nat → α} {j : Nat} (h : ¬ j < k) : upToRc k f g j = g j := if_neg h
theorem upTo_step {α : Type} {k : Nat} {f g : Nat → α} {v : α} (hv : v = f k) (j : Nat) : (if j = k then v else upToRc k f g j) = upToRc (k + 1) f g j := by
  unfold upToRc
  by_cases e : j = k
  · subst e; rw [if_pos rfl, if_pos (by omega), hv]
  · rw [if_neg e]
    by_cases e2 : j < k
    · rw [if_pos e2, if_pos (by omega)]
    · rw [if_neg e2, if_neg (by omega)]

set_option maxRecDepth 100000 in
set_option maxHeartbeats 1600000 in
theorem refCrash_ok {w : World} {x tb tw td N : Nat} {Bf Wf : Nat → List Nat} {df : Nat → Bool} {Y : Nat → Prop} (h : Rp w x tb tw td N Bf Wf df Y) (hY : ∀ z, Y z → z < w.heap.size) (p : Option Addr) (cap : Nat) (zs : List Int) (i n : Int) (hz : ∀ w', Kp (fun z => z = tb ∨ z = tw ∨ z = td) w w' → Rz w' p zs) (hl : (zs.length : Int) ≤ 9223372036854775807) :
    Calls Tryz.prog 201 #[.pointer (some ⟨x, 0, none⟩), .slice p zs.length cap, .int .i64 i, .int .i64 n] w fun e w' => e = .returned (.int .i64 0) ∧ Kp (fun z => z = tb ∨ z = tw ∨ z = td) w w' ∧ Rp w' x tb tw td N (crB Bf Wf df zs i (torn64 n)) (crB Bf Wf df zs i (torn64 n)) (fun _ => false) Y := by
  have c3 := h.c3
  obtain ⟨cd, hcd, c2⟩ := h.c2
  have hN2 : (N : Int) ≤ 8192 := by have := h.n2; omega
  have HP : Hid (Rp w x tb tw td N Bf Wf df Y) := h
  have HZ : Hid _ := hz
  obtain ⟨L, hL⟩ : ∃ L, L = zs.length := ⟨_, rfl⟩
  rw [← hL] at hl ⊢
  have HLL : Hid (L = zs.length) := hL
  obtain ⟨c, hc⟩ : ∃ c, c = torn64 n := ⟨_, rfl⟩
  have hcn : min (max n 0) 64 = (c : Int) := by rw [hc]; unfold torn64; omega
  have hc64 : (c : Int) ≤ 64 := by rw [hc]; have := torn64_le n; omega
  rw [← hc]
  clear h hz hL hc
  go_enter Tryz.func201, Tryz.ntmps201
  go_wp2
  go_loopg [24] N (fun gk xi wr => ∃ k : Nat, k ≤ N ∧ gk = N - k ∧ xi = .int .i64 k ∧ Kp (fun z => z = tb ∨ z = tw ∨ z = td) w wr ∧ Hid (Rp wr x tb tw td N (upToRc k (crB Bf Wf df zs i c) Bf) (upToRc k (crB Bf Wf df zs i c) Wf) (upToRc k (fun _ => false) df) Y))
  case atStart => exact ⟨0, Nat.zero_le _, rfl, rfl, Kp.refl _ _, HP.out⟩
  case round =>
    obtain ⟨k, hk, rfl, rfl, hK, hR⟩ := hrel
    obtain ⟨wa, rfl⟩ : ∃ z, z = wr := ⟨_, rfl⟩
    by_cases hlt : (k : Int) < (N : Int)
    · have hkN : k < N := by omega
      obtain ⟨cpD0, fD0, hcpD0, hrD0⟩ := hR.out.D
      have dc := hrD0.cell (i := k) (by omega)
      rw [if_pos hkN, upTo_ge (by omega)] at dc
      clear hrD0
      have HYa : Hid (∀ z, Y z → z < wa.heap.size) := fun z hz => Nat.lt_of_lt_of_le (hY z hz) hK.size
      have HKa : Hid (Kp (fun z => z = tb ∨ z = tw ∨ z = td) w wa) := hK
      go_wp2
      go_loopg [11, 31] L (fun gk kv xi wq => ∃ (m : Nat) (b : Bool), m ≤ L ∧ gk = L - m ∧ xi = .int .i64 m ∧ kv = .bool b ∧ wq = wa ∧ Hid (b = decide ((k : Int) ∈ zs.take m)))
      case atStart => exact ⟨0, false, Nat.zero_le _, rfl, rfl, rfl, rfl, by show false = decide _; simp⟩
      case round =>
        obtain ⟨m, b, hm, rfl, rfl, rfl, rfl, hb⟩ := hrel
        by_cases hlm : (m : Int) < (L : Int)
        · have hml : m < zs.length := by have := HLL.out; omega
          obtain ⟨zb, zo, rfl, zc⟩ := HZ.out wr hK m hml
          have HTk : Hid (zs.take (m + 1) = zs.take m ++ [zs.getD m 0]) := by
            show _ = _
            rw [List.take_add_one, List.getElem?_eq_getElem hml, List.getD_eq_getElem?_getD, List.getElem?_eq_getElem hml]; rfl
          generalize zs.getD m 0 = z at *
          have HB2 : Hid ((b || (z == (k : Int))) = decide ((k : Int) ∈ zs.take (m + 1))) := by
            show _ = _
            rw [HTk.out, hb.out, Bool.eq_iff_iff]
            simp only [Bool.or_eq_true, decide_eq_true_eq, beq_iff_eq, List.mem_append, List.mem_singleton]
            constructor
            · rintro (h | h); exact Or.inl h; exact Or.inr h.symm
            · rintro (h | h); exact Or.inl h; exact Or.inr h.symm
          clear hml HTk hb hR
          cases b with
          | true =>
            go_wp2
            go_roundg (L - (m + 1))
            case rel => exact ⟨m + 1, true, by omega, rfl, by go_num, rfl, rfl, HB2.out⟩
            case measure => omega
          | false =>
            go_wp2
            go_roundg (L - (m + 1))
            case rel => exact ⟨m + 1, z == (k : Int), by omega, rfl, by go_num, by first | rfl | simp, rfl, HB2.out⟩
            case measure => omega
        · have HBt : Hid (b = decide ((k : Int) ∈ zs)) := by
            have e : m = zs.length := by have := HLL.out; omega
            have h1 := hb.out
            rw [e, List.take_length] at h1
            exact h1
          clear hb
          by_cases hdk : df k = true
          · rw [hdk] at dc
            by_cases hbk : (k : Int) ∈ zs
            · have hbt : b = true := by rw [HBt.out, decide_eq_true hbk]
              subst hbt
              have HCk : Hid (crB Bf Wf df zs i c k = Wf k) := by show _ = _; unfold crB; rw [if_pos ⟨hdk, hbk⟩]
              clear HBt hbk
              obtain ⟨n1', n2', n3', n4', n5', n6'⟩ := hR.out.ne
              obtain ⟨cb0, hcb0, r0⟩ := hR.out.c0
              obtain ⟨cw0, hcw0, r1⟩ := hR.out.c1
              obtain ⟨hfB0, bb0, ob0, ccb0, tcB0, _, _, _⟩ := hR.out.B.at hkN
              obtain ⟨_, bw0, ow0, ccw0, tcW0, hccw0, rbW0, _⟩ := hR.out.W.at hkN
              rw [upTo_ge (by omega)] at rbW0
              have hlt0 := hR.out.lt
              have HO0 : Hid (∀ w', Kp (fun _ => False) wr w' → ∀ c, Calls _ _ #[.slice _ _ c] w' _) := fun w' k' c => own_ok (some ⟨bw0, ow0, none⟩) 64 c (Wf k) w' (rbW0.keep0 k') (show 64 ≤ 140737488355328 by omega)
              have HX0 : Hid (∀ y ∈ Wf k, y < 256) := rbW0.byte
              have HXL0 : Hid ((Wf k).length = 64) := rbW0.len
              have HFz0 : Hid (∀ w', Kp (fun _ => False) wr w' → w'.frozen? ⟨tb, k, none⟩ = false) := fun w' kk => by rw [World.frozen?_of_block (w := wr) (kk.block tb hlt0.2.1 id)]; exact hfB0
              have m1' : ¬ tb = x := fun e => n1' e.symm
              have kd0 : Kp (fun _ => False) wr wr.drew := (Kp.refl _ _).drew
              clear rbW0
              go_wp2_with fail
              go_region_held3 (fun z => z.cell? ⟨x, 0, none⟩ = some (.slice (some ⟨tb, 0, none⟩) N cb0) ∧ z.cell? ⟨x, 1, none⟩ = some (.slice (some ⟨tw, 0, none⟩) N cw0) ∧ z.cell? ⟨tw, k, none⟩ = some (.slice (some ⟨bw0, ow0, none⟩) 64 ccw0)) (go_keep)
                (first
                  | (go_at_call 111; refine (HO0.out _ kd0 _).mono ?_; rintro e wo ⟨vo, rfl, ko, oo⟩; obtain ⟨po, cco, evo, hcco, rbo, hpo⟩ := oo.rb HX0.out; rw [HXL0.out] at evo rbo hcco; subst evo; have k0o := kd0.trans ko (fun _ _ e => e); have x0' := k0o.cellv r0 id; have x1' := k0o.cellv r1 id; have x3' := k0o.cellv tcW0 id; have y1' := k0o.cellv tcB0 id; have z1' := HFz0.out _ k0o))
              all_goals
                clear x0' x1' x3' y1' z1' oo
                obtain ⟨go, o2, rfl, _⟩ := rbo.pt (by omega)
                have hgo : wr.heap.size ≤ go := (hpo _ rfl).1
                have hh1 := hR.out.keep k0o (fun z e => e.elim) id id id id
                have hh2 := hh1.setB (i := k) (xs := Wf k) rfl ⟨go, o2, cco, rfl, hcco, rbo, fun e => by rcases e with e | e | e | e | e; all_goals first | omega | (have := HYa.out _ e; omega)⟩
                obtain ⟨wa, hwa⟩ : ∃ z, z = wo.setCell ⟨tb, k, none⟩ (.slice (some ⟨go, o2, none⟩) 64 cco) := ⟨_, rfl⟩
                rw [← hwa] at hh2 ⊢
                have kwa : Kp (fun z => z = tb) wr wa := by rw [hwa]; exact (k0o.mono (fun _ _ e => e.elim)).trans (kp_setR wo tb k _) (fun _ _ e => e)
                have HYr := HYa
                have HYa : Hid (∀ z, Y z → z < wa.heap.size) := fun z hz => Nat.lt_of_lt_of_le (HYr.out z hz) kwa.size
                have HKr := HKa
                have HKa : Hid (Kp (fun z => z = tb ∨ z = tw ∨ z = td) w wa) := HKr.out.trans kwa (fun _ _ e => Or.inl e)
                obtain ⟨B1k, hB1k⟩ : ∃ B, B = Wf k := ⟨_, rfl⟩
                have HQ : Hid (Rp wa x tb tw td N (fun j => if j = k then Wf k else upToRc k (crB Bf Wf df zs i c) Bf j) (upToRc k (crB Bf Wf df zs i c) Wf) (upToRc k (fun _ => false) df) Y) := hh2
                have HBq : Hid ((if k = k then Wf k else upToRc k (crB Bf Wf df zs i c) Bf k) = B1k) := by show _ = _; rw [if_pos rfl, hB1k]
                have HBk : Hid (B1k = crB Bf Wf df zs i c k) := by show _ = _; rw [hB1k, HCk.out]
                have HB1 : Hid (∀ j, j < N → (if j = k then Wf k else upToRc k (crB Bf Wf df zs i c) Bf j) = upToRc (k + 1) (crB Bf Wf df zs i c) Bf j) := fun j _ => upTo_step (by rw [HCk.out]) j
                clear hR hB1k hh1 hh2 rbo hpo k0o ko hwa kwa HO0 HFz0 HYr HKr r0 r1 tcB0 tcW0 n1' n2' n3' n4' n5' n6' m1' kd0
                -- the sector is what is durable now
                have hlt' := HQ.out.lt
                obtain ⟨n1, n2, n3, n4, n5, n6⟩ := HQ.out.ne
                obtain ⟨cb, hcb, q0⟩ := HQ.out.c0
                obtain ⟨cw, hcw, q1⟩ := HQ.out.c1
                obtain ⟨cd', hcd', q2⟩ := HQ.out.c2
                obtain ⟨_, bbB, oB, ccB, tcB, hccB, rbB, _⟩ := HQ.out.B.at hkN
                rw [HBq.out] at rbB
                obtain ⟨hfW, bbW, oW, ccW, tcW, _, _, _⟩ := HQ.out.W.at hkN
                obtain ⟨cpD, fD, hcpD, hrD⟩ := HQ.out.D
                have tcD := hrD.cell (i := k) (by omega)
                rw [if_pos hkN] at tcD
                have hfD := hrD.frozen k
                have HO : Hid (∀ w', Kp (fun _ => False) wa w' → ∀ c, Calls _ _ #[.slice _ _ c] w' _) := fun w' k' c => own_ok (some ⟨bbB, oB, none⟩) 64 c B1k w' (rbB.keep0 k') (show 64 ≤ 140737488355328 by omega)
                have HX : Hid (∀ y ∈ B1k, y < 256) := rbB.byte
                have HXL : Hid (B1k.length = 64) := rbB.len
                have HFz : Hid (∀ w', Kp (fun _ => False) wa w' → w'.frozen? ⟨tw, k, none⟩ = false ∧ w'.frozen? ⟨td, k, none⟩ = false) := fun w' kk => ⟨by rw [World.frozen?_of_block (w := wa) (kk.block tw hlt'.2.2.1 id)]; exact hfW, by rw [World.frozen?_of_block (w := wa) (kk.block td hlt'.2.2.2 id)]; exact hfD⟩
                have m1 : ¬ tw = x := fun e => n2 e.symm
                have m2 : ¬ td = x := fun e => n3 e.symm
                have m3 : ¬ td = tw := fun e => n6 e.symm
                have m4 : ¬ tw = tb := fun e => n4 e.symm
                have m5 : ¬ td = tb := fun e => n5 e.symm
                have kd : Kp (fun _ => False) wa wa.drew := (Kp.refl _ _).drew
                clear hrD rbB
                go_wp2_with fail
                go_region_held3 (fun z => z.cell? ⟨x, 0, none⟩ = some (.slice (some ⟨tb, 0, none⟩) N cb) ∧ z.cell? ⟨x, 1, none⟩ = some (.slice (some ⟨tw, 0, none⟩) N cw) ∧ z.cell? ⟨x, 2, none⟩ = some (.slice (some ⟨td, 0, none⟩) N cd') ∧ z.cell? ⟨tb, k, none⟩ = some (.slice (some ⟨bbB, oB, none⟩) 64 ccB)) (go_keep)
                  (first
                    | (go_at_call 111; refine (HO.out _ kd _).mono ?_; rintro e w1 ⟨v1, rfl, k1, o1⟩; obtain ⟨p1, cc1, ev1, hcc1, rb1, hp1⟩ := o1.rb HX.out; rw [HXL.out] at ev1 rb1 hcc1; subst ev1; have k01 := kd.trans k1 (fun _ _ e => e); have x0 := k01.cellv q0 id; have x1 := k01.cellv q1 id; have x2 := k01.cellv q2 id; have x3 := k01.cellv tcB id; have y1 := k01.cellv tcW id; have y2 := k01.cellv tcD id; have z1 := (HFz.out _ k01).1; have z2 := (HFz.out _ k01).2))
                all_goals
                  clear x0 x1 x2 x3 y1 y2 z1 z2 o1
                  have h1 := HQ.out.keep k01 (fun z e => e.elim) id id id id
                  obtain ⟨g1, o1, rfl, _⟩ := rb1.pt (by omega)
                  have hg1 : wa.heap.size ≤ g1 := (hp1 _ rfl).1
                  have h2 := h1.setW (i := k) (xs := B1k) rfl ⟨g1, o1, cc1, rfl, hcc1, rb1, fun e => by rcases e with e | e | e | e | e; all_goals first | omega | (have := HYa.out _ e; omega)⟩
                  have h3 := h2.setD (i := k) (b := false) hkN rfl
                  have HR5 : Hid (Rp _ x tb tw td N (upToRc (k + 1) (crB Bf Wf df zs i c) Bf) (upToRc (k + 1) (crB Bf Wf df zs i c) Wf) (upToRc (k + 1) (fun _ => false) df) Y) := h3.congr HB1.out (fun j _ => upTo_step HBk.out j) (fun j _ => upTo_step rfl j)
                  have HK5 : Hid (Kp (fun z => z = tb ∨ z = tw ∨ z = td) w ((w1.setCell ⟨tw, k, none⟩ (.slice (some ⟨g1, o1, none⟩) 64 cc1)).setCell ⟨td, k, none⟩ (.bool false))) := ((HKa.out.trans k01 (fun _ _ e => e.elim)).trans (kp_setR w1 tw k _) (fun _ _ e => Or.inr (Or.inl e))).trans (kp_setR _ td k _) (fun _ _ e => Or.inr (Or.inr e))
                  clear h1 h2 h3 rb1 hp1 k01 k1 HQ HO HFz
                  go_wp2
                  go_roundg (N - (k + 1))
                  case rel => exact ⟨k + 1, by omega, rfl, by go_num, HK5.out, HR5.out⟩
                  case measure => omega
            · have hbt : b = false := by rw [HBt.out, decide_eq_false hbk]
              subst hbt
              by_cases hki : (k : Int) = i
              · have HCk : Hid (crB Bf Wf df zs i c k = (Wf k).take c ++ (Bf k).drop c) := by show _ = _; unfold crB; rw [if_neg (fun h => hbk h.2), if_pos ⟨hdk, hki⟩]
                have hik : i = (k : Int) := hki.symm
                clear HBt hbk hki
                subst hik
                obtain ⟨n1', n2', n3', n4', n5', n6'⟩ := hR.out.ne
                obtain ⟨cb0, hcb0, r0⟩ := hR.out.c0
                obtain ⟨cw0, hcw0, r1⟩ := hR.out.c1
                obtain ⟨hfB0, bb0, ob0, ccb0, tcB0, hccb0, rbB0, _⟩ := hR.out.B.at hkN
                obtain ⟨_, bw0, ow0, ccw0, tcW0, hccw0, rbW0, _⟩ := hR.out.W.at hkN
                rw [upTo_ge (by omega)] at rbW0 rbB0
                have hlt0 := hR.out.lt
                have hcc : c ≤ 64 := by omega
                have s1 := sl_firstR (some ⟨bw0, ow0, none⟩) 64 ccw0 c (by omega)
                have s2 := sl_fromR (some ⟨bb0, ob0, none⟩) 64 ccb0 c hcc
                have hR2 := rbB0.part hccb0 (l := c) (r := 64) hcc (Nat.le_refl _)
                generalize hpw : (if ccb0 = c then some (⟨bb0, ob0, none⟩ : Addr) else (some (⟨bb0, ob0, none⟩ : Addr)).map (·.add (c * 1))) = pw at s2 hR2
                have HR1 : Hid (Rb wr (some ⟨bw0, ow0, none⟩) c ((Wf k).take c)) := by
                  obtain ⟨b', o', e, hcell⟩ := rbW0.pt (by omega)
                  cases e
                  exact ⟨by rw [List.length_take, rbW0.len]; omega, fun x hx => rbW0.byte x (List.mem_of_mem_take hx), fun j hj => ⟨_, _, rfl, by
                    rw [hcell j (by omega), List.getD_eq_getElem?_getD, List.getD_eq_getElem?_getD, List.getElem?_take_of_lt hj]⟩⟩
                have HR2 : Hid (Rb wr pw (64 - c) ((Bf k).drop c)) := by
                  have hh := hR2
                  rw [List.take_of_length_le (by rw [rbB0.len]; omega)] at hh
                  exact hh
                obtain ⟨l2, hl2⟩ : ∃ l, l = 64 - c := ⟨_, rfl⟩
                rw [← hl2] at s2 HR2
                have HL2 : Hid (l2 = 64 - c) := hl2
                obtain ⟨xs, hxs⟩ : ∃ xs, xs = (Wf k).take c := ⟨_, rfl⟩
                obtain ⟨ys, hys⟩ : ∃ ys, ys = (Bf k).drop c := ⟨_, rfl⟩
                rw [← hxs] at HR1
                rw [← hys] at HR2
                have HXL : Hid (xs.length = c) := HR1.out.len
                have HYL : Hid (ys.length = l2) := HR2.out.len
                have HXY : Hid (xs ++ ys = crB Bf Wf df zs (k : Int) c k) := by show _ = _; rw [HCk.out, hxs, hys]
                have kd0 : Kp (fun _ => False) wr wr.drew := (Kp.refl _ _).drew
                have HXLL : Hid (xs.length + l2 ≤ 140737488355328) := by have h1 := HXL.out; have h2 := HL2.out; show _ ≤ _; omega
                have HXY64 : Hid ((xs ++ ys).length = 64) := by have h1 := HXL.out; have h2 := HL2.out; have h3 := HYL.out; show _ = _; rw [List.length_append]; omega
                have HXYL : Hid (0 < (xs ++ ys).length) := by show 0 < _; rw [HXY64.out]; omega
                have HXB : Hid (∀ y ∈ xs ++ ys, y < 256) := fun y hy => by rcases List.mem_append.1 hy with h | h; exact HR1.out.byte y h; exact HR2.out.byte y h
                have HKr0 : Hid (∀ (v5 : Value) (w5 w6 : World), Kp (fun _ => False) wr w5 → Ow w5 wr.drew.heap.size v5 xs → Kp (fun b => v5.ownBlock = some b) w5 w6 → Kp (fun _ => False) wr w6) := fun v5 w5 w6 k05 o5 hk6 => k05.trans hk6 (fun z hz e => by have : wr.heap.size ≤ z := (ownBlock_lt o5 e).1; omega)
                have HFz0 : Hid (∀ w', Kp (fun _ => False) wr w' → w'.frozen? ⟨tb, k, none⟩ = false) := fun w' kk => by rw [World.frozen?_of_block (w := wr) (kk.block tb hlt0.2.1 id)]; exact hfB0
                have HCl : Hid (Calls _ _ _ wr.drew _) := own_ok (some ⟨bw0, ow0, none⟩) c ccw0 xs wr.drew (HR1.out.keep0 kd0) (show c ≤ 140737488355328 by omega)
                have m1' : ¬ tb = x := fun e => n1' e.symm
                have m4' : ¬ tw = tb := fun e => n4' e.symm
                clear hxs hys hR2 hpw rbB0 rbW0 hl2
                go_wp2_with fail
                have HS0 : Hid (∀ z, Kp (fun _ => False) wr z → (z.cell? ⟨x, 0, none⟩ = some (.slice (some ⟨tb, 0, none⟩) N cb0) ∧ z.cell? ⟨x, 1, none⟩ = some (.slice (some ⟨tw, 0, none⟩) N cw0) ∧ z.cell? ⟨tw, k, none⟩ = some (.slice (some ⟨bw0, ow0, none⟩) 64 ccw0))) := fun z kz => ⟨kz.cellv r0 id, kz.cellv r1 id, kz.cellv tcW0 id⟩
                have HS1 : Hid (∀ z v, Kp (fun _ => False) wr z → (z.setCell ⟨tb, k, none⟩ v).cell? ⟨x, 0, none⟩ = some (.slice (some ⟨tb, 0, none⟩) N cb0) ∧ (z.setCell ⟨tb, k, none⟩ v).cell? ⟨x, 1, none⟩ = some (.slice (some ⟨tw, 0, none⟩) N cw0) ∧ (z.setCell ⟨tb, k, none⟩ v).cell? ⟨tw, k, none⟩ = some (.slice (some ⟨bw0, ow0, none⟩) 64 ccw0)) := fun z v kz => ⟨(kp_setR z tb k v).cellv (kz.cellv r0 id) n1', (kp_setR z tb k v).cellv (kz.cellv r1 id) n1', (kp_setR z tb k v).cellv (kz.cellv tcW0 id) m4'⟩
                refine wp_region_held_drew (S := (fun z => z.cell? ⟨x, 0, none⟩ = some (.slice (some ⟨tb, 0, none⟩) N cb0) ∧ z.cell? ⟨x, 1, none⟩ = some (.slice (some ⟨tw, 0, none⟩) N cw0) ∧ z.cell? ⟨tw, k, none⟩ = some (.slice (some ⟨bw0, ow0, none⟩) 64 ccw0))) (by kernel_rfl) (HS0.out _ kd0) (fun hHeld => ?_)
                simp only [List.size_toArray, List.length_cons, List.length_nil, Nat.zero_add, Nat.reduceAdd]
                refine wpAnyH_take (i := 0) (v := ?zv0) (List.getElem?_toArray.trans rfl) (by kernel_rfl) (by kernel_rfl) (by kernel_rfl) (fun _ _ _ h => h) (Or.inl ⟨by rfl, ?zy0⟩) (by assumption) ?zr0
                case zy0 => (intro w hSw; (try dsimp only at hSw); go_simp; try with_reducible rfl)
                simp only [Act.put, List.setIfInBounds_toArray, List.set_cons_zero, List.set_cons_succ]
                refine wpAnyH_take (i := 1) (v := ?zv1) (List.getElem?_toArray.trans rfl) (by kernel_rfl) (by kernel_rfl) (by kernel_rfl) (fun _ _ _ h => h) (Or.inl ⟨by rfl, ?zy1⟩) (by assumption) ?zr1
                case zy1 => (intro w hSw; (try dsimp only at hSw); go_simp; try with_reducible rfl)
                simp only [Act.put, List.setIfInBounds_toArray, List.set_cons_zero, List.set_cons_succ]
                refine wpAnyH_take (i := 2) (v := ?zv2) (List.getElem?_toArray.trans rfl) (by kernel_rfl) (by kernel_rfl) (by kernel_rfl) (fun _ _ _ h => h) (Or.inl ⟨by rfl, ?zy2⟩) (by assumption) ?zr2
                case zy2 => (intro w hSw; (try dsimp only at hSw); go_simp; try with_reducible rfl)
                simp only [Act.put, List.setIfInBounds_toArray, List.set_cons_zero, List.set_cons_succ]
                refine wpAnyH_take (i := 3) (v := ?zv3) (List.getElem?_toArray.trans rfl) (by kernel_rfl) (by kernel_rfl) (by kernel_rfl) (fun _ _ _ h => h) (Or.inl ⟨by rfl, ?zy3⟩) (by assumption) ?zr3
                case zy3 => (intro w hSw; (try dsimp only at hSw); go_simp; try with_reducible rfl)
                simp only [Act.put, List.setIfInBounds_toArray, List.set_cons_zero, List.set_cons_succ]
                refine wpAnyH_take (i := 4) (v := ?zv4) (List.getElem?_toArray.trans rfl) (by kernel_rfl) (by kernel_rfl) (by kernel_rfl) (fun _ _ _ h => h) (Or.inl ⟨by rfl, ?zy4⟩) (by assumption) ?zr4
                case zy4 => (intro w hSw; (try dsimp only at hSw); go_simp; try with_reducible rfl)
                simp only [Act.put, List.setIfInBounds_toArray, List.set_cons_zero, List.set_cons_succ]
                refine wpAnyH_take (i := 5) (v := ?zv5) (List.getElem?_toArray.trans rfl) (by kernel_rfl) (by kernel_rfl) (by kernel_rfl) (fun _ _ _ h => h) (Or.inl ⟨by rfl, ?zy5⟩) (by assumption) ?zr5
                case zy5 => (intro w hSw; (try dsimp only at hSw); go_simp; try with_reducible rfl)
                simp only [Act.put, List.setIfInBounds_toArray, List.set_cons_zero, List.set_cons_succ]
                refine wpAnyH_take (i := 6) (v := ?zv6) (List.getElem?_toArray.trans rfl) (by kernel_rfl) (by kernel_rfl) (by kernel_rfl) (fun _ _ _ h => h) (Or.inl ⟨by rfl, ?zy6⟩) (by assumption) ?zr6
                case zy6 => (intro w hSw; (try dsimp only at hSw); go_simp; try with_reducible rfl)
                simp only [Act.put, List.setIfInBounds_toArray, List.set_cons_zero, List.set_cons_succ]
                refine wpAnyH_take (i := 7) (v := ?zv7) (List.getElem?_toArray.trans rfl) (by kernel_rfl) (by kernel_rfl) (by kernel_rfl) (fun _ _ _ h => h) (Or.inl ⟨by rfl, ?zy7⟩) (by assumption) ?zr7
                case zy7 => (intro w hSw; (try dsimp only at hSw); go_simp; try with_reducible rfl)
                simp only [Act.put, List.setIfInBounds_toArray, List.set_cons_zero, List.set_cons_succ]
                refine wpAnyH_take (i := 8) (v := ?zv8) (List.getElem?_toArray.trans rfl) (by kernel_rfl) (by kernel_rfl) (by kernel_rfl) (fun _ _ _ h => h) (Or.inl ⟨by rfl, ?zy8⟩) (by assumption) ?zr8
                case zy8 => (intro w hSw; (try dsimp only at hSw); go_simp; try with_reducible rfl)
                simp only [Act.put, List.setIfInBounds_toArray, List.set_cons_zero, List.set_cons_succ]
                refine wpAnyH_take (i := 9) (v := ?zv9) (List.getElem?_toArray.trans rfl) (by kernel_rfl) (by kernel_rfl) (by kernel_rfl) (fun _ _ _ h => h) (Or.inl ⟨by rfl, ?zy9⟩) (by assumption) ?zr9
                case zy9 => (intro w hSw; (try dsimp only at hSw); go_simp; try with_reducible rfl)
                simp only [Act.put, List.setIfInBounds_toArray, List.set_cons_zero, List.set_cons_succ]
                refine wpAnyH_take (i := 10) (v := ?zv10) (List.getElem?_toArray.trans rfl) (by kernel_rfl) (by kernel_rfl) (by kernel_rfl) (fun _ _ _ h => h) (Or.inl ⟨by rfl, ?zy10⟩) (by assumption) ?zr10
                case zy10 => (intro w hSw; (try dsimp only at hSw); go_simp; try with_reducible rfl)
                simp only [Act.put, List.setIfInBounds_toArray, List.set_cons_zero, List.set_cons_succ]
                refine wpAnyH_take (i := 11) (v := ?zv11) (List.getElem?_toArray.trans rfl) (by kernel_rfl) (by kernel_rfl) (by kernel_rfl) (fun _ _ _ h => h) (Or.inl ⟨by rfl, ?zy11⟩) (by assumption) ?zr11
                case zy11 => (intro w hSw; (try dsimp only at hSw); go_simp; try with_reducible rfl)
                simp only [Act.put, List.setIfInBounds_toArray, List.set_cons_zero, List.set_cons_succ]
                refine wpAnyH_take (i := 12) (v := ?zv12) (List.getElem?_toArray.trans rfl) (by kernel_rfl) (by kernel_rfl) (by kernel_rfl) (fun _ _ _ h => h) (Or.inl ⟨by rfl, ?zy12⟩) (by assumption) ?zr12
                case zy12 => (intro w hSw; (try dsimp only at hSw); go_simp; try with_reducible rfl)
                simp only [Act.put, List.setIfInBounds_toArray, List.set_cons_zero, List.set_cons_succ]
                refine wpAnyH_take (i := 13) (v := ?zv13) (List.getElem?_toArray.trans rfl) (by kernel_rfl) (by kernel_rfl) (by kernel_rfl) (fun _ _ _ h => h) (Or.inl ⟨by rfl, ?zy13⟩) (by assumption) ?zr13
                case zy13 => (intro w hSw; (try dsimp only at hSw); go_simp; try with_reducible rfl)
                simp only [Act.put, List.setIfInBounds_toArray, List.set_cons_zero, List.set_cons_succ]
                refine wpAnyH_take (i := 15) (v := ?zv15) (List.getElem?_toArray.trans rfl) (by kernel_rfl) (by kernel_rfl) (by kernel_rfl) (fun _ _ _ h => h) (Or.inl ⟨by rfl, ?zy15⟩) (by assumption) ?zr15
                case zy15 => (intro w hSw; (try dsimp only at hSw); go_simp; try with_reducible rfl)
                simp only [Act.put, List.setIfInBounds_toArray, List.set_cons_zero, List.set_cons_succ]
                refine wpAnyH_take (i := 16) (v := ?zv16) (List.getElem?_toArray.trans rfl) (by kernel_rfl) (by kernel_rfl) (by kernel_rfl) (fun _ _ _ h => h) (Or.inl ⟨by rfl, ?zy16⟩) (by assumption) ?zr16
                case zy16 => (intro w hSw; (try dsimp only at hSw); go_simp; try with_reducible rfl)
                simp only [Act.put, List.setIfInBounds_toArray, List.set_cons_zero, List.set_cons_succ]
                refine wpAnyH_take (i := 17) (v := ?zv17) (List.getElem?_toArray.trans rfl) (by kernel_rfl) (by kernel_rfl) (by kernel_rfl) (fun _ _ _ h => h) (Or.inl ⟨by rfl, ?zy17⟩) (by assumption) ?zr17
                case zy17 => (intro w hSw; (try dsimp only at hSw); go_simp; try with_reducible rfl)
                simp only [Act.put, List.setIfInBounds_toArray, List.set_cons_zero, List.set_cons_succ]
                refine wpAnyH_take (i := 18) (v := ?zv18) (List.getElem?_toArray.trans rfl) (by kernel_rfl) (by kernel_rfl) (by kernel_rfl) (fun _ _ _ h => h) (Or.inl ⟨by rfl, ?zy18⟩) (by assumption) ?zr18
                case zy18 => (intro w hSw; (try dsimp only at hSw); go_simp; try with_reducible rfl)
                simp only [Act.put, List.setIfInBounds_toArray, List.set_cons_zero, List.set_cons_succ]
                refine wpAnyH_take (i := 19) (v := ?zv19) (List.getElem?_toArray.trans rfl) (by kernel_rfl) (by kernel_rfl) (by kernel_rfl) (fun _ _ _ h => h) (Or.inl ⟨by rfl, ?zy19⟩) (by assumption) ?zr19
                case zy19 => (intro w hSw; (try dsimp only at hSw); go_simp; try with_reducible rfl)
                simp only [Act.put, List.setIfInBounds_toArray, List.set_cons_zero, List.set_cons_succ]
                refine wpAnyH_take (i := 20) (v := ?zv20) (List.getElem?_toArray.trans rfl) (by kernel_rfl) (by kernel_rfl) (by kernel_rfl) (fun _ _ _ h => h) (Or.inl ⟨by rfl, ?zy20⟩) (by assumption) ?zr20
                case zy20 => (intro w hSw; (try dsimp only at hSw); go_simp; try with_reducible rfl)
                simp only [Act.put, List.setIfInBounds_toArray, List.set_cons_zero, List.set_cons_succ]
                refine wpAnyH_take (i := 22) (v := ?zv22) (List.getElem?_toArray.trans rfl) (by kernel_rfl) (by kernel_rfl) (by kernel_rfl) (fun _ _ _ h => h) (Or.inl ⟨by rfl, ?zy22⟩) (by assumption) ?zr22
                case zy22 => (intro w hSw; (try dsimp only at hSw); go_simp; try with_reducible rfl)
                simp only [Act.put, List.setIfInBounds_toArray, List.set_cons_zero, List.set_cons_succ]
                refine wpAnyH_ready (rs := [14, 21]) (by kernel_rfl) (by simp) ?_
                refine AllReadyH.cons rfl (fun Ka hKa => ?_) (AllReadyH.cons rfl (fun Kc hKc => ?_) AllReadyH.nil)
                · go_simp
                  go_wp2_with (go_at_call 111; refine HCl.out.mono ?_; rintro e w5 ⟨v5, rfl, k5, o5⟩; have k05 := kd0.trans k5 (fun _ _ e => e); have tcB5 := k05.cellv tcB0 id)
                  refine hKa.out _ _ (HS0.out _ k05) (fun hHeld => ?_)
                  clear hKa Ka
                  refine wpAnyH_ready (rs := [21]) (by kernel_rfl) (by simp) ?_
                  refine AllReadyH.cons rfl (fun Kb hKb => ?_) AllReadyH.nil
                  go_simp
                  refine hKb.out _ _ (HS0.out _ k05) (fun hHeld => ?_)
                  clear hKb Kb
                  refine wpAnyH_take (i := 23) (v := ?zvb23) (List.getElem?_toArray.trans rfl) (by kernel_rfl) (by kernel_rfl) (by kernel_rfl) (fun _ _ _ h => h) (Or.inl ⟨by rfl, ?zyb23⟩) (by assumption) ?zrb23
                  case zyb23 => (intro w hSw; (try dsimp only at hSw); go_simp; try with_reducible rfl)
                  simp only [Act.put, List.setIfInBounds_toArray, List.set_cons_zero, List.set_cons_succ]
                  refine wpAnyH_ready (rs := [24]) (by kernel_rfl) (by simp) ?_
                  refine AllReadyH.cons rfl (fun Kxp hKxp => ?_) AllReadyH.nil
                  refine step_append_bytes w5 rfl (.tmp 85) (.tmp 94) rfl wr.heap.size v5 xs rfl o5 pw l2 (ccb0 - c) ys rfl (HR2.out.keep0 k05) HXLL.out k05.size ?_
                  intro v6 w6 o6 hk6 hat6
                  obtain ⟨g6, cap6, e6, hg6, hlt6⟩ := World.ownsRow.form o6 HXYL.out
                  subst e6
                  rw [HXY64.out]
                  have kr6 := HKr0.out v5 w5 w6 k05 o5 hk6
                  have t26 := kr6.cellv tcB0 id
                  have f26 := HFz0.out w6 kr6
                  refine hKxp.out _ _ (HS0.out _ kr6) (fun hHeld => ?_)
                  clear hKxp Kxp
                  simp only [Act.put, List.setIfInBounds_toArray]
                  refine wpAnyH_take (i := 25) (v := ?zvx25) (List.getElem?_toArray.trans rfl) (by kernel_rfl) (by kernel_rfl) (by kernel_rfl) (fun _ _ _ h => h) (Or.inl ⟨by rfl, ?zyx25⟩) (by assumption) ?zrx25
                  case zyx25 => (intro w hSw; (try dsimp only at hSw); go_simp; try with_reducible rfl)
                  simp only [Act.put]
                  refine wpAnyH_ready (rs := [26]) (by kernel_rfl) (by simp) ?_
                  refine AllReadyH.cons rfl (fun Kxs hKxs => ?_) AllReadyH.nil
                  go_simp
                  refine hKxs.out _ _ (HS1.out _ _ kr6) (fun hHeld => ?_)
                  refine wpAnyH_done (by kernel_rfl) ?_ _
                  clear hKxs Kxs hHeld t26 f26 tcB5
                  obtain ⟨po, cco, evo, hcco, rbo, hpo⟩ := o6.rb HXB.out
                  rw [HXY64.out] at hcco rbo
                  have evo2 : (Value.slice (some ⟨g6, 0, none⟩) (xs ++ ys).length cap6) = .slice po (xs ++ ys).length cco := evo
                  simp only [Value.slice.injEq, true_and] at evo2
                  obtain ⟨rfl, rfl⟩ := evo2
                  have hh1 := hR.out.keep kr6 (fun z e => e.elim) id id id id
                  have hh2 := hh1.setB (i := k) (xs := xs ++ ys) rfl ⟨g6, 0, cap6, rfl, hcco, rbo, fun e => by rcases e with e | e | e | e | e; all_goals first | omega | (have := HYa.out _ e; omega)⟩
                  obtain ⟨wa, hwa⟩ : ∃ z, z = w6.setCell ⟨tb, k, none⟩ (.slice (some ⟨g6, 0, none⟩) 64 cap6) := ⟨_, rfl⟩
                  rw [← hwa] at hh2 ⊢
                  have kwa : Kp (fun z => z = tb) wr wa := by rw [hwa]; exact (kr6.mono (fun _ _ e => e.elim)).trans (kp_setR w6 tb k _) (fun _ _ e => e)
                  have HYr := HYa
                  have HYa : Hid (∀ z, Y z → z < wa.heap.size) := fun z hz => Nat.lt_of_lt_of_le (HYr.out z hz) kwa.size
                  have HKr := HKa
                  have HKa : Hid (Kp (fun z => z = tb ∨ z = tw ∨ z = td) w wa) := HKr.out.trans kwa (fun _ _ e => Or.inl e)
                  obtain ⟨B1k, hB1k⟩ : ∃ B, B = xs ++ ys := ⟨_, rfl⟩
                  have HQ : Hid (Rp wa x tb tw td N (fun j => if j = k then xs ++ ys else upToRc k (crB Bf Wf df zs (k : Int) c) Bf j) (upToRc k (crB Bf Wf df zs (k : Int) c) Wf) (upToRc k (fun _ => false) df) Y) := hh2
                  have HBq : Hid ((if k = k then xs ++ ys else upToRc k (crB Bf Wf df zs (k : Int) c) Bf k) = B1k) := by show _ = _; rw [if_pos rfl, hB1k]
                  have HBk : Hid (B1k = crB Bf Wf df zs (k : Int) c k) := by show _ = _; rw [hB1k, HXY.out]
                  have HB1 : Hid (∀ j, j < N → (if j = k then xs ++ ys else upToRc k (crB Bf Wf df zs (k : Int) c) Bf j) = upToRc (k + 1) (crB Bf Wf df zs (k : Int) c) Bf j) := fun j _ => upTo_step HXY.out j
                  clear hR hB1k hh1 hh2 rbo hpo hwa kwa HFz0 HYr HKr HKr0 r0 r1 tcB0 tcW0 n1' n2' n3' n4' n5' n6' m1' m4' kd0 o5 o6 k05 k5 kr6 hk6 hat6 s1 s2 HR1 HR2 HCl evo
                  -- the sector is what is durable now
                  have hlt' := HQ.out.lt
                  obtain ⟨n1, n2, n3, n4, n5, n6⟩ := HQ.out.ne
                  obtain ⟨cb, hcb, q0⟩ := HQ.out.c0
                  obtain ⟨cw, hcw, q1⟩ := HQ.out.c1
                  obtain ⟨cd', hcd', q2⟩ := HQ.out.c2
                  obtain ⟨_, bbB, oB, ccB, tcB, hccB, rbB, _⟩ := HQ.out.B.at hkN
                  rw [HBq.out] at rbB
                  obtain ⟨hfW, bbW, oW, ccW, tcW, _, _, _⟩ := HQ.out.W.at hkN
                  obtain ⟨cpD, fD, hcpD, hrD⟩ := HQ.out.D
                  have tcD := hrD.cell (i := k) (by omega)
                  rw [if_pos hkN] at tcD
                  have hfD := hrD.frozen k
                  have HO : Hid (∀ w', Kp (fun _ => False) wa w' → ∀ c, Calls _ _ #[.slice _ _ c] w' _) := fun w' k' c => own_ok (some ⟨bbB, oB, none⟩) 64 c B1k w' (rbB.keep0 k') (show 64 ≤ 140737488355328 by omega)
                  have HX : Hid (∀ y ∈ B1k, y < 256) := rbB.byte
                  have HXL : Hid (B1k.length = 64) := rbB.len
                  have HFz : Hid (∀ w', Kp (fun _ => False) wa w' → w'.frozen? ⟨tw, k, none⟩ = false ∧ w'.frozen? ⟨td, k, none⟩ = false) := fun w' kk => ⟨by rw [World.frozen?_of_block (w := wa) (kk.block tw hlt'.2.2.1 id)]; exact hfW, by rw [World.frozen?_of_block (w := wa) (kk.block td hlt'.2.2.2 id)]; exact hfD⟩
                  have m1 : ¬ tw = x := fun e => n2 e.symm
                  have m2 : ¬ td = x := fun e => n3 e.symm
                  have m3 : ¬ td = tw := fun e => n6 e.symm
                  have m4 : ¬ tw = tb := fun e => n4 e.symm
                  have m5 : ¬ td = tb := fun e => n5 e.symm
                  have kd : Kp (fun _ => False) wa wa.drew := (Kp.refl _ _).drew
                  clear hrD rbB
                  go_wp2_with fail
                  go_region_held3 (fun z => z.cell? ⟨x, 0, none⟩ = some (.slice (some ⟨tb, 0, none⟩) N cb) ∧ z.cell? ⟨x, 1, none⟩ = some (.slice (some ⟨tw, 0, none⟩) N cw) ∧ z.cell? ⟨x, 2, none⟩ = some (.slice (some ⟨td, 0, none⟩) N cd') ∧ z.cell? ⟨tb, k, none⟩ = some (.slice (some ⟨bbB, oB, none⟩) 64 ccB)) (go_keep)
                    (first
                      | (go_at_call 111; refine (HO.out _ kd _).mono ?_; rintro e w1 ⟨v1, rfl, k1, o1⟩; obtain ⟨p1, cc1, ev1, hcc1, rb1, hp1⟩ := o1.rb HX.out; rw [HXL.out] at ev1 rb1 hcc1; subst ev1; have k01 := kd.trans k1 (fun _ _ e => e); have x0 := k01.cellv q0 id; have x1 := k01.cellv q1 id; have x2 := k01.cellv q2 id; have x3 := k01.cellv tcB id; have y1 := k01.cellv tcW id; have y2 := k01.cellv tcD id; have z1 := (HFz.out _ k01).1; have z2 := (HFz.out _ k01).2))
                  all_goals
                    clear x0 x1 x2 x3 y1 y2 z1 z2 o1
                    have h1 := HQ.out.keep k01 (fun z e => e.elim) id id id id
                    obtain ⟨g1, o1, rfl, _⟩ := rb1.pt (by omega)
                    have hg1 : wa.heap.size ≤ g1 := (hp1 _ rfl).1
                    have h2 := h1.setW (i := k) (xs := B1k) rfl ⟨g1, o1, cc1, rfl, hcc1, rb1, fun e => by rcases e with e | e | e | e | e; all_goals first | omega | (have := HYa.out _ e; omega)⟩
                    have h3 := h2.setD (i := k) (b := false) hkN rfl
                    have HR5 : Hid (Rp _ x tb tw td N (upToRc (k + 1) (crB Bf Wf df zs (k : Int) c) Bf) (upToRc (k + 1) (crB Bf Wf df zs (k : Int) c) Wf) (upToRc (k + 1) (fun _ => false) df) Y) := h3.congr HB1.out (fun j _ => upTo_step HBk.out j) (fun j _ => upTo_step rfl j)
                    have HK5 : Hid (Kp (fun z => z = tb ∨ z = tw ∨ z = td) w ((w1.setCell ⟨tw, k, none⟩ (.slice (some ⟨g1, o1, none⟩) 64 cc1)).setCell ⟨td, k, none⟩ (.bool false))) := ((HKa.out.trans k01 (fun _ _ e => e.elim)).trans (kp_setR w1 tw k _) (fun _ _ e => Or.inr (Or.inl e))).trans (kp_setR _ td k _) (fun _ _ e => Or.inr (Or.inr e))
                    clear h1 h2 h3 rb1 hp1 k01 k1 HQ HO HFz
                    go_wp2
                    go_roundg (N - (k + 1))
                    case rel => exact ⟨k + 1, by omega, rfl, by go_num, HK5.out, HR5.out⟩
                    case measure => omega
                · go_simp
                  refine hKc.out _ _ (HS0.out _ kd0) (fun hHeld => ?_)
                  clear hKc Kc
                  refine wpAnyH_take (i := 23) (v := ?zvc23) (List.getElem?_toArray.trans rfl) (by kernel_rfl) (by kernel_rfl) (by kernel_rfl) (fun _ _ _ h => h) (Or.inl ⟨by rfl, ?zyc23⟩) (by assumption) ?zrc23
                  case zyc23 => (intro w hSw; (try dsimp only at hSw); go_simp; try with_reducible rfl)
                  simp only [Act.put, List.setIfInBounds_toArray, List.set_cons_zero, List.set_cons_succ]
                  refine wpAnyH_ready (rs := [14]) (by kernel_rfl) (by simp) ?_
                  refine AllReadyH.cons rfl (fun Kd hKd => ?_) AllReadyH.nil
                  go_simp
                  go_wp2_with (go_at_call 111; refine HCl.out.mono ?_; rintro e w5 ⟨v5, rfl, k5, o5⟩; have k05 := kd0.trans k5 (fun _ _ e => e); have tcB5 := k05.cellv tcB0 id)
                  refine hKd.out _ _ (HS0.out _ k05) (fun hHeld => ?_)
                  clear hKd Kd
                  refine wpAnyH_ready (rs := [24]) (by kernel_rfl) (by simp) ?_
                  refine AllReadyH.cons rfl (fun Kyp hKyp => ?_) AllReadyH.nil
                  refine step_append_bytes w5 rfl (.tmp 85) (.tmp 94) rfl wr.heap.size v5 xs rfl o5 pw l2 (ccb0 - c) ys rfl (HR2.out.keep0 k05) HXLL.out k05.size ?_
                  intro v6 w6 o6 hk6 hat6
                  obtain ⟨g6, cap6, e6, hg6, hlt6⟩ := World.ownsRow.form o6 HXYL.out
                  subst e6
                  rw [HXY64.out]
                  have kr6 := HKr0.out v5 w5 w6 k05 o5 hk6
                  have t26 := kr6.cellv tcB0 id
                  have f26 := HFz0.out w6 kr6
                  refine hKyp.out _ _ (HS0.out _ kr6) (fun hHeld => ?_)
                  clear hKyp Kyp
                  simp only [Act.put, List.setIfInBounds_toArray]
                  refine wpAnyH_take (i := 25) (v := ?zvy25) (List.getElem?_toArray.trans rfl) (by kernel_rfl) (by kernel_rfl) (by kernel_rfl) (fun _ _ _ h => h) (Or.inl ⟨by rfl, ?zyy25⟩) (by assumption) ?zry25
                  case zyy25 => (intro w hSw; (try dsimp only at hSw); go_simp; try with_reducible rfl)
                  simp only [Act.put]
                  refine wpAnyH_ready (rs := [26]) (by kernel_rfl) (by simp) ?_
                  refine AllReadyH.cons rfl (fun Kys hKys => ?_) AllReadyH.nil
                  go_simp
                  refine hKys.out _ _ (HS1.out _ _ kr6) (fun hHeld => ?_)
                  refine wpAnyH_done (by kernel_rfl) ?_ _
                  clear hKys Kys hHeld t26 f26 tcB5
                  obtain ⟨po, cco, evo, hcco, rbo, hpo⟩ := o6.rb HXB.out
                  rw [HXY64.out] at hcco rbo
                  have evo2 : (Value.slice (some ⟨g6, 0, none⟩) (xs ++ ys).length cap6) = .slice po (xs ++ ys).length cco := evo
                  simp only [Value.slice.injEq, true_and] at evo2
                  obtain ⟨rfl, rfl⟩ := evo2
                  have hh1 := hR.out.keep kr6 (fun z e => e.elim) id id id id
                  have hh2 := hh1.setB (i := k) (xs := xs ++ ys) rfl ⟨g6, 0, cap6, rfl, hcco, rbo, fun e => by rcases e with e | e | e | e | e; all_goals first | omega | (have := HYa.out _ e; omega)⟩
                  obtain ⟨wa, hwa⟩ : ∃ z, z = w6.setCell ⟨tb, k, none⟩ (.slice (some ⟨g6, 0, none⟩) 64 cap6) := ⟨_, rfl⟩
                  rw [← hwa] at hh2 ⊢
                  have kwa : Kp (fun z => z = tb) wr wa := by rw [hwa]; exact (kr6.mono (fun _ _ e => e.elim)).trans (kp_setR w6 tb k _) (fun _ _ e => e)
                  have HYr := HYa
                  have HYa : Hid (∀ z, Y z → z < wa.heap.size) := fun z hz => Nat.lt_of_lt_of_le (HYr.out z hz) kwa.size
                  have HKr := HKa
                  have HKa : Hid (Kp (fun z => z = tb ∨ z = tw ∨ z = td) w wa) := HKr.out.trans kwa (fun _ _ e => Or.inl e)
                  obtain ⟨B1k, hB1k⟩ : ∃ B, B = xs ++ ys := ⟨_, rfl⟩
                  have HQ : Hid (Rp wa x tb tw td N (fun j => if j = k then xs ++ ys else upToRc k (crB Bf Wf df zs (k : Int) c) Bf j) (upToRc k (crB Bf Wf df zs (k : Int) c) Wf) (upToRc k (fun _ => false) df) Y) := hh2
                  have HBq : Hid ((if k = k then xs ++ ys else upToRc k (crB Bf Wf df zs (k : Int) c) Bf k) = B1k) := by show _ = _; rw [if_pos rfl, hB1k]
                  have HBk : Hid (B1k = crB Bf Wf df zs (k : Int) c k) := by show _ = _; rw [hB1k, HXY.out]
                  have HB1 : Hid (∀ j, j < N → (if j = k then xs ++ ys else upToRc k (crB Bf Wf df zs (k : Int) c) Bf j) = upToRc (k + 1) (crB Bf Wf df zs (k : Int) c) Bf j) := fun j _ => upTo_step HXY.out j
                  clear hR hB1k hh1 hh2 rbo hpo hwa kwa HFz0 HYr HKr HKr0 r0 r1 tcB0 tcW0 n1' n2' n3' n4' n5' n6' m1' m4' kd0 o5 o6 k05 k5 kr6 hk6 hat6 s1 s2 HR1 HR2 HCl evo
                  -- the sector is what is durable now
                  have hlt' := HQ.out.lt
                  obtain ⟨n1, n2, n3, n4, n5, n6⟩ := HQ.out.ne
                  obtain ⟨cb, hcb, q0⟩ := HQ.out.c0
                  obtain ⟨cw, hcw, q1⟩ := HQ.out.c1
                  obtain ⟨cd', hcd', q2⟩ := HQ.out.c2
                  obtain ⟨_, bbB, oB, ccB, tcB, hccB, rbB, _⟩ := HQ.out.B.at hkN
                  rw [HBq.out] at rbB
                  obtain ⟨hfW, bbW, oW, ccW, tcW, _, _, _⟩ := HQ.out.W.at hkN
                  obtain ⟨cpD, fD, hcpD, hrD⟩ := HQ.out.D
                  have tcD := hrD.cell (i := k) (by omega)
                  rw [if_pos hkN] at tcD
                  have hfD := hrD.frozen k
                  have HO : Hid (∀ w', Kp (fun _ => False) wa w' → ∀ c, Calls _ _ #[.slice _ _ c] w' _) := fun w' k' c => own_ok (some ⟨bbB, oB, none⟩) 64 c B1k w' (rbB.keep0 k') (show 64 ≤ 140737488355328 by omega)
                  have HX : Hid (∀ y ∈ B1k, y < 256) := rbB.byte
                  have HXL : Hid (B1k.length = 64) := rbB.len
                  have HFz : Hid (∀ w', Kp (fun _ => False) wa w' → w'.frozen? ⟨tw, k, none⟩ = false ∧ w'.frozen? ⟨td, k, none⟩ = false) := fun w' kk => ⟨by rw [World.frozen?_of_block (w := wa) (kk.block tw hlt'.2.2.1 id)]; exact hfW, by rw [World.frozen?_of_block (w := wa) (kk.block td hlt'.2.2.2 id)]; exact hfD⟩
                  have m1 : ¬ tw = x := fun e => n2 e.symm
                  have m2 : ¬ td = x := fun e => n3 e.symm
                  have m3 : ¬ td = tw := fun e => n6 e.symm
                  have m4 : ¬ tw = tb := fun e => n4 e.symm
                  have m5 : ¬ td = tb := fun e => n5 e.symm
                  have kd : Kp (fun _ => False) wa wa.drew := (Kp.refl _ _).drew
                  clear hrD rbB
                  go_wp2_with fail
                  go_region_held3 (fun z => z.cell? ⟨x, 0, none⟩ = some (.slice (some ⟨tb, 0, none⟩) N cb) ∧ z.cell? ⟨x, 1, none⟩ = some (.slice (some ⟨tw, 0, none⟩) N cw) ∧ z.cell? ⟨x, 2, none⟩ = some (.slice (some ⟨td, 0, none⟩) N cd') ∧ z.cell? ⟨tb, k, none⟩ = some (.slice (some ⟨bbB, oB, none⟩) 64 ccB)) (go_keep)
                    (first
                      | (go_at_call 111; refine (HO.out _ kd _).mono ?_; rintro e w1 ⟨v1, rfl, k1, o1⟩; obtain ⟨p1, cc1, ev1, hcc1, rb1, hp1⟩ := o1.rb HX.out; rw [HXL.out] at ev1 rb1 hcc1; subst ev1; have k01 := kd.trans k1 (fun _ _ e => e); have x0 := k01.cellv q0 id; have x1 := k01.cellv q1 id; have x2 := k01.cellv q2 id; have x3 := k01.cellv tcB id; have y1 := k01.cellv tcW id; have y2 := k01.cellv tcD id; have z1 := (HFz.out _ k01).1; have z2 := (HFz.out _ k01).2))
                  all_goals
                    clear x0 x1 x2 x3 y1 y2 z1 z2 o1
                    have h1 := HQ.out.keep k01 (fun z e => e.elim) id id id id
                    obtain ⟨g1, o1, rfl, _⟩ := rb1.pt (by omega)
                    have hg1 : wa.heap.size ≤ g1 := (hp1 _ rfl).1
                    have h2 := h1.setW (i := k) (xs := B1k) rfl ⟨g1, o1, cc1, rfl, hcc1, rb1, fun e => by rcases e with e | e | e | e | e; all_goals first | omega | (have := HYa.out _ e; omega)⟩
                    have h3 := h2.setD (i := k) (b := false) hkN rfl
                    have HR5 : Hid (Rp _ x tb tw td N (upToRc (k + 1) (crB Bf Wf df zs (k : Int) c) Bf) (upToRc (k + 1) (crB Bf Wf df zs (k : Int) c) Wf) (upToRc (k + 1) (fun _ => false) df) Y) := h3.congr HB1.out (fun j _ => upTo_step HBk.out j) (fun j _ => upTo_step rfl j)
                    have HK5 : Hid (Kp (fun z => z = tb ∨ z = tw ∨ z = td) w ((w1.setCell ⟨tw, k, none⟩ (.slice (some ⟨g1, o1, none⟩) 64 cc1)).setCell ⟨td, k, none⟩ (.bool false))) := ((HKa.out.trans k01 (fun _ _ e => e.elim)).trans (kp_setR w1 tw k _) (fun _ _ e => Or.inr (Or.inl e))).trans (kp_setR _ td k _) (fun _ _ e => Or.inr (Or.inr e))
                    clear h1 h2 h3 rb1 hp1 k01 k1 HQ HO HFz
                    go_wp2
                    go_roundg (N - (k + 1))
                    case rel => exact ⟨k + 1, by omega, rfl, by go_num, HK5.out, HR5.out⟩
                    case measure => omega
              · have HCk : Hid (crB Bf Wf df zs i c k = Bf k) := by show _ = _; unfold crB; rw [if_neg (fun h => hbk h.2), if_neg (fun h => hki h.2)]
                have hki2 : ¬ (k : Int) = i := hki
                clear HBt hbk
                obtain ⟨wa, rfl⟩ : ∃ z, z = wr := ⟨_, rfl⟩
                obtain ⟨B1k, hB1k⟩ : ∃ B, B = Bf k := ⟨_, rfl⟩
                have HQ : Hid (Rp wa x tb tw td N (upToRc k (crB Bf Wf df zs i c) Bf) (upToRc k (crB Bf Wf df zs i c) Wf) (upToRc k (fun _ => false) df) Y) := hR.out
                have HBq : Hid (upToRc k (crB Bf Wf df zs i c) Bf k = B1k) := by show _ = _; rw [upTo_ge (by omega), hB1k]
                have HBk : Hid (B1k = crB Bf Wf df zs i c k) := by show _ = _; rw [hB1k, HCk.out]
                have HB1 : Hid (∀ j, j < N → upToRc k (crB Bf Wf df zs i c) Bf j = upToRc (k + 1) (crB Bf Wf df zs i c) Bf j) := fun j _ => by
                  rw [← upTo_step (v := B1k) HBk.out j]
                  by_cases e : j = k
                  · rw [if_pos e, e]; exact HBq.out
                  · rw [if_neg e]
                clear hR hB1k
                -- the sector is what is durable now
                have hlt' := HQ.out.lt
                obtain ⟨n1, n2, n3, n4, n5, n6⟩ := HQ.out.ne
                obtain ⟨cb, hcb, q0⟩ := HQ.out.c0
                obtain ⟨cw, hcw, q1⟩ := HQ.out.c1
                obtain ⟨cd', hcd', q2⟩ := HQ.out.c2
                obtain ⟨_, bbB, oB, ccB, tcB, hccB, rbB, _⟩ := HQ.out.B.at hkN
                rw [HBq.out] at rbB
                obtain ⟨hfW, bbW, oW, ccW, tcW, _, _, _⟩ := HQ.out.W.at hkN
                obtain ⟨cpD, fD, hcpD, hrD⟩ := HQ.out.D
                have tcD := hrD.cell (i := k) (by omega)
                rw [if_pos hkN] at tcD
                have hfD := hrD.frozen k
                have HO : Hid (∀ w', Kp (fun _ => False) wa w' → ∀ c, Calls _ _ #[.slice _ _ c] w' _) := fun w' k' c => own_ok (some ⟨bbB, oB, none⟩) 64 c B1k w' (rbB.keep0 k') (show 64 ≤ 140737488355328 by omega)
                have HX : Hid (∀ y ∈ B1k, y < 256) := rbB.byte
                have HXL : Hid (B1k.length = 64) := rbB.len
                have HFz : Hid (∀ w', Kp (fun _ => False) wa w' → w'.frozen? ⟨tw, k, none⟩ = false ∧ w'.frozen? ⟨td, k, none⟩ = false) := fun w' kk => ⟨by rw [World.frozen?_of_block (w := wa) (kk.block tw hlt'.2.2.1 id)]; exact hfW, by rw [World.frozen?_of_block (w := wa) (kk.block td hlt'.2.2.2 id)]; exact hfD⟩
                have m1 : ¬ tw = x := fun e => n2 e.symm
                have m2 : ¬ td = x := fun e => n3 e.symm
                have m3 : ¬ td = tw := fun e => n6 e.symm
                have m4 : ¬ tw = tb := fun e => n4 e.symm
                have m5 : ¬ td = tb := fun e => n5 e.symm
                have kd : Kp (fun _ => False) wa wa.drew := (Kp.refl _ _).drew
                clear hrD rbB
                go_wp2_with fail
                go_region_held3 (fun z => z.cell? ⟨x, 0, none⟩ = some (.slice (some ⟨tb, 0, none⟩) N cb) ∧ z.cell? ⟨x, 1, none⟩ = some (.slice (some ⟨tw, 0, none⟩) N cw) ∧ z.cell? ⟨x, 2, none⟩ = some (.slice (some ⟨td, 0, none⟩) N cd') ∧ z.cell? ⟨tb, k, none⟩ = some (.slice (some ⟨bbB, oB, none⟩) 64 ccB)) (go_keep)
                  (first
                    | (go_at_call 111; refine (HO.out _ kd _).mono ?_; rintro e w1 ⟨v1, rfl, k1, o1⟩; obtain ⟨p1, cc1, ev1, hcc1, rb1, hp1⟩ := o1.rb HX.out; rw [HXL.out] at ev1 rb1 hcc1; subst ev1; have k01 := kd.trans k1 (fun _ _ e => e); have x0 := k01.cellv q0 id; have x1 := k01.cellv q1 id; have x2 := k01.cellv q2 id; have x3 := k01.cellv tcB id; have y1 := k01.cellv tcW id; have y2 := k01.cellv tcD id; have z1 := (HFz.out _ k01).1; have z2 := (HFz.out _ k01).2))
                all_goals
                  clear x0 x1 x2 x3 y1 y2 z1 z2 o1
                  have h1 := HQ.out.keep k01 (fun z e => e.elim) id id id id
                  obtain ⟨g1, o1, rfl, _⟩ := rb1.pt (by omega)
                  have hg1 : wa.heap.size ≤ g1 := (hp1 _ rfl).1
                  have h2 := h1.setW (i := k) (xs := B1k) rfl ⟨g1, o1, cc1, rfl, hcc1, rb1, fun e => by rcases e with e | e | e | e | e; all_goals first | omega | (have := HYa.out _ e; omega)⟩
                  have h3 := h2.setD (i := k) (b := false) hkN rfl
                  have HR5 : Hid (Rp _ x tb tw td N (upToRc (k + 1) (crB Bf Wf df zs i c) Bf) (upToRc (k + 1) (crB Bf Wf df zs i c) Wf) (upToRc (k + 1) (fun _ => false) df) Y) := h3.congr HB1.out (fun j _ => upTo_step HBk.out j) (fun j _ => upTo_step rfl j)
                  have HK5 : Hid (Kp (fun z => z = tb ∨ z = tw ∨ z = td) w ((w1.setCell ⟨tw, k, none⟩ (.slice (some ⟨g1, o1, none⟩) 64 cc1)).setCell ⟨td, k, none⟩ (.bool false))) := ((HKa.out.trans k01 (fun _ _ e => e.elim)).trans (kp_setR w1 tw k _) (fun _ _ e => Or.inr (Or.inl e))).trans (kp_setR _ td k _) (fun _ _ e => Or.inr (Or.inr e))
                  clear h1 h2 h3 rb1 hp1 k01 k1 HQ HO HFz
                  go_wp2
                  go_roundg (N - (k + 1))
                  case rel => exact ⟨k + 1, by omega, rfl, by go_num, HK5.out, HR5.out⟩
                  case measure => omega
          · have hdf : df k = false := by simpa using hdk
            rw [hdf] at dc
            have HCk : Hid (crB Bf Wf df zs i c k = Bf k) := by show _ = _; unfold crB; rw [if_neg (fun h => hdk h.1), if_neg (fun h => hdk h.1)]
            clear HBt hdk
            obtain ⟨wa, rfl⟩ : ∃ z, z = wr := ⟨_, rfl⟩
            obtain ⟨B1k, hB1k⟩ : ∃ B, B = Bf k := ⟨_, rfl⟩
            have HQ : Hid (Rp wa x tb tw td N (upToRc k (crB Bf Wf df zs i c) Bf) (upToRc k (crB Bf Wf df zs i c) Wf) (upToRc k (fun _ => false) df) Y) := hR.out
            have HBq : Hid (upToRc k (crB Bf Wf df zs i c) Bf k = B1k) := by show _ = _; rw [upTo_ge (by omega), hB1k]
            have HBk : Hid (B1k = crB Bf Wf df zs i c k) := by show _ = _; rw [hB1k, HCk.out]
            have HB1 : Hid (∀ j, j < N → upToRc k (crB Bf Wf df zs i c) Bf j = upToRc (k + 1) (crB Bf Wf df zs i c) Bf j) := fun j _ => by
              rw [← upTo_step (v := B1k) HBk.out j]
              by_cases e : j = k
              · rw [if_pos e, e]; exact HBq.out
              · rw [if_neg e]
            clear hR hB1k
            -- the sector is what is durable now
            have hlt' := HQ.out.lt
            obtain ⟨n1, n2, n3, n4, n5, n6⟩ := HQ.out.ne
            obtain ⟨cb, hcb, q0⟩ := HQ.out.c0
            obtain ⟨cw, hcw, q1⟩ := HQ.out.c1
            obtain ⟨cd', hcd', q2⟩ := HQ.out.c2
            obtain ⟨_, bbB, oB, ccB, tcB, hccB, rbB, _⟩ := HQ.out.B.at hkN
            rw [HBq.out] at rbB
            obtain ⟨hfW, bbW, oW, ccW, tcW, _, _, _⟩ := HQ.out.W.at hkN
            obtain ⟨cpD, fD, hcpD, hrD⟩ := HQ.out.D
            have tcD := hrD.cell (i := k) (by omega)
            rw [if_pos hkN] at tcD
            have hfD := hrD.frozen k
            have HO : Hid (∀ w', Kp (fun _ => False) wa w' → ∀ c, Calls _ _ #[.slice _ _ c] w' _) := fun w' k' c => own_ok (some ⟨bbB, oB, none⟩) 64 c B1k w' (rbB.keep0 k') (show 64 ≤ 140737488355328 by omega)
            have HX : Hid (∀ y ∈ B1k, y < 256) := rbB.byte
            have HXL : Hid (B1k.length = 64) := rbB.len
            have HFz : Hid (∀ w', Kp (fun _ => False) wa w' → w'.frozen? ⟨tw, k, none⟩ = false ∧ w'.frozen? ⟨td, k, none⟩ = false) := fun w' kk => ⟨by rw [World.frozen?_of_block (w := wa) (kk.block tw hlt'.2.2.1 id)]; exact hfW, by rw [World.frozen?_of_block (w := wa) (kk.block td hlt'.2.2.2 id)]; exact hfD⟩
            have m1 : ¬ tw = x := fun e => n2 e.symm
            have m2 : ¬ td = x := fun e => n3 e.symm
            have m3 : ¬ td = tw := fun e => n6 e.symm
            have m4 : ¬ tw = tb := fun e => n4 e.symm
            have m5 : ¬ td = tb := fun e => n5 e.symm
            have kd : Kp (fun _ => False) wa wa.drew := (Kp.refl _ _).drew
            clear hrD rbB
            go_wp2_with fail
            go_region_held3 (fun z => z.cell? ⟨x, 0, none⟩ = some (.slice (some ⟨tb, 0, none⟩) N cb) ∧ z.cell? ⟨x, 1, none⟩ = some (.slice (some ⟨tw, 0, none⟩) N cw) ∧ z.cell? ⟨x, 2, none⟩ = some (.slice (some ⟨td, 0, none⟩) N cd') ∧ z.cell? ⟨tb, k, none⟩ = some (.slice (some ⟨bbB, oB, none⟩) 64 ccB)) (go_keep)
              (first
                | (go_at_call 111; refine (HO.out _ kd _).mono ?_; rintro e w1 ⟨v1, rfl, k1, o1⟩; obtain ⟨p1, cc1, ev1, hcc1, rb1, hp1⟩ := o1.rb HX.out; rw [HXL.out] at ev1 rb1 hcc1; subst ev1; have k01 := kd.trans k1 (fun _ _ e => e); have x0 := k01.cellv q0 id; have x1 := k01.cellv q1 id; have x2 := k01.cellv q2 id; have x3 := k01.cellv tcB id; have y1 := k01.cellv tcW id; have y2 := k01.cellv tcD id; have z1 := (HFz.out _ k01).1; have z2 := (HFz.out _ k01).2))
            all_goals
              clear x0 x1 x2 x3 y1 y2 z1 z2 o1
              have h1 := HQ.out.keep k01 (fun z e => e.elim) id id id id
              obtain ⟨g1, o1, rfl, _⟩ := rb1.pt (by omega)
              have hg1 : wa.heap.size ≤ g1 := (hp1 _ rfl).1
              have h2 := h1.setW (i := k) (xs := B1k) rfl ⟨g1, o1, cc1, rfl, hcc1, rb1, fun e => by rcases e with e | e | e | e | e; all_goals first | omega | (have := HYa.out _ e; omega)⟩
              have h3 := h2.setD (i := k) (b := false) hkN rfl
              have HR5 : Hid (Rp _ x tb tw td N (upToRc (k + 1) (crB Bf Wf df zs i c) Bf) (upToRc (k + 1) (crB Bf Wf df zs i c) Wf) (upToRc (k + 1) (fun _ => false) df) Y) := h3.congr HB1.out (fun j _ => upTo_step HBk.out j) (fun j _ => upTo_step rfl j)
              have HK5 : Hid (Kp (fun z => z = tb ∨ z = tw ∨ z = td) w ((w1.setCell ⟨tw, k, none⟩ (.slice (some ⟨g1, o1, none⟩) 64 cc1)).setCell ⟨td, k, none⟩ (.bool false))) := ((HKa.out.trans k01 (fun _ _ e => e.elim)).trans (kp_setR w1 tw k _) (fun _ _ e => Or.inr (Or.inl e))).trans (kp_setR _ td k _) (fun _ _ e => Or.inr (Or.inr e))
              clear h1 h2 h3 rb1 hp1 k01 k1 HQ HO HFz
              go_wp2
              go_roundg (N - (k + 1))
              case rel => exact ⟨k + 1, by omega, rfl, by go_num, HK5.out, HR5.out⟩
              case measure => omega
    · have e : N = k := by omega
      have HRe : Hid (Rp wa x tb tw td N (crB Bf Wf df zs i c) (crB Bf Wf df zs i c) (fun _ => false) Y) := hR.out.congr (fun j hj => upTo_lt (by omega)) (fun j hj => upTo_lt (by omega)) (fun j hj => upTo_lt (by omega))
      clear hR HZ HP e
      have hlt2 : ¬ (k : Int) < (N : Int) := hlt
      go_wp2
      go_ret
      exact ⟨rfl, hK, HRe.out⟩
end Go.Proofs.YtippipeebkkghaaGreatDoor
