/- Lists of shards that are to be freed: New, Retire, Keep. -/
import Derived.Test.YtnpaoppfhffoiaaJm
import Derived.Test.YtnpaoppfhffoiaaJa
namespace Go.Proofs.Ytnpaoppfhffoiaa
set_option linter.unusedVariables false
open Go.RowKit Go.Deep Go.Maps

/-- a list at block L: its heap at h, m, v -/
structure Lz (w : World) (L h m : Nat) (v : Value) (l : List Wt) : Prop where
  lL : Lv w L [.pointer (some ⟨h, 0, none⟩)]
  x : Hw w h m v l
  hp : Hpd l l.length
  nL : ¬ Hs h m v L
/-- the blocks that are a list's -/
def Ls (L h m : Nat) (v : Value) : Nat → Prop := fun b => b = L ∨ Hs h m v b
section
variable {w : World} {L h m : Nat} {v : Value} {l : List Wt}
theorem Lz.c (x : Lz w L h m v l) : w.cell? ⟨L, 0, none⟩ = some (.pointer (some ⟨h, 0, none⟩)) := x.lL.cell (j := 0) rfl
theorem Lz.keep {S : Nat → Prop} {w' : World} (x : Lz w L h m v l) (k : Kp S w w') (hS : ∀ b, Ls L h m v b → ¬ S b) : Lz w' L h m v l :=
  ⟨x.lL.keep k (hS L (Or.inl rfl)), x.x.keep k (fun b e => hS b (Or.inr e)), x.hp, x.nL⟩
theorem Lz.keep0 {w' : World} (x : Lz w L h m v l) (k : Kp (fun _ => False) w w') : Lz w' L h m v l := x.keep k (fun _ _ e => e)
theorem Lz.lt (x : Lz w L h m v l) : ∀ b, Ls L h m v b → b < w.heap.size := fun b e => by
  rcases e with e | e | e | e
  · rw [e]; exact x.lL.lt (by simp)
  · rw [e]; exact x.x.hlt
  · rw [e]; exact x.x.mlt
  · exact (ownBlock_lt x.x.o e).2
/-- behind a call on its heap -/
theorem Lz.next {w' : World} {v' : Value} {l' : List Wt} (x : Lz w L h m v l) (k : Kp (Hs h m v) w w') (x' : Hw w' h m v' l') (hp : Hpd l' l'.length) (hb : v'.ownBlock = v.ownBlock ∨ ∃ g, v'.ownBlock = some g ∧ w.heap.size ≤ g) : Lz w' L h m v' l' := by
  refine ⟨x.lL.keep k x.nL, x', hp, fun e => ?_⟩
  rcases e with e | e | e
  · exact x.nL (Or.inl e)
  · exact x.nL (Or.inr (Or.inl e))
  · rcases hb with hb | ⟨g, hb, hg⟩
    · exact x.nL (Or.inr (Or.inr (hb ▸ e)))
    · rw [hb] at e
      injection e with e
      have := x.lt L (Or.inl rfl)
      omega
end

set_option maxRecDepth 100000 in
theorem lmade_ok {w : World} {L h m : Nat} {v : Value} {l : List Wt} (x : Lz w L h m v l) : Calls Try.prog 27 #[.pointer (some ⟨L, 0, none⟩)] w fun e w' => e = .returned (.bool true) ∧ w' = w := by
  have c := x.c
  clear x
  go_enter Try.func27, Try.ntmps27
  go_wp2
  go_ret
  exact ⟨rfl, rfl⟩

set_option maxRecDepth 100000 in
set_option maxHeartbeats 800000 in
theorem lnew_ok (w : World) : Calls Try.prog 9 #[] w fun e w' => ∃ L h m, e = .returned (.pointer (some ⟨L, 0, none⟩)) ∧ Kp (fun _ => False) w w' ∧ Lz w' L h m (.slice none 0 0) [] ∧ ∀ b, Ls L h m (.slice none 0 0) b → w.heap.size ≤ b := by
  have hmm := @run_makeMap Try.prog
  have HF : Hid (∀ w1 w2 w3 : World, w1 = w.alloc (.map #[] 0) → w2 = w1.alloc (.cells #[.slice none 0 0, .map (some w.heap.size)] 61) → w3 = w2.alloc (.cells #[.pointer (some ⟨w.heap.size + 1, 0, none⟩)] 54) → Kp (fun _ => False) w w3 ∧ Lz w3 (w.heap.size + 2) (w.heap.size + 1) w.heap.size (.slice none 0 0) []) := fun w1 w2 w3 e1 e2 e3 => by
    have k1 : Kp (fun _ => False) w w1 := by rw [e1]; exact (Kp.refl _ _).alloc _
    have k2 : Kp (fun _ => False) w1 w2 := by rw [e2]; exact (Kp.refl _ _).alloc _
    have k3 : Kp (fun _ => False) w2 w3 := by rw [e3]; exact (Kp.refl _ _).alloc _
    have s1 : w1.heap.size = w.heap.size + 1 := by rw [e1]; simp
    have s2 : w2.heap.size = w.heap.size + 2 := by rw [e2]; simp [s1]
    have hm : Px w1 w.heap.size 0 (fun _ _ => none) := by rw [e1]; exact Px.made w
    have hl : Lv w2 (w.heap.size + 1) [.slice none 0 0, .map (some w.heap.size)] := by
      rw [← s1, e2]
      exact Lv.new w1 _ _
    have hL : Lv w3 (w.heap.size + 2) [.pointer (some ⟨w.heap.size + 1, 0, none⟩)] := by
      rw [← s2, e3]
      exact Lv.new w2 _ _
    refine ⟨(k1.trans k2 (fun _ _ e => e)).trans k3 (fun _ _ e => e), hL, ⟨hl.keep k3 (fun e => e), World.ownsRow_nil _ _ _ _, ⟨_, (hm.keep k2 (fun e => e)).keep k3 (fun e => e), fun k hk => absurd hk (Nat.not_lt_zero _), fun a b _ => rfl⟩, fun j k hj => absurd hj (Nat.not_lt_zero _), fun k hk => absurd hk (Nat.not_lt_zero _), by omega, fun g e => by cases e⟩, fun k h0 hk => absurd hk (Nat.not_lt_zero _), fun e => ?_⟩
    rcases e with e | e | e
    · omega
    · omega
    · cases e
  go_enter Try.func9, Try.ntmps9
  go_wp2
  go_ret
  have h1 := HF.out _ _ _ rfl rfl rfl
  refine ⟨w.heap.size + 2, w.heap.size + 1, w.heap.size, ?_, ?_, ?_, fun b e => ?_⟩
  · simp
  · simpa using h1.1
  · simpa using h1.2
  · rcases e with e | e | e | e
    · omega
    · omega
    · omega
    · cases e

set_option maxRecDepth 100000 in
set_option maxHeartbeats 1600000 in
theorem lretire_ok {w : World} {L h m : Nat} {v : Value} {l : List Wt} (x : Lz w L h m v l) (eb ei now : Int) (hl : l.length ≤ 900) (hwf : wf2 eb ei) :
    Calls Try.prog 10 #[.pointer (some ⟨L, 0, none⟩), .int .i64 eb, .int .i64 ei, .int .i64 now] w fun r w' => r = .returned (.int .i64 0) ∧ Kp (Hs h m v) w w' ∧ ∃ v' l', Lz w' L h m v' l' ∧ l'.Perm (addW l ⟨eb, ei, waits now + 83⟩) ∧ (v'.ownBlock = v.ownBlock ∨ ∃ g, v'.ownBlock = some g ∧ w.heap.size ≤ g) := by
  have HM : Hid (Calls _ _ _ w _) := lmade_ok x
  have HX : Hid (Lz w L h m v l) := x
  have HC : Hid (∀ w, Calls _ _ _ w _) := fun w => counted_ok now w
  have e40 : 2 * waits 40 + 3 = 83 := by unfold waits; omega
  have HD := fun w => wait_ok 40 w
  rw [e40] at HD
  have HD : Hid (∀ w, Calls _ _ _ w _) := HD
  have hb := waits_le now
  obtain ⟨c, hc⟩ : ∃ c, c = waits now := ⟨_, rfl⟩
  rw [← hc] at HC hb ⊢
  have w1 : IntKind.i64.wrap (c + 83) = c + 83 := by rw [IntKind.wrap_i64]; omega
  have kd : Kp (fun _ => False) w { w with drawn := w.drawn + 1 } := (Kp.refl _ _).drew
  have xd := x.keep0 kd
  have cd := xd.c
  have HE : Hid (Calls _ _ _ { w with drawn := w.drawn + 1 } _) := wadd_ok xd.x xd.hp eb ei (c + 83) hl hwf
  have HXD : Hid (Lz { w with drawn := w.drawn + 1 } L h m v l) := xd
  have HKD : Hid (Kp (fun _ => False) w { w with drawn := w.drawn + 1 }) := kd
  clear x hb hc xd hl hwf e40 kd
  go_enter Try.func10, Try.ntmps10
  go_wp2_with fail
  refine HM.out.mono ?_
  rintro q w' ⟨rfl, hw⟩
  obtain rfl := hw.symm
  clear hw HM
  go_wp2_with fail
  refine wp_region_still_tail 12 (by kernel_rfl) (by kernel_rfl) ?_
  obtain ⟨w2, hw2⟩ : ∃ x, x = { w with drawn := w.drawn + 1 } := ⟨_, rfl⟩
  rw [← hw2] at cd HE HXD HKD ⊢
  clear hw2
  simp only [List.take_succ_cons, List.take_zero, List.drop_succ_cons, List.drop_zero]
  iterate 8 still_step
  still_call (HC.out w2)
  still_call (HD.out w2)
  iterate 2 still_step
  refine wpStill_nil ?_
  clear cd
  go_wp2_with fail
  refine HE.out.mono ?_
  rintro q w3 ⟨rfl, k3, v3, l3, x3, p3, h3, b3⟩
  have HF : Hid (Kp (Hs h m v) w w3 ∧ ∃ v' l', Lz w3 L h m v' l' ∧ l'.Perm (addW l ⟨eb, ei, c + 83⟩) ∧ (v'.ownBlock = v.ownBlock ∨ ∃ g, v'.ownBlock = some g ∧ w.heap.size ≤ g)) := by
    have kk : Kp (Hs h m v) w w3 := (HKD.out.mono (S' := Hs h m v) (fun _ _ e => e.elim)).trans k3 (fun _ _ e => e)
    exact ⟨kk, v3, l3, HX.out.next kk x3 h3 b3, p3, b3⟩
  clear k3 x3 p3 h3 b3 HE
  go_wp2
  go_ret
  exact ⟨rfl, HF.out⟩

set_option maxRecDepth 100000 in
set_option maxHeartbeats 1600000 in
theorem lkeep_ok {w : World} {L h m : Nat} {v : Value} {l : List Wt} (x : Lz w L h m v l) (eb ei : Int) (hl : l.length ≤ 900) (hwf : wf2 eb ei) :
    Calls Try.prog 12 #[.pointer (some ⟨L, 0, none⟩), .int .i64 eb, .int .i64 ei] w fun r w' => r = .returned (.int .i64 0) ∧ Kp (Hs h m v) w w' ∧ ∃ v' l', Lz w' L h m v' l' ∧ l'.Perm (dropW l eb ei) ∧ v'.ownBlock = v.ownBlock := by
  have HM : Hid (Calls _ _ _ w _) := lmade_ok x
  have HX : Hid (Lz w L h m v l) := x
  have HE : Hid (Calls _ _ _ w _) := wdrop_ok x.x x.hp eb ei hl hwf
  have c := x.c
  clear x hl hwf
  go_enter Try.func12, Try.ntmps12
  go_wp2_with fail
  refine HM.out.mono ?_
  rintro q w' ⟨rfl, hw⟩
  obtain rfl := hw.symm
  clear hw HM
  go_wp2_with fail
  refine HE.out.mono ?_
  rintro q w3 ⟨rfl, k3, v3, l3, x3, p3, h3, b3⟩
  have HF : Hid (Kp (Hs h m v) w w3 ∧ ∃ v' l', Lz w3 L h m v' l' ∧ l'.Perm (dropW l eb ei) ∧ v'.ownBlock = v.ownBlock) := ⟨k3, v3, l3, HX.out.next k3 x3 h3 (Or.inl b3), p3, b3⟩
  clear k3 x3 p3 h3 b3 HE
  go_wp2
  go_ret
  exact ⟨rfl, HF.out⟩
end Go.Proofs.Ytnpaoppfhffoiaa
