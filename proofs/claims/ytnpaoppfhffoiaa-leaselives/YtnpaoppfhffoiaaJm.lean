/- Shards that are to be freed: add, drop, upTo, take. -/
import Derived.Test.YtnpaoppfhffoiaaJl
namespace Go.Proofs.Ytnpaoppfhffoiaa
set_option linter.unusedVariables false
open Go.RowKit Go.Deep Go.Maps

def key (e : Wt) : Int × Int := (e.b, e.i)
theorem onc_iff (l : List Wt) : Onc l ↔ (l.map key).Nodup := by
  rw [List.Nodup, List.pairwise_map, List.pairwise_iff_getElem]
  constructor
  · intro h i j hi hj hij e
    have h1 := h i j hi hj (by rw [getD_of_get hi, getD_of_get hj]; exact congrArg Prod.fst e) (by rw [getD_of_get hi, getD_of_get hj]; exact congrArg Prod.snd e)
    omega
  · intro h j k hj hk h1 h2
    rw [getD_of_get hj, getD_of_get hk] at h1 h2
    rcases Nat.lt_trichotomy j k with e | e | e
    · exact (h j k hj hk e (Prod.ext h1 h2)).elim
    · exact e
    · exact (h k j hk hj e (Prod.ext h1.symm h2.symm)).elim
/-- one more, unless its shard is there -/
def addW (l : List Wt) (e : Wt) : List Wt := if key e ∈ l.map key then l else l ++ [e]
def dropW (l : List Wt) (a b : Int) : List Wt := l.filter (fun e => !(decide (key e = (a, b))))
theorem dropW_none {l : List Wt} {a b : Int} (h : (a, b) ∉ l.map key) : dropW l a b = l := by
  unfold dropW
  rw [List.filter_eq_self]
  intro e he
  simp only [Bool.not_eq_eq_eq_not, Bool.not_true, decide_eq_false_iff_not]
  exact fun e2 => h (List.mem_map.2 ⟨e, he, e2⟩)
theorem dropW_perm {l l' : List Wt} {e : Wt} {a b : Int} (hn : (l.map key).Nodup) (hk : key e = (a, b)) (hp : (e :: l').Perm l) : l'.Perm (dropW l a b) := by
  have h1 : ((e :: l').map key).Nodup := (hp.map key).nodup_iff.2 hn
  rw [List.map_cons, List.nodup_cons] at h1
  have h2 : dropW l' a b = l' := dropW_none (by rw [← hk]; exact h1.1)
  have h3 : (dropW (e :: l') a b).Perm (dropW l a b) := hp.filter _
  have h4 : dropW (e :: l') a b = dropW l' a b := by
    unfold dropW
    rw [List.filter_cons_of_neg (by simp [hk])]
  rw [h4, h2] at h3
  exact h3
theorem has_pos {l : List Wt} {T : Int → Int → Option Value} (h : Pos l T) (a b : Int) : ((a, b) ∉ l.map key → T a b = none) ∧ ((a, b) ∈ l.map key → ∃ k, k < l.length ∧ key (l.getD k wt0) = (a, b) ∧ T a b = some (.int .i64 (k : Int))) := by
  refine ⟨fun hn => h.2 a b (fun k hk e => hn (List.mem_map.2 ⟨l.getD k wt0, by rw [getD_of_get hk]; exact List.getElem_mem _, Prod.ext e.1 e.2⟩)), fun hm => ?_⟩
  obtain ⟨e, he, hk⟩ := List.mem_map.1 hm
  obtain ⟨k, hk1, hk2⟩ := List.getElem_of_mem he
  refine ⟨k, hk1, by rw [getD_of_get hk1, hk2]; exact hk, ?_⟩
  have := h.1 k hk1
  rw [getD_of_get hk1, hk2] at this
  have e1 : e.b = a := congrArg Prod.fst hk
  have e2 : e.i = b := congrArg Prod.snd hk
  rw [e1, e2] at this
  exact this

set_option maxRecDepth 100000 in
set_option maxHeartbeats 1600000 in
theorem wfield (a b t : Int) (w : World) : (Instr.field 65 (.agg #[.int .i64 a, .int .i64 b, .int .i64 t]) 0).run Try.prog w = .ok (.agg #[.int .i64 a, .int .i64 b]) w := by kernel_rfl
set_option maxRecDepth 100000 in
set_option maxHeartbeats 1600000 in
theorem wadd_ok {w : World} {h m : Nat} {v : Value} {l : List Wt} (x : Hw w h m v l) (hp : Hpd l l.length) (eb ei et : Int) (hl : l.length ≤ 900) (hwf : wf2 eb ei) :
    Calls Try.prog 28 #[.pointer (some ⟨h, 0, none⟩), .agg #[.int .i64 eb, .int .i64 ei, .int .i64 et]] w fun r w' => r = .returned (.tuple #[]) ∧ Kp (Hs h m v) w w' ∧ ∃ v' l', Hw w' h m v' l' ∧ l'.Perm (addW l ⟨eb, ei, et⟩) ∧ Hpd l' l'.length ∧ (v'.ownBlock = v.ownBlock ∨ ∃ g, v'.ownBlock = some g ∧ w.heap.size ≤ g) := by
  obtain ⟨T, hT1, hT2⟩ := x.mp
  obtain ⟨p1, p2⟩ := has_pos hT2 eb ei
  have kd : Kp (fun _ => False) w (w.alloc (.cells #[.int .i64 eb, .int .i64 ei, .int .i64 et] 65)) := (Kp.refl _ _).alloc _
  have hrd : Lv (w.alloc (.cells #[.int .i64 eb, .int .i64 ei, .int .i64 et] 65)) w.heap.size [.int .i64 eb, .int .i64 ei, .int .i64 et] := Lv.new w _ _
  have hlk : ∀ z, Kp (fun _ => False) w z → (Instr.lookup 58 (.map (some m)) (pv2 eb ei) true).run Try.prog z = .ok (.tuple #[(T eb ei).getD (.int .i64 0), .bool (T eb ei).isSome]) z := fun z kz => look_px_ok Try.underlying58 zeroJ (hT1.keep kz (fun e => e)) hwf
  have HLK : Hid (∀ z, Kp (fun _ => False) w z → (Instr.lookup 58 (.map (some m)) (pv2 eb ei) true).run Try.prog z = .ok (.tuple #[(T eb ei).getD (.int .i64 0), .bool (T eb ei).isSome]) z) := hlk
  have HX : Hid (Hw w h m v l) := x
  have HP : Hid (Hpd l l.length ∧ l.length ≤ 900 ∧ wf2 eb ei) := ⟨hp, hl, hwf⟩
  by_cases hin : (eb, ei) ∈ l.map key
  · obtain ⟨k, hk, hkk, hTk⟩ := p2 hin
    rw [hTk] at HLK
    have HIN : Hid (addW l ⟨eb, ei, et⟩ = l) := by show addW l ⟨eb, ei, et⟩ = l; unfold addW; rw [if_pos (show key ⟨eb, ei, et⟩ ∈ l.map key from hin)]
    clear x hT1 hT2 p1 p2 hlk hp hl hwf hk hkk hTk hin kd hrd
    go_enter Try.func28, Try.ntmps28
    go_wp2_with fail
    have kd : Kp (fun _ => False) w (w.alloc (.cells #[.int .i64 eb, .int .i64 ei, .int .i64 et] 65)) := (Kp.refl _ _).alloc _
    have hrd : Lv (w.alloc (.cells #[.int .i64 eb, .int .i64 ei, .int .i64 et] 65)) w.heap.size [.int .i64 eb, .int .i64 ei, .int .i64 et] := Lv.new w _ _
    obtain ⟨w1, hw1⟩ : ∃ x, x = w.alloc (.cells #[.int .i64 eb, .int .i64 ei, .int .i64 et] 65) := ⟨_, rfl⟩
    obtain ⟨r, hr⟩ : ∃ q, q = w.heap.size := ⟨_, rfl⟩
    rw [← hw1] at kd hrd ⊢
    rw [← hr] at hrd ⊢
    clear hw1 hr
    have c1 := (HX.out.keep0 kd).c1
    have r0 := hrd.cell (j := 0) rfl
    have r1 := hrd.cell (j := 1) rfl
    have hl1 := fun q => HLK.out (w1.drewN q) (kd.drewN q)
    have HKD : Hid (Kp (fun _ => False) w w1) := kd
    clear hrd kd
    go_quiet (fail)
    go_wp2
    go_end0
    refine ⟨rfl, ?_, v, l, ?_, by rw [HIN.out], HP.out.1, Or.inl rfl⟩
    · exact (HKD.out.drewN _).mono (fun _ _ e => e.elim)
    · exact HX.out.keep0 (HKD.out.drewN _)
  · have hTn := p1 hin
    rw [hTn] at HLK
    have HIN : Hid (addW l ⟨eb, ei, et⟩ = l ++ [⟨eb, ei, et⟩]) := by show addW l ⟨eb, ei, et⟩ = l ++ [⟨eb, ei, et⟩]; unfold addW; rw [if_neg (show ¬ key ⟨eb, ei, et⟩ ∈ l.map key from hin)]
    have HNE : Hid (∀ k, k < l.length → ¬ ((l.getD k wt0).b = eb ∧ (l.getD k wt0).i = ei)) := fun k hk e => hin (List.mem_map.2 ⟨l.getD k wt0, by rw [getD_of_get hk]; exact List.getElem_mem _, Prod.ext e.1 e.2⟩)
    clear x hT1 hT2 p1 p2 hlk hp hl hwf hTn hin kd hrd
    go_enter Try.func28, Try.ntmps28
    go_wp2_with fail
    have kd : Kp (fun _ => False) w (w.alloc (.cells #[.int .i64 eb, .int .i64 ei, .int .i64 et] 65)) := (Kp.refl _ _).alloc _
    have hrd : Lv (w.alloc (.cells #[.int .i64 eb, .int .i64 ei, .int .i64 et] 65)) w.heap.size [.int .i64 eb, .int .i64 ei, .int .i64 et] := Lv.new w _ _
    obtain ⟨w1, hw1⟩ : ∃ x, x = w.alloc (.cells #[.int .i64 eb, .int .i64 ei, .int .i64 et] 65) := ⟨_, rfl⟩
    obtain ⟨r, hr⟩ : ∃ q, q = w.heap.size := ⟨_, rfl⟩
    rw [← hw1] at kd hrd ⊢
    rw [← hr] at hrd ⊢
    clear hw1 hr
    have c1 := (HX.out.keep0 kd).c1
    have r0 := hrd.cell (j := 0) rfl
    have r1 := hrd.cell (j := 1) rfl
    have hl1 := fun q => HLK.out (w1.drewN q) (kd.drewN q)
    have HKD : Hid (Kp (fun _ => False) w w1) := kd
    have HRD : Hid (Lv w1 r [.int .i64 eb, .int .i64 ei, .int .i64 et]) := hrd
    clear hrd kd
    go_quiet (fail)
    clear r0 r1 hl1 c1
    have HK2 : Hid (Kp (fun _ => False) w (w1.drewN nq)) := HKD.out.drewN _
    have hr2 := HRD.out.keep ((Kp.refl (fun _ => False) w1).drewN nq) (fun e => e)
    obtain ⟨w2, hw2⟩ : ∃ x, x = w1.drewN nq := ⟨_, rfl⟩
    rw [← hw2] at HK2 hr2 ⊢
    clear hw2
    have r0 := hr2.cell (j := 0) rfl
    have r1 := hr2.cell (j := 1) rfl
    have r2 := hr2.cell (j := 2) rfl
    clear hr2
    have HE : Hid (Calls _ _ _ w2 _) := hpush_ok (HX.out.keep0 HK2.out) HP.out.1 ⟨eb, ei, et⟩ HP.out.2.1 HP.out.2.2 HNE.out
    go_wp2_with fail
    refine HE.out.mono ?_
    rintro q w3 ⟨rfl, k3, v3, l3, x3, p3, h3, b3⟩
    have HF : Hid (Kp (Hs h m v) w w3 ∧ ∃ v' l', Hw w3 h m v' l' ∧ l'.Perm (addW l ⟨eb, ei, et⟩) ∧ Hpd l' l'.length ∧ (v'.ownBlock = v.ownBlock ∨ ∃ g, v'.ownBlock = some g ∧ w.heap.size ≤ g)) := by
      refine ⟨(HK2.out.mono (S' := Hs h m v) (fun _ _ e => e.elim)).trans k3 (fun _ _ e => e), v3, l3, x3, by rw [HIN.out]; exact p3, h3, ?_⟩
      rcases b3 with b3 | ⟨g, b3, b4⟩
      · exact Or.inl b3
      · exact Or.inr ⟨g, b3, Nat.le_trans HK2.out.size b4⟩
    clear k3 x3 p3 h3 b3 HE r0 r1 r2
    go_wp2
    go_end0
    exact ⟨rfl, HF.out⟩

set_option maxRecDepth 100000 in
set_option maxHeartbeats 1600000 in
theorem wdrop_ok {w : World} {h m : Nat} {v : Value} {l : List Wt} (x : Hw w h m v l) (hp : Hpd l l.length) (eb ei : Int) (hl : l.length ≤ 900) (hwf : wf2 eb ei) :
    Calls Try.prog 32 #[.pointer (some ⟨h, 0, none⟩), .agg #[.int .i64 eb, .int .i64 ei]] w fun r w' => r = .returned (.tuple #[]) ∧ Kp (Hs h m v) w w' ∧ ∃ v' l', Hw w' h m v' l' ∧ l'.Perm (dropW l eb ei) ∧ Hpd l' l'.length ∧ v'.ownBlock = v.ownBlock := by
  obtain ⟨T, hT1, hT2⟩ := x.mp
  obtain ⟨p1, p2⟩ := has_pos hT2 eb ei
  have hlk : ∀ z, Kp (fun _ => False) w z → (Instr.lookup 58 (.map (some m)) (pv2 eb ei) true).run Try.prog z = .ok (.tuple #[(T eb ei).getD (.int .i64 0), .bool (T eb ei).isSome]) z := fun z kz => look_px_ok Try.underlying58 zeroJ (hT1.keep kz (fun e => e)) hwf
  have HLK : Hid (∀ z, Kp (fun _ => False) w z → (Instr.lookup 58 (.map (some m)) (pv2 eb ei) true).run Try.prog z = .ok (.tuple #[(T eb ei).getD (.int .i64 0), .bool (T eb ei).isSome]) z) := hlk
  have HX : Hid (Hw w h m v l) := x
  have HP : Hid (Hpd l l.length ∧ l.length ≤ 900) := ⟨hp, hl⟩
  by_cases hin : (eb, ei) ∈ l.map key
  · obtain ⟨k, hk, hkk, hTk⟩ := p2 hin
    rw [hTk] at HLK
    have HIN : Hid (k < l.length ∧ key (l.getD k wt0) = (eb, ei)) := ⟨hk, hkk⟩
    clear x hT1 hT2 p1 p2 hlk hp hl hwf hk hkk hTk hin
    go_enter Try.func32, Try.ntmps32
    go_wp2_with fail
    have kd : Kp (fun _ => False) w (w.alloc (.cells #[.int .i64 eb, .int .i64 ei] 39)) := (Kp.refl _ _).alloc _
    have hrd : Lv (w.alloc (.cells #[.int .i64 eb, .int .i64 ei] 39)) w.heap.size [.int .i64 eb, .int .i64 ei] := Lv.new w _ _
    obtain ⟨w1, hw1⟩ : ∃ x, x = w.alloc (.cells #[.int .i64 eb, .int .i64 ei] 39) := ⟨_, rfl⟩
    obtain ⟨r, hr⟩ : ∃ q, q = w.heap.size := ⟨_, rfl⟩
    rw [← hw1] at kd hrd ⊢
    rw [← hr] at hrd ⊢
    clear hw1 hr
    have c1 := (HX.out.keep0 kd).c1
    have r0 := hrd.cell (j := 0) rfl
    have r1 := hrd.cell (j := 1) rfl
    have hl1 := fun q => HLK.out (w1.drewN q) (kd.drewN q)
    have HKD : Hid (Kp (fun _ => False) w w1) := kd
    clear hrd kd
    go_quiet (fail)
    clear r0 r1 hl1 c1
    have HK2 : Hid (Kp (fun _ => False) w (w1.drewN nq)) := HKD.out.drewN _
    obtain ⟨w2, hw2⟩ : ∃ x, x = w1.drewN nq := ⟨_, rfl⟩
    rw [← hw2] at HK2 ⊢
    clear hw2
    have HE : Hid (Calls _ _ _ w2 _) := hremove_ok (HX.out.keep0 HK2.out) HP.out.1 k HIN.out.1 HP.out.2
    go_wp2_with fail
    refine HE.out.mono ?_
    rintro q w3 ⟨⟨u, rfl⟩, k3, v3, l3, x3, p3, h3, b3⟩
    have HF : Hid (Kp (Hs h m v) w w3 ∧ ∃ v' l', Hw w3 h m v' l' ∧ l'.Perm (dropW l eb ei) ∧ Hpd l' l'.length ∧ v'.ownBlock = v.ownBlock) := 
      ⟨(HK2.out.mono (S' := Hs h m v) (fun _ _ e => e.elim)).trans k3 (fun _ _ e => e), v3, l3, x3, dropW_perm ((onc_iff l).1 HX.out.nd) HIN.out.2 p3, h3, b3⟩
    clear k3 x3 p3 h3 b3 HE
    go_wp2
    go_end0
    exact ⟨rfl, HF.out⟩
  · have hTn := p1 hin
    rw [hTn] at HLK
    have HIN : Hid (dropW l eb ei = l) := dropW_none hin
    clear x hT1 hT2 p1 p2 hlk hp hl hwf hTn hin
    go_enter Try.func32, Try.ntmps32
    go_wp2_with fail
    have kd : Kp (fun _ => False) w (w.alloc (.cells #[.int .i64 eb, .int .i64 ei] 39)) := (Kp.refl _ _).alloc _
    have hrd : Lv (w.alloc (.cells #[.int .i64 eb, .int .i64 ei] 39)) w.heap.size [.int .i64 eb, .int .i64 ei] := Lv.new w _ _
    obtain ⟨w1, hw1⟩ : ∃ x, x = w.alloc (.cells #[.int .i64 eb, .int .i64 ei] 39) := ⟨_, rfl⟩
    obtain ⟨r, hr⟩ : ∃ q, q = w.heap.size := ⟨_, rfl⟩
    rw [← hw1] at kd hrd ⊢
    rw [← hr] at hrd ⊢
    clear hw1 hr
    have c1 := (HX.out.keep0 kd).c1
    have r0 := hrd.cell (j := 0) rfl
    have r1 := hrd.cell (j := 1) rfl
    have hl1 := fun q => HLK.out (w1.drewN q) (kd.drewN q)
    have HKD : Hid (Kp (fun _ => False) w w1) := kd
    clear hrd kd
    go_quiet (fail)
    go_wp2
    go_end0
    refine ⟨rfl, ?_, v, l, ?_, by rw [HIN.out], HP.out.1, rfl⟩
    · exact (HKD.out.drewN _).mono (fun _ _ e => e.elim)
    · exact HX.out.keep0 (HKD.out.drewN _)

set_option maxRecDepth 100000 in
set_option maxHeartbeats 1600000 in
theorem wupto_ok {w : World} {h m : Nat} {v : Value} {l : List Wt} (x : Hw w h m v l) (t : Int) (hl : l.length ≤ 1000) :
    Calls Try.prog 33 #[.pointer (some ⟨h, 0, none⟩), .int .i64 t] w fun r w' => r = .returned (.bool (decide (0 < l.length ∧ tm l 0 ≤ t))) ∧ w' = w := by
  have HE : Hid (Calls _ _ _ w _) := wlen_ok x
  have c0 := x.c0
  rcases Nat.eq_zero_or_pos l.length with h0 | h0
  · have e1 : decide (0 < l.length ∧ tm l 0 ≤ t) = false := by simp [h0]
    rw [e1]
    rw [h0] at HE
    clear x hl h0 e1
    go_enter Try.func33, Try.ntmps33
    go_wp2_with fail
    refine HE.out.mono ?_
    rintro q w1 ⟨rfl, hw1⟩
    obtain rfl := hw1
    clear HE
    go_wp2
    go_ret
    exact ⟨rfl, rfl⟩
  · obtain ⟨g, cap, rfl⟩ := x.form1 h0
    have cn := (x.cn (j := 0) h0).2.2
    have e1 : decide (0 < l.length ∧ tm l 0 ≤ t) = decide ((l.getD 0 wt0).t ≤ t) := by simp only [h0, true_and, tm]
    rw [e1]
    obtain ⟨a, ha⟩ : ∃ a, a = (l.getD 0 wt0).t := ⟨_, rfl⟩
    rw [← ha] at cn ⊢
    obtain ⟨n, hn⟩ : ∃ n, l.length = n + 1 := ⟨l.length - 1, by omega⟩
    rw [hn] at HE c0 hl
    rw [Nat.zero_mul, Nat.zero_add] at cn
    have h1 : decide (((n + 1 : Nat) : Int) > 0) = true := decide_eq_true (by omega)
    have h2 : (0 : Int) < ((n + 1 : Nat) : Int) := by omega
    have h3 : (0 : Int) < (n : Int) + 1 := by omega
    clear x h0 e1 ha hn
    go_enter Try.func33, Try.ntmps33
    go_wp2_with fail
    refine HE.out.mono ?_
    rintro q w1 ⟨rfl, hw1⟩
    obtain rfl := hw1
    clear HE
    go_wp2
    go_ret
    exact ⟨rfl, rfl⟩

set_option maxRecDepth 100000 in
set_option maxHeartbeats 1600000 in
theorem wtake_ok {w : World} {h m : Nat} {v : Value} {l : List Wt} (x : Hw w h m v l) (hp : Hpd l l.length) (h0 : 0 < l.length) (hl : l.length ≤ 900) :
    Calls Try.prog 34 #[.pointer (some ⟨h, 0, none⟩)] w fun r w' => ∃ e : Wt, r = .returned (pv2 e.b e.i) ∧ e = l.getD 0 wt0 ∧ Kp (Hs h m v) w w' ∧ ∃ v' l', Hw w' h m v' l' ∧ (e :: l').Perm l ∧ Hpd l' l'.length ∧ v'.ownBlock = v.ownBlock := by
  have k1 : Kp (fun _ => False) w (w.alloc (.cells #[.int .i64 0, .int .i64 0] 39)) := (Kp.refl _ _).alloc _
  have hta := tasW
  have HE : Hid (Calls _ _ _ (w.alloc (.cells #[.int .i64 0, .int .i64 0] 39)) _) := hpop_ok (x.keep0 k1) hp h0 hl
  have HL : Hid (Lv (w.alloc (.cells #[.int .i64 0, .int .i64 0] 39)) w.heap.size [.int .i64 0, .int .i64 0]) := Lv.new w _ _
  have HB : Hid (∀ b, Hs h m v b → b < w.heap.size) := fun b e => by
    rcases e with e | e | e
    · rw [e]; exact x.hlt
    · rw [e]; exact x.mlt
    · exact (ownBlock_lt x.o e).2
  have K1 : Hid (Kp (fun _ => False) w (w.alloc (.cells #[.int .i64 0, .int .i64 0] 39))) := k1
  clear x k1 hp h0 hl
  go_enter Try.func34, Try.ntmps34
  go_wp2_with fail
  refine HE.out.mono ?_
  rintro q w2 ⟨e, rfl, he, k2, HV⟩
  have hl2 := HL.out.keep k2 (fun e' => by have := HB.out _ e'; omega)
  obtain ⟨r, hr⟩ : ∃ q, q = w.heap.size := ⟨_, rfl⟩
  rw [← hr] at hl2 ⊢
  have HR : Hid (r = w.heap.size) := hr
  obtain ⟨eb, ei, et⟩ := e
  have HHE : Hid ((⟨eb, ei, et⟩ : Wt) = l.getD 0 wt0) := he
  have HK2 : Hid (Kp (Hs h m v) w w2) := (K1.out.mono (S' := Hs h m v) (fun _ _ e => e.elim)).trans k2 (fun _ _ e => e)
  have HVV : Hid (∃ v' l', Hw w2 h m v' l' ∧ ((⟨eb, ei, et⟩ : Wt) :: l').Perm l ∧ Hpd l' l'.length ∧ v'.ownBlock = v.ownBlock) := HV
  have r0 := hl2.cell (j := 0) rfl
  have r1 := hl2.cell (j := 1) rfl
  have f0 : w2.frozen? ⟨r, 0, none⟩ = false := hl2.fz (by simp)
  have f1 : w2.frozen? ⟨r, 1, none⟩ = false := hl2.fz (by simp)
  have HL2 : Hid (Lv w2 r [.int .i64 0, .int .i64 0]) := hl2
  have hfd := wfield eb ei et w2
  clear HE k2 HV hl2 hr he HL K1
  go_wp2
  have ks : Kp (fun b => b = r) w2 ((w2.setCell ⟨r, 0, none⟩ (.int .i64 eb)).setCell ⟨r, 1, none⟩ (.int .i64 ei)) := ((Kp.refl (fun b => b = r) w2).setCell (fun _ => rfl) _).setCell (fun _ => rfl) _
  have hl3 := (HL2.out.set1 0 (.int .i64 eb) (by simp)).set1 1 (.int .i64 ei) (by simp)
  have hl4 : Lv ((w2.setCell ⟨r, 0, none⟩ (.int .i64 eb)).setCell ⟨r, 1, none⟩ (.int .i64 ei)) r [.int .i64 eb, .int .i64 ei] := hl3
  have hrs := HR.out
  refine bodyPost_ret (res_cell rfl _ _ r (pv2 eb ei) rfl (hl4.load ⟨_, Try.underlying39, rfl⟩ (by kernel_rfl) rfl)) rfl ?_
  obtain ⟨v', l', q1, q2, q3, q4⟩ := HVV.out
  refine ⟨⟨eb, ei, et⟩, rfl, HHE.out, HK2.out.trans ks (fun b hb e => by omega), v', l', q1.keep ks (fun b hb e => ?_), q2, q3, q4⟩
  have : Hs h m v b := by
    rcases hb with hb | hb | hb
    · exact Or.inl hb
    · exact Or.inr (Or.inl hb)
    · exact Or.inr (Or.inr (q4 ▸ hb))
  have := HB.out b this
  omega
end Go.Proofs.Ytnpaoppfhffoiaa
