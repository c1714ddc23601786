/- Lists of shards that are to be freed: Due. -/
import Derived.Test.YtnpaoppfhffoiaaJo
import Derived.Test.YtnpaoppfhffoiaaJs
namespace Go.Proofs.Ytnpaoppfhffoiaa
set_option linter.unusedVariables false
open Go.RowKit Go.Deep Go.Maps

theorem infoP0 : (Try.prog.info? 39).map (fun i => (i.zero.map (·.cells.size), i.size, i.bytes)) = some (some 2, 2, 16) := by kernel_rfl
theorem infoP : ∃ i z, Try.prog.info? 39 = some i ∧ i.zero = some z ∧ i.size = 2 ∧ i.bytes = 16 ∧ z.cells.size = 2 := by
  obtain ⟨i, hi, he⟩ := Option.map_eq_some_iff.1 infoP0
  simp only [Prod.mk.injEq] at he
  obtain ⟨h1, h2, h3⟩ := he
  obtain ⟨z, hz, h4⟩ := Option.map_eq_some_iff.1 h1
  exact ⟨i, z, hi, hz, h2, h3, h4⟩
theorem uPs : Try.prog.underlying 38 = some (.slice 39) := Try.underlying38

set_option maxRecDepth 100000 in
set_option maxHeartbeats 3200000 in
theorem ldue_ok {w : World} {L h m : Nat} {v : Value} {l : List Wt} (x : Lz w L h m v l) (now : Int) (hl : l.length ≤ 900) :
    Calls Try.prog 15 #[.pointer (some ⟨L, 0, none⟩), .int .i64 now] w fun r w' => ∃ (rv : Value) (ds : List Wt), r = .returned rv ∧ Kp (Hs h m v) w w' ∧ Pr w' (fun b => w.heap.size ≤ b) rv (srtP (ds.map key)) ∧ ∃ v' l', Lz w' L h m v' l' ∧ (ds ++ l').Perm l ∧ (∀ e ∈ ds, e.t ≤ waits now) ∧ (∀ e ∈ l', waits now < e.t) ∧ v'.ownBlock = v.ownBlock := by
  have HM : Hid (Calls _ _ _ w _) := lmade_ok x
  have HX : Hid (Lz w L h m v l) := x
  have HC : Hid (∀ w, Calls _ _ _ w _) := fun w => counted_ok now w
  have HN : Hid (l.length ≤ 900) := hl
  obtain ⟨c, hc⟩ : ∃ c, c = waits now := ⟨_, rfl⟩
  rw [← hc] at HC ⊢
  obtain ⟨ti, tz, hi1, hi2, hi3, hi4, hi5⟩ := infoP
  have HLT : Hid (∀ b, Hs h m v b → b < w.heap.size) := fun b e => x.lt b (Or.inr e)
  clear x hl hc
  go_enter Try.func15, Try.ntmps15
  go_wp2_with fail
  refine HM.out.mono ?_
  rintro q w' ⟨rfl, hw⟩
  obtain rfl := hw.symm
  clear hw HM
  go_wp2
  go_loopg [5] l.length (fun gk dx wr => ∃ (ds : List Wt) (v1 : Value) (l1 : List Wt) (dv : Value), gk = l1.length ∧ dx = dv ∧ Hid (Lz wr L h m v1 l1 ∧ (ds ++ l1).Perm l ∧ (∀ e ∈ ds, e.t ≤ c) ∧ v1.ownBlock = v.ownBlock ∧ Kp (Hs h m v) w wr ∧ wr.ownsRow w.heap.size 39 2 dv ds.length (pflat (ds.map key))))
  case atStart => exact ⟨[], v, l, _, rfl, rfl, HX.out, List.Perm.refl _, (fun e he => by cases he), rfl, Kp.refl _ _, World.ownsRow_nil _ _ _ _⟩
  case round =>
    obtain ⟨ds, v1, l1, dv, rfl, hdx, HR⟩ := hrel
    obtain rfl := hdx.symm
    clear hdx
    have hr := HR.out
    have hln : ds.length + l1.length = l.length := by have := hr.2.1.length_eq; rwa [List.length_append] at this
    have hl1 : l1.length ≤ 900 := by have := HN.out; omega
    have kd : Kp (fun _ => False) wr { wr with drawn := wr.drawn + 1 } := (Kp.refl _ _).drew
    have xd := hr.1.keep0 kd
    have cd := xd.c
    have HU : Hid (Calls _ _ _ { wr with drawn := wr.drawn + 1 } _) := wupto_ok xd.x c (by omega)
    have HRD : Hid (Lz { wr with drawn := wr.drawn + 1 } L h m v1 l1 ∧ (ds ++ l1).Perm l ∧ (∀ e ∈ ds, e.t ≤ c) ∧ v1.ownBlock = v.ownBlock ∧ Kp (Hs h m v) w { wr with drawn := wr.drawn + 1 } ∧ { wr with drawn := wr.drawn + 1 }.ownsRow w.heap.size 39 2 dv ds.length (pflat (ds.map key))) :=
      ⟨xd, hr.2.1, hr.2.2.1, hr.2.2.2.1, hr.2.2.2.2.1.drew, ownsRow_keep hr.2.2.2.2.2 kd (fun _ _ e => e)⟩
    have HLN : Hid (ds.length + l1.length = l.length ∧ l1.length ≤ 900) := ⟨hln, hl1⟩
    clear hr xd kd HR hln hl1
    go_wp2_with fail
    refine wp_region_still_tail 6 (by kernel_rfl) (by kernel_rfl) ?_
    obtain ⟨w2, hw2⟩ : ∃ x, x = { wr with drawn := wr.drawn + 1 } := ⟨_, rfl⟩
    rw [← hw2] at cd HU HRD ⊢
    clear hw2
    simp only [List.take_succ_cons, List.take_zero, List.drop_succ_cons, List.drop_zero]
    iterate 5 still_step
    still_call (HC.out w2)
    refine wpStill_nil ?_
    go_wp2_with fail
    by_cases hup : 0 < l1.length ∧ tm l1 0 ≤ c
    · have e1 : decide (0 < l1.length ∧ tm l1 0 ≤ c) = true := decide_eq_true hup
      rw [e1] at HU
      have HUP : Hid (0 < l1.length ∧ tm l1 0 ≤ c) := hup
      clear e1 hup
      refine HU.out.mono ?_
      rintro q w3 ⟨rfl, hw3⟩
      obtain rfl := hw3.symm
      clear hw3 HU
      have HT : Hid (Calls _ _ _ w2 _) := wtake_ok HRD.out.1.x HRD.out.1.hp HUP.out.1 HLN.out.2
      go_wp2_with fail
      refine HT.out.mono ?_
      rintro q w4 ⟨e, rfl, he, k4, v4, l4, x4, p4, h4, b4⟩
      have hr := HRD.out
      have hb1 : ∀ b, Hs h m v1 b → Hs h m v b := fun b hb => by
        rcases hb with hb | hb | hb
        · exact Or.inl hb
        · exact Or.inr (Or.inl hb)
        · exact Or.inr (Or.inr (hr.2.2.2.1 ▸ hb))
      have hown4 : w4.ownsRow w.heap.size 39 2 dv ds.length (pflat (ds.map key)) := ownsRow_keep hr.2.2.2.2.2 k4 (fun g e2 e3 => by
        have h1 := (ownBlock_lt hr.2.2.2.2.2 e2).1
        have h2 := HLT.out g (hb1 g e3)
        omega)
      have HS4 : Hid (Lz w4 L h m v4 l4 ∧ ((ds ++ [e]) ++ l4).Perm l ∧ (∀ e' ∈ ds ++ [e], e'.t ≤ c) ∧ v4.ownBlock = v.ownBlock ∧ Kp (Hs h m v) w w4 ∧ l4.length < l1.length ∧ ∀ b, Hs h m v4 b → b < w.heap.size) := by
        refine ⟨hr.1.next k4 x4 h4 (Or.inl b4), ?_, fun e' h' => ?_, b4.trans hr.2.2.2.1, hr.2.2.2.2.1.trans k4 (fun b _ hb => hb1 b hb), ?_, fun b hb => ?_⟩
        · rw [List.append_assoc]
          exact (List.Perm.append_left ds p4).trans hr.2.1
        · rcases List.mem_append.1 h' with h' | h'
          · exact hr.2.2.1 e' h'
          · rw [List.mem_singleton.1 h', he]
            exact HUP.out.2
        · have := p4.length_eq
          simp at this
          omega
        · rcases hb with hb | hb | hb
          · exact HLT.out b (Or.inl hb)
          · exact HLT.out b (Or.inr (Or.inl hb))
          · exact HLT.out b (Or.inr (Or.inr ((b4.trans hr.2.2.2.1) ▸ hb)))
      have HO4 : Hid (w4.ownsRow w.heap.size 39 2 dv ds.length (pflat (ds.map key))) := hown4
      have HDL : Hid (∀ g, dv.ownBlock = some g → w.heap.size ≤ g) := fun g e => (ownBlock_lt hown4 e).1
      obtain ⟨eb, ei, et⟩ := e
      clear hr hown4 hb1 k4 x4 p4 h4 b4 HT he HRD cd
      have k5 : Kp (fun _ => False) w4 (w4.alloc (.cells #[.int .i64 eb, .int .i64 ei] 39)) := (Kp.refl _ _).alloc _
      have hx5 : Lv (w4.alloc (.cells #[.int .i64 eb, .int .i64 ei] 39)) w4.heap.size [.int .i64 eb, .int .i64 ei] := Lv.new w4 _ _
      have HO5 : Hid ((w4.alloc (.cells #[.int .i64 eb, .int .i64 ei] 39)).ownsRow w.heap.size 39 2 dv ds.length (pflat (ds.map key))) := ownsRow_keep HO4.out k5 (fun _ _ e => e)
      have HSR : Hid (Src Try.prog 2 38 (.slice (some ⟨w4.heap.size, 0, none⟩) 1 1) 1 [.int .i64 eb, .int .i64 ei] (w4.alloc (.cells #[.int .i64 eb, .int .i64 ei] 39))) := Src.ofSlice _ uPs ⟨w4.heap.size, 0, none⟩ 1 1 [.int .i64 eb, .int .i64 ei] rfl (fun j u hj => by rw [Addr.add_mid, Nat.zero_add]; exact hx5.cell hj) (fun u hu => by simp only [List.mem_cons, List.not_mem_nil, or_false] at hu; rcases hu with rfl | rfl <;> rfl)
      have HBD : Hid (ds.length + 1 ≤ maxLen ∧ (ds.length + 1) * 16 ≤ 140737488355328 ∧ w.heap.size ≤ (w4.alloc (.cells #[.int .i64 eb, .int .i64 ei] 39)).heap.size) := by
        have h1 := HLN.out
        have h2 := HN.out
        refine ⟨by unfold maxLen; omega, by omega, Nat.le_trans HS4.out.2.2.2.2.1.size k5.size⟩
      have K5 : Hid (Kp (fun _ => False) w4 (w4.alloc (.cells #[.int .i64 eb, .int .i64 ei] 39))) := k5
      clear k5 hx5
      go_wp2_with (at_builtin; go_must (refine wpList_append_own_src _ rfl _ _ 38 38 rfl w.heap.size 39 ti tz 2 16 uPs hi1 hi2 hi3 hi4 hi5 (by decide) dv ds.length (pflat (ds.map key)) rfl HO5.out (.slice (some ⟨w4.heap.size, 0, none⟩) 1 1) 1 [.int .i64 eb, .int .i64 ei] rfl HSR.out HBD.out.1 HBD.out.2.1 HBD.out.2.2 ?_); intro v6 w6 hown6 hg6 hb6)
      have k6 := grownBy_kp hg6
      have HFIN : Hid (Lz w6 L h m v4 l4 ∧ ((ds ++ [(⟨eb, ei, et⟩ : Wt)]) ++ l4).Perm l ∧ (∀ e' ∈ ds ++ [(⟨eb, ei, et⟩ : Wt)], e'.t ≤ c) ∧ v4.ownBlock = v.ownBlock ∧ Kp (Hs h m v) w w6 ∧ w6.ownsRow w.heap.size 39 2 v6 (ds ++ [(⟨eb, ei, et⟩ : Wt)]).length (pflat ((ds ++ [(⟨eb, ei, et⟩ : Wt)]).map key))) := by
        obtain ⟨s1, s2, s3, s4, s5, s6, s7⟩ := HS4.out
        have hdl := HDL.out
        refine ⟨(s1.keep0 K5.out).keep k6 (fun b hb e => ?_), s2, s3, s4, (s5.trans K5.out (fun _ _ e => e.elim)).trans k6 (fun b hb e => ?_), ?_⟩
        · have h1 := hdl b e
          rcases hb with hb | hb
          · have := HX.out.lt L (Or.inl rfl)
            omega
          · have := s7 b hb
            omega
        · have := hdl b e
          omega
        · rw [List.length_append, List.map_append, pflat_append]
          exact hown6
      have HLT4 : Hid (l4.length < l1.length) := HS4.out.2.2.2.2.2.1
      clear hown6 hg6 hb6 k6 HS4 HO4
      go_roundg l4.length
      case rel => exact ⟨ds ++ [⟨eb, ei, et⟩], v4, l4, v6, rfl, rfl, HFIN⟩
      case measure => exact HLT4.out
    · have e1 : decide (0 < l1.length ∧ tm l1 0 ≤ c) = false := decide_eq_false hup
      rw [e1] at HU
      have HUP : Hid (¬ (0 < l1.length ∧ tm l1 0 ≤ c)) := hup
      clear e1 hup
      refine HU.out.mono ?_
      rintro q w3 ⟨rfl, hw3⟩
      obtain rfl := hw3.symm
      clear hw3 HU
      have hso : w2.ownsRow w.heap.size 39 2 dv (ds.map key).length (pflat (ds.map key)) := by rw [List.length_map]; exact HRD.out.2.2.2.2.2
      have HS : Hid (Calls _ _ _ w2 _) := sortOwn hso (by rw [List.length_map]; have := HLN.out; have := HN.out; omega)
      have HDB : Hid (∀ b, dv.ownBlock = some b → w.heap.size ≤ b) := fun b e => (ownBlock_lt hso e).1
      clear hso cd
      go_wp2_with fail
      refine HS.out.mono ?_
      rintro q w4 ⟨rfl, k4, p4⟩
      have HFIN : Hid (Kp (Hs h m v) w w4 ∧ Pr w4 (fun b => w.heap.size ≤ b) dv (srtP (ds.map key)) ∧ ∃ v' l', Lz w4 L h m v' l' ∧ (ds ++ l').Perm l ∧ (∀ e ∈ ds, e.t ≤ c) ∧ (∀ e ∈ l', c < e.t) ∧ v'.ownBlock = v.ownBlock) := by
        obtain ⟨s1, s2, s3, s4, s5, s6⟩ := HRD.out
        refine ⟨s5.trans k4 (fun b hb e => by have := HDB.out b e; omega), p4.mono (fun b e => HDB.out b e), v1, l1, s1.keep k4 (fun b hb e => ?_), s2, s3, fun e he => ?_, s4⟩
        · have h1 := HDB.out b e
          rcases hb with hb | hb
          · have := HX.out.lt L (Or.inl rfl)
            omega
          · have : Hs h m v b := by
              rcases hb with hb | hb | hb
              · exact Or.inl hb
              · exact Or.inr (Or.inl hb)
              · exact Or.inr (Or.inr (s4 ▸ hb))
            have := HLT.out b this
            omega
        · obtain ⟨k, hk, rfl⟩ := List.getElem_of_mem he
          have h1 := s1.hp.top k hk
          have h2 : ¬ tm l1 0 ≤ c := fun h3 => HUP.out ⟨by omega, h3⟩
          have h3 : tm l1 k = l1[k].t := by unfold tm; rw [getD_of_get hk]
          omega
      clear k4 p4 HS HRD
      go_wp2
      go_ret
      exact ⟨dv, ds, rfl, HFIN.out⟩
end Go.Proofs.Ytnpaoppfhffoiaa
