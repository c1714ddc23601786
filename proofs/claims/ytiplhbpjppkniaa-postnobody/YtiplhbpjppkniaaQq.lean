/- All packets are told, in the order of their numbers, with copies of their messages. -/
import Derived.Test.YtiplhbpjppkniaaQk
import Derived.Test.YtiplhbpjppkniaaQh
namespace Go.Proofs.Ytiplhbpjppkniaa
set_option linter.unusedVariables false
open Go.RowKit Go.Deep Go.Maps

theorem keys_full {w : World} {m q : Nat} {D : DataW Value} (h : w.ownsMap Try.prog 3 idR m q D) : (intKeys D).Nodup ∧ (∀ x, x ∈ intKeys D ↔ Maps.has D (.int .i64 x) = true) := by
  obtain ⟨es, rfl, hp, _⟩ := h.entries intLaw
  obtain ⟨es', e, hko⟩ := h.keysOf
  obtain rfl : es = es' := by simpa using e
  have hk : ∀ p ∈ es, ∃ x, p.1 = .int .i64 x := fun p hp => by
    obtain ⟨v, hv⟩ := hko p hp
    obtain ⟨x, _, hx, _⟩ := Maps.keyOf_i64 Try.underlying3 hv
    exact ⟨x, hx⟩
  refine ⟨?_, fun x => ?_⟩
  · show (es.map fun p => Go.intOf p.1).Nodup
    refine List.pairwise_map.2 (hp.imp_of_mem fun {p q} hp' hq' hne e => hne ?_)
    obtain ⟨a, ha⟩ := hk p hp'
    obtain ⟨b, hb⟩ := hk q hq'
    rw [ha, hb] at e ⊢
    exact congrArg _ e
  · show x ∈ es.map (fun p => Go.intOf p.1) ↔ _
    rw [has_eq, List.any_eq_true, List.mem_map]
    constructor
    · rintro ⟨p, hp', rfl⟩
      obtain ⟨a, ha⟩ := hk p hp'
      exact ⟨p, hp', by rw [ha]; simp [Lit.sameKey, Go.intOf]⟩
    · rintro ⟨p, hp', hs⟩
      obtain ⟨a, ha⟩ := hk p hp'
      rw [ha] at hs
      exact ⟨p, hp', by rw [ha]; simpa [Lit.sameKey, Go.intOf] using hs⟩
/-- the numbers under which there is something, in their order -/
def nks (T : Nat → Option Value) (n : Nat) : List Int := List.map (fun i : Nat => (i : Int)) ((List.range n).filter fun i => (T i).isSome)
theorem mem_nks {T : Nat → Option Value} {n : Nat} {x : Int} : x ∈ nks T n ↔ ∃ i : Nat, i < n ∧ (T i).isSome = true ∧ (i : Int) = x := by
  unfold nks
  simp only [List.mem_map, List.mem_filter, List.mem_range, and_assoc]
theorem nks_sorted (T : Nat → Option Value) (n : Nat) : (nks T n).Pairwise (fun a b => a < b) := by
  unfold nks
  refine List.pairwise_map.2 ((List.pairwise_lt_range.filter _).imp (fun {a b} h => ?_))
  omega
theorem nks_nodup (T : Nat → Option Value) (n : Nat) : (nks T n).Nodup := (nks_sorted T n).imp (fun {a b} h => by omega)
theorem nks_eq {T : Nat → Option Value} {n : Nat} {l : List Int} (hn : l.Nodup) (hm : ∀ x, x ∈ l ↔ x ∈ nks T n) : l.mergeSort (fun x y => decide (x ≤ y)) = nks T n := by
  have hp : l.Perm (nks T n) := (List.perm_ext_iff_of_nodup hn (nks_nodup T n)).2 hm
  have tr : ∀ a b c : Int, decide (a ≤ b) = true → decide (b ≤ c) = true → decide (a ≤ c) = true := fun a b c h1 h2 => by simp only [decide_eq_true_eq] at *; omega
  have to : ∀ a b : Int, (decide (a ≤ b) || decide (b ≤ a)) = true := fun a b => by simp only [Bool.or_eq_true, decide_eq_true_eq]; omega
  refine List.Perm.eq_of_pairwise (le := fun a b => decide (a ≤ b) = true) (fun a b _ _ h1 h2 => ?_) (List.pairwise_mergeSort tr to l) ((nks_sorted T n).imp (fun {a b} h => by simp only [decide_eq_true_eq]; omega)) ((List.mergeSort_perm l _).trans hp)
  simp only [decide_eq_true_eq] at h1 h2
  omega
theorem sortedQ2 {w : World} {m q n c : Nat} {T : Nat → Option Value} (h : Qm w m q n c T) (hc : c ≤ 100000) :
    Calls Try.prog 32 #[.func (.func 40) #[] #[.pointer (some ⟨w.heap.size, 0, none⟩)]] (w.alloc (.cells #[.map (some m)] 58)) fun e w' => ∃ (v : Value), e = .returned v ∧ (nks T n).length = c ∧
      w'.ownsRow w.heap.size 3 1 v c ((nks T n).map encZ) ∧ Kp (fun _ => False) w w' := by
  obtain ⟨D, hown, h1, h2, h3, h4⟩ := h
  obtain ⟨kf1, kf2⟩ := keys_facts hown
  obtain ⟨kn, km⟩ := keys_full hown
  refine (sortedC m q D w hown (by unfold maxLen; omega) (by omega)).mono fun e w' ⟨v, ss, he, hp, hrow, _, hb⟩ => ?_
  have hl : ss.length = c := by rw [hp.length_eq, ← kf2, h4]
  have hs : ss.mergeSort (fun x y => decide (x ≤ y)) = nks T n := nks_eq (hp.nodup_iff.2 kn) (fun x => by
    rw [hp.mem_iff, km, mem_nks]
    constructor
    · intro hh
      obtain ⟨i, hi, e⟩ := h2 _ hh
      injection e with _ e
      subst e
      refine ⟨i, hi, ?_, rfl⟩
      cases hT : T i with
      | none => rw [(h1 i hi).1 hT] at hh; cases hh
      | some u => rfl
    · rintro ⟨i, hi, hT, rfl⟩
      obtain ⟨u, hu⟩ := Option.isSome_iff_exists.1 hT
      exact ((h1 i hi).2 u hu).1)
  refine ⟨v, he, ?_, ?_, ?_⟩
  · rw [← hs, List.length_mergeSort, hl]
  · rw [hl, hs] at hrow
    exact ownsRow_base hrow (by omega)
  · have hz : (w.alloc (.cells #[.map (some m)] 58)).heap.size = w.heap.size + 1 := by simp
    rw [← hz] at hb
    exact ((Kp.refl _ _).alloc _).trans (Kp.of_below (S := fun _ => False) hb) (fun _ _ e => e)

/-- packets, one behind the other, in cells -/
def sflat (ps : List (Int × List Value)) : List Value := ps.flatMap (fun x => .int .i64 x.1 :: x.2)
theorem sflat_append (a b : List (Int × List Value)) : sflat (a ++ b) = sflat a ++ sflat b := by unfold sflat; rw [List.flatMap_append]
theorem sflat_one (j : Int) (l : List Value) : sflat [(j, l)] = .int .i64 j :: l := by simp [sflat]
theorem sflat_len {ps : List (Int × List Value)} (h : ∀ x ∈ ps, x.2.length = 24) : (sflat ps).length = ps.length * 25 := by
  induction ps with
  | nil => rfl
  | cons x ps ih =>
    rw [show x :: ps = [x] ++ ps from rfl, sflat_append, List.length_append, ih (fun y hy => h y (List.mem_cons_of_mem _ hy)), show sflat [x] = .int .i64 x.1 :: x.2 from sflat_one x.1 x.2, List.length_cons, h x List.mem_cons_self, List.length_append]
    simp
    omega
theorem sflat_get {ps : List (Int × List Value)} (h : ∀ x ∈ ps, x.2.length = 24) {k : Nat} (hk : k < ps.length) {j : Nat} {u : Value} (hu : (Value.int .i64 ps[k].1 :: ps[k].2)[j]? = some u) : (sflat ps)[k * 25 + j]? = some u := by
  have hs : ps = ps.take k ++ ([ps[k]] ++ ps.drop (k + 1)) := by rw [List.singleton_append, ← List.drop_eq_getElem_cons hk, List.take_append_drop]
  have hj : j < 25 := by have := (List.getElem?_eq_some_iff.1 hu).1; rw [List.length_cons, h _ (List.getElem_mem hk)] at this; omega
  have hl : (sflat (ps.take k)).length = k * 25 := by rw [sflat_len (fun x hx => h x (List.mem_of_mem_take hx)), List.length_take, Nat.min_eq_left (by omega)]
  rw [hs, sflat_append, List.getElem?_append_right (by rw [hl]; omega), hl, show k * 25 + j - k * 25 = j by omega, sflat_append, show sflat [ps[k]] = .int .i64 ps[k].1 :: ps[k].2 from sflat_one _ _, List.getElem?_append_left (by rw [List.length_cons, h _ (List.getElem_mem hk)]; omega)]
  exact hu
theorem row_range {w : World} {base b c cap : Nat} {ps : List (Int × List Value)} (hr : w.ownsRow base 55 25 (.slice (some ⟨b, 0, none⟩) c cap) c (sflat ps)) (h : ∀ x ∈ ps, x.2.length = 24) {k : Nat} (hk : k < ps.length) : w.rangeAt b (k * 25) (.int .i64 ps[k].1 :: ps[k].2) := fun j u hu => by
  have := hr.cells (g := b) rfl (k * 25 + j) u (sflat_get h hk hu)
  rw [Addr.add_mid, Nat.zero_add] at this
  exact this

abbrev sentM (j : Int) (s : Ms0) (a b c : Value) : List Value := .int .i64 j :: (msgA s a b c).toList
theorem sentM_one (j : Int) (s : Ms0) {a b c : Value} (ha : a.oneCell' = true) (hb : b.oneCell' = true) (hc : c.oneCell' = true) : ∀ u ∈ sentM j s a b c, u.oneCell' = true := fun u hu => by
  simp only [List.mem_cons, List.not_mem_nil, or_false] at hu
  rcases hu with rfl | rfl | rfl | rfl | rfl | rfl | rfl | rfl | rfl | rfl | rfl | rfl | rfl | rfl | rfl | rfl | rfl | rfl | rfl | rfl | rfl | rfl | rfl | rfl | rfl <;> first | rfl | assumption
/-- what is told of the packet with the number x.1 -/
def Pkd (w : World) (M : Nat → Ms) (Z : Nat → Prop) (x : Int × List Value) : Prop := x.2.length = 24 ∧ (∀ u ∈ x.2, u.oneCell' = true) ∧ ∃ j : Nat, x.1 = (j : Int) ∧ Mr w Z (M j) (.agg x.2.toArray)

set_option maxRecDepth 100000 in
set_option maxHeartbeats 1600000 in
theorem packets_all {w : World} {p m q n c : Nat} {T : Nat → Option Value} (h : Ps w p m q n c T) (hn : n ≤ 10000) (hc : (c : Int) ≤ 10000) (M : Nat → Ms) (Z : Nat → Prop) (hT : ∀ j v, T j = some v → Mr w Z (M j) v) :
    Calls Try.prog 20 #[.pointer (some ⟨p, 0, none⟩)] w fun e w' => ∃ pv cap ps, e = .returned (.slice pv c cap) ∧ Kp (fun _ => False) w w' ∧ w'.ownsRow w.heap.size 55 25 (.slice pv c cap) c (sflat ps) ∧ ps.map (·.1) = nks T (n + 1) ∧ (nks T (n + 1)).length = c ∧ ∀ x ∈ ps, Pkd w' M (fun b => (w.heap.size ≤ b ∧ b < w'.heap.size) ∧ (Value.slice pv c cap).ownBlock ≠ some b) x := by
  have HPs : Hid (Ps w p m q n c T) := h
  have HPm : Hid (Calls _ _ _ w _) := pmade_ok h
  have c1 := h.c1
  have hlen := len_msg h.mp
  have HT : Hid (∀ j v, T j = some v → Mr w Z (M j) v) := hT
  have HN : Hid (n ≤ 10000) := hn
  obtain ⟨wm, hmk, hom, km⟩ := make_sent w c (by omega)
  have HOm : Hid (wm.ownsRow w.heap.size 55 25 (.slice (some ⟨w.heap.size, 0, none⟩) 0 c) 0 []) := hom
  have c1m := km.cellv c1 id
  have HK : Hid (∀ mb W, Calls _ _ _ W _) := keysC
  have HS : Hid (Calls _ _ _ _ _) := sortedQ2 (h.mp.keep km id) (by omega)
  obtain ⟨zs, hzs⟩ : ∃ zs, zs = nks T (n + 1) := ⟨_, rfl⟩
  rw [← hzs] at HS
  rw [← hzs]
  have HZ : Hid (∀ z ∈ zs, ∃ (i : Nat) (u : Value), z = (i : Int) ∧ i < n + 1 ∧ T i = some u) := fun z hz => by
    rw [hzs] at hz
    obtain ⟨i, hi, ht, e⟩ := mem_nks.1 hz
    obtain ⟨u, hu⟩ := Option.isSome_iff_exists.1 ht
    exact ⟨i, u, e.symm, hi, hu⟩
  clear h hT hn hom hzs
  go_enter Try.func20, Try.ntmps20
  go_wp2_with (first
    | (go_at_call 22; refine HPm.out.mono ?_; rintro e w' ⟨rfl, hw⟩; obtain rfl := hw.symm; clear hw)
    | (go_at_call 33; refine (HK.out _ _).mono ?_; rintro e w1 ⟨rfl, rfl⟩)
    | (go_at_call 32; refine HS.out.mono ?_; rintro e w2 ⟨v, rfl, hzl, hrow, k2⟩; obtain ⟨qv, capv, rfl⟩ : ∃ qv capv, v = .slice qv c capv := (by rcases Joins.ownsRow_forms hrow with ⟨e, e2⟩ | ⟨g, cap, e⟩; exact ⟨none, 0, by rw [e, e2]⟩; exact ⟨_, cap, e⟩); have HZL : Hid (zs.length = c) := hzl; have HRw : Hid (w2.ownsRow wm.heap.size 3 1 (.slice qv c capv) c (zs.map encZ)) := hrow; clear hzl hrow))
  have k02 := km.trans k2 (fun _ _ e => e)
  have HO2 : Hid (w2.ownsRow w.heap.size 55 25 (.slice (some ⟨w.heap.size, 0, none⟩) 0 c) 0 []) := ownsRow_keep HOm.out k2 (fun _ _ => id)
  have HWm : Hid (w.heap.size < wm.heap.size) := (ownBlock_lt HOm.out (g := w.heap.size) rfl).2
  have HPr : Hid (∀ u, Kp (fun _ => False) w u → Ps u p m q n c T) := fun u k => HPs.out.keep k id id
  clear HOm HS HK HPm hlen hmk c1m c1
  go_loopg [22, 3] c (fun gk i v wr => ∃ (k : Nat) (v' : Value) (ps : List (Int × List Value)), k ≤ c ∧ gk = c - k ∧ i = .int .i64 k ∧ v' = v ∧ Kp (fun _ => False) w wr ∧ Hid (wr.ownsRow w.heap.size 55 25 v' k (sflat ps)) ∧ Hid (wr.ownsRow wm.heap.size 3 1 (.slice qv c capv) c (zs.map encZ)) ∧ Hid (∀ g, v'.ownBlock = some g → (Value.slice qv c capv).ownBlock ≠ some g) ∧ Hid (ps.map (·.1) = zs.take k) ∧ Hid (∀ x ∈ ps, Pkd wr M (fun b => (w.heap.size ≤ b ∧ b < wr.heap.size) ∧ v'.ownBlock ≠ some b) x))
  case atStart => exact ⟨0, _, [], Nat.zero_le _, rfl, rfl, rfl, k02, HO2, HRw, fun g hg hq => by
    have h1 := (ownBlock_lt HRw.out hq).1
    have h2 : w.heap.size = g := by simpa [Value.ownBlock] using hg
    have := HWm.out
    omega, (by rw [List.take_zero]; rfl), fun x hx => by cases hx⟩
  case round =>
    obtain ⟨k, v, ps, hk, rfl, rfl, rfl, kr, HOr, HRr, HDj, HPm, HPk⟩ := hrel
    clear HO2 HRw k02
    by_cases hlt : (k : Int) < (c : Int)
    · have hkl : k < zs.length := by rw [HZL.out]; omega
      obtain ⟨j, u, hz, hj, hTj⟩ := HZ.out zs[k] (List.getElem_mem hkl)
      have HMj : Hid (Mr wr Z (M j) u) := (HT.out j u hTj).keep kr (fun _ _ => id)
      obtain ⟨gv, capv', eqv⟩ := Joins.ownsRow_form HRr.out (by omega)
      simp only [Value.slice.injEq, true_and] at eqv
      obtain ⟨rfl, rfl⟩ := eqv
      have hce : wr.cell? ⟨gv, k, none⟩ = some (.int .i64 (j : Int)) := by
        have := HRr.out.cells (g := gv) rfl k (encZ zs[k]) (by rw [List.getElem?_map, List.getElem?_eq_getElem hkl]; rfl)
        rw [Addr.add_mid, Nat.zero_add, hz] at this
        exact this
      have c1 := (HPr.out wr kr).c1
      have hlk := look_msg (HPr.out wr kr).mp (j : Int) (WalkArith.wf_i64 (by have := HN.out; omega))
      rw [Tz_nat, hTj, Option.getD_some] at hlk
      have HCl : Hid (∀ z, Kp (fun _ => False) wr z → Calls _ _ _ z _) := fun z kz => clone_msg Z (M j) u z (HMj.out.keep kz (fun _ _ => id))
      have HNn : Hid (j ≤ 10000) := by show _ ≤ _; have := HN.out; omega
      have HTk : Hid (zs.take (k + 1) = zs.take k ++ [(j : Int)]) := by rw [← hz]; exact (List.take_append_getElem hkl).symm
      clear hz hTj hkl hj
      go_wp2_with (first
        | (go_at_call 23; refine (HCl.out _ (Kp.refl _ _)).mono ?_; rintro e w3 ⟨vm, rfl, k3, hm3⟩; have HM3 : Hid (Mr w3 _ (M j) vm) := hm3; obtain ⟨pn, cpn, pv, cv, lv, pb, cb, rfl, _⟩ := hm3; have HO3 : Hid (w3.ownsRow w.heap.size 55 25 v k (sflat ps)) := ownsRow_keep HOr.out k3 (fun _ _ => id); have HS3 : Hid (w.heap.size ≤ w3.heap.size) := Nat.le_trans kr.size k3.size)
        | (at_builtin; go_must (refine wpList_append_sent rfl _ _ rfl w.heap.size v k w3.heap.size (sflat ps) (sentM (j : Int) (M j).s (.slice pn (M j).nodes.length cpn) (.slice pv lv.length cv) (.slice pb (M j).bytes.length cb)) rfl (by exact ownsRow_keep HO3.out ((Kp.refl (fun _ => False) _).alloc _) (fun _ _ => id)) rfl (by exact Lv.new w3 _ _) rfl (sentM_one (j : Int) _ rfl rfl rfl) (by omega) (by have := HS3.out; simp; omega) ?_); intro v4 w4 HO4 k4 h4))
      have kr4 : Kp (fun b => v.ownBlock = some b) wr w4 := ((k3.alloc _).mono (fun _ _ e => e.elim)).trans k4 (fun _ _ e => e)
      have kw4 : Kp (fun _ => False) w w4 := kr.trans kr4 (fun b hb e => by have := (ownBlock_lt HOr.out e).1; omega)
      have HR4 : Hid (w4.ownsRow wm.heap.size 3 1 (.slice (some ⟨gv, 0, none⟩) c capv) c (zs.map encZ)) := ownsRow_keep HRr.out kr4 (fun g hg e => HDj.out g e hg)
      have HD4 : Hid (∀ g, v4.ownBlock = some g → (Value.slice (some ⟨gv, 0, none⟩) c capv).ownBlock ≠ some g) := fun g hg hq => by
        rcases h4 with h4 | h4
        · rw [h4] at hg; exact HDj.out g hg hq
        · rw [h4] at hg
          have e1 := (ownBlock_lt HRr.out hq).2
          have e2 := k3.size
          injection hg with hg
          simp at hg
          omega
      have HO4' : Hid (w4.ownsRow w.heap.size 55 25 v4 (k + 1) (sflat (ps ++ [((j : Int), (msgA (M j).s (.slice pn (M j).nodes.length cpn) (.slice pv lv.length cv) (.slice pb (M j).bytes.length cb)).toList)]))) := by rw [sflat_append, sflat_one]; exact HO4
      have HP4 : Hid (∀ x ∈ ps ++ [((j : Int), (msgA (M j).s (.slice pn (M j).nodes.length cpn) (.slice pv lv.length cv) (.slice pb (M j).bytes.length cb)).toList)], Pkd w4 M (fun b => (w.heap.size ≤ b ∧ b < w4.heap.size) ∧ v4.ownBlock ≠ some b) x) := fun x hx => by
        have s3 := k3.size
        have s4 := kr4.size
        have sw := kr.size
        have s34 : w3.heap.size + 1 ≤ w4.heap.size := by have := k4.size; simp at this; omega
        rcases List.mem_append.1 hx with hx | hx
        · obtain ⟨e1, e2, j', e3, e4⟩ := HPk.out x hx
          refine ⟨e1, e2, j', e3, (e4.keep kr4 (fun b hb e => hb.2 e)).mono (fun b hb => ⟨⟨hb.1.1, by omega⟩, fun e => ?_⟩)⟩
          rcases h4 with h4 | h4
          · rw [h4] at e; exact hb.2 e
          · rw [h4] at e; injection e with e; simp at e; omega
        · rw [List.mem_singleton] at hx
          subst hx
          refine ⟨rfl, fun u hu => sentM_one (j : Int) (M j).s rfl rfl rfl u (List.mem_cons_of_mem _ hu), j, rfl, (HM3.out.keep ((Kp.refl (fun _ => False) w3).alloc _) (fun _ _ => id) |>.keep k4 (fun b hb e => ?_)).mono (fun b hb => ⟨⟨by omega, by omega⟩, fun e => ?_⟩)⟩
          · have := (ownBlock_lt HOr.out e).2; omega
          · rcases h4 with h4 | h4
            · rw [h4] at e; have := (ownBlock_lt HOr.out e).2; omega
            · rw [h4] at e; injection e with e; simp at e; omega
      have HPm4 : Hid ((ps ++ [((j : Int), (msgA (M j).s (.slice pn (M j).nodes.length cpn) (.slice pv lv.length cv) (.slice pb (M j).bytes.length cb)).toList)]).map (·.1) = zs.take (k + 1)) := by rw [List.map_append, HPm.out, HTk.out]; rfl
      clear k4 h4 HO4
      go_roundg (c - (k + 1))
      case rel => exact ⟨k + 1, v4, _, by omega, rfl, by go_num, rfl, kw4, HO4', HR4, HD4, HPm4, HP4⟩
      case measure => omega
    · obtain rfl : k = c := by omega
      obtain ⟨pv, capl, rfl⟩ : ∃ pv capl, v = .slice pv k capl := by
        rcases Joins.ownsRow_forms HOr.out with ⟨e, e2⟩ | ⟨g, cap, e⟩
        · exact ⟨none, 0, by rw [e, e2]⟩
        · exact ⟨_, cap, e⟩
      go_wp2
      go_ret
      refine ⟨pv, capl, rfl, kr, ?_⟩
      exact ⟨ps, HOr.out, by rw [HPm.out, List.take_of_length_le (by rw [HZL.out]; exact Nat.le_refl _)], HZL.out, fun a b hab => HPk.out (a, b) hab⟩
end Go.Proofs.Ytiplhbpjppkniaa
