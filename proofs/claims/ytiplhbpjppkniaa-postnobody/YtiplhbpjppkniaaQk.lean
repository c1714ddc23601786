/- All packets are told, in the order of their numbers: how many they are. -/
import Derived.Test.YtiplhbpjppkniaaQc
import Derived.Test.YtiplhbpjppkniaaQu
import Derived.Test.YtiplhbpjppkniaaSh
import Derived.Lib.SlKeysI
namespace Go.Proofs.Ytiplhbpjppkniaa
set_option linter.unusedVariables false
open Go.RowKit Go.Deep Go.Maps

theorem keys_facts {w : World} {m q : Nat} {D : DataW Value} (h : w.ownsMap Try.prog 3 idR m q D) : (∀ x, x ∈ intKeys D → Maps.has D (.int .i64 x) = true) ∧ Maps.size D = (intKeys D).length := by
  obtain ⟨es, rfl, hp, _⟩ := h.entries intLaw
  obtain ⟨es', e, hko⟩ := h.keysOf
  obtain rfl : es = es' := by simpa using e
  have hk : ∀ p ∈ es, ∃ x, p.1 = .int .i64 x := fun p hp => by
    obtain ⟨v, hv⟩ := hko p hp
    obtain ⟨x, _, hx, _⟩ := Maps.keyOf_i64 Try.underlying3 hv
    exact ⟨x, hx⟩
  refine ⟨fun x hx => ?_, ?_⟩
  · obtain ⟨p, hp', rfl⟩ := List.mem_map.1 hx
    rw [has_eq, List.any_eq_true]
    obtain ⟨a, ha⟩ := hk p hp'
    exact ⟨p, hp', by rw [ha]; simp [Lit.sameKey, Go.intOf]⟩
  · show es.length = (es.map _).length
    rw [List.length_map]
/-- slices.Sort's two contracts, at the fence that asks nothing. -/
theorem sortsA (k : Nat) : AnyZI.SortsIn Try.prog Try.sortedA_ren Fence.wide k :=
  ⟨fun blk off cap ss W hH hblk hsz => callsIn_wide.2 (AnyM.slices_Sort_int Try.sortA blk off cap ss W hH hblk hsz),
   fun p cap W => callsIn_wide.2 (AnyM.slices_Sort_int_none Try.sortA p cap W)⟩
theorem keysC (mb : Option Nat) (W : World) : Calls Try.prog 33 #[.map mb] W fun e w' => e = .returned (.func (.func 40) #[] #[.pointer (some ⟨W.heap.size, 0, none⟩)]) ∧ w' = W.alloc (.cells #[.map mb] 58) :=
  (callsIn_wide (n := 5)).1 (AnyZI.keys_in Try.keysA Fence.wide 5 trivial rfl mb W)

set_option maxHeartbeats 1000000 in
theorem sortedC (m q : Nat) (D : DataW Value) (w : World) (hown : w.ownsMap Try.prog 3 idR m q D) (hmax : Maps.size D ≤ maxLen) (hbytes : Maps.size D * 8 ≤ 140737488355328) :
    Calls Try.prog 32 #[.func (.func 40) #[] #[.pointer (some ⟨w.heap.size, 0, none⟩)]] (w.alloc (.cells #[.map (some m)] 58)) fun e w' => ∃ (v : Value) (ss : List Int), e = .returned v ∧ ss.Perm (intKeys D) ∧
      w'.ownsRow (w.heap.size + 1) 3 1 v ss.length ((ss.mergeSort (fun x y => decide (x ≤ y))).map encZ) ∧ (v = .slice none 0 0 ↔ ss = []) ∧ Below (w.heap.size + 1) (w.alloc (.cells #[.map (some m)] 58)) w' := by
  have hbl := hown.lt
  have hseq : SeqGives Fence.wide 2 Try.prog 40 #[.pointer (some ⟨w.heap.size, 0, none⟩)] encZ (fun ss => ss.Perm (intKeys D)) (Maps.size D) (w.alloc (.cells #[.map (some m)] 58)) :=
    AnyZI.keys_gives (ρ := Try.keysA_ren) { Try.keysA with } Fence.wide _ trivial rfl (by omega) w.heap.size m q D _ (by simp) (by simp) (by
      obtain ⟨es, clock, hb, Ft, hs, hD⟩ := hown
      exact ⟨es, clock, (Below.heap_alloc _ _ m hbl).trans hb, Ft, hs, hD⟩)
  have cS := AnyZI.sorted_in Try.sortedA Fence.wide 5 trivial trivial trivial trivial rfl (by omega) (sortsA _) (enters_of Try.func39 (by kernel_rfl) rfl) 40 #[.pointer (some ⟨w.heap.size, 0, none⟩)] trivial (enters_of Try.func40 (by kernel_rfl) rfl) _ _ hmax hbytes _ hseq
  have := (callsIn_wide (n := 5)).1 cS
  rw [show (w.alloc (.cells #[.map (some m)] 58)).heap.size = w.heap.size + 1 from by simp] at this
  exact this

/-- the numbers of the packets, in their order: c of them, each there -/
theorem sortedQ {w : World} {m q n c : Nat} {T : Nat → Option Value} (h : Qm w m q n c T) (hc : c ≤ 100000) :
    Calls Try.prog 32 #[.func (.func 40) #[] #[.pointer (some ⟨w.heap.size, 0, none⟩)]] (w.alloc (.cells #[.map (some m)] 58)) fun e w' => ∃ (v : Value) (zs : List Int), e = .returned v ∧ zs.length = c ∧ (∀ z ∈ zs, ∃ i u, z = ((i : Nat) : Int) ∧ i < n ∧ T i = some u) ∧
      w'.ownsRow w.heap.size 3 1 v c (zs.map encZ) ∧ Kp (fun _ => False) w w' := by
  obtain ⟨D, hown, h1, h2, h3, h4⟩ := h
  obtain ⟨kf1, kf2⟩ := keys_facts hown
  refine (sortedC m q D w hown (by unfold maxLen; omega) (by omega)).mono fun e w' ⟨v, ss, he, hp, hrow, _, hb⟩ => ?_
  have hl : ss.length = c := by rw [hp.length_eq, ← kf2, h4]
  refine ⟨v, ss.mergeSort (fun x y => decide (x ≤ y)), he, by rw [List.length_mergeSort, hl], fun z hz => ?_, ?_, ?_⟩
  · have hz1 : z ∈ ss := (List.mergeSort_perm ss _).mem_iff.1 hz
    have hz2 := kf1 z (hp.mem_iff.1 hz1)
    obtain ⟨i, hi, e⟩ := h2 _ hz2
    injection e with _ e
    subst e
    cases hT : T i with
    | none => rw [(h1 i hi).1 hT] at hz2; cases hz2
    | some u => exact ⟨i, u, rfl, hi, hT⟩
  · rw [hl] at hrow
    exact ownsRow_base hrow (by omega)
  · have hz : (w.alloc (.cells #[.map (some m)] 58)).heap.size = w.heap.size + 1 := by simp
    rw [← hz] at hb
    exact ((Kp.refl _ _).alloc _).trans (Kp.of_below (S := fun _ => False) hb) (fun _ _ e => e)

theorem infoSent0 : (Try.prog.info? 55).map (fun i => (i.zero.map (·.cells.size), i.size, i.bytes)) = some (some 25, 25, 256) := by kernel_rfl
theorem infoSent : ∃ i z, Try.prog.info? 55 = some i ∧ i.zero = some z ∧ i.size = 25 ∧ i.bytes = 256 ∧ z.cells.size = 25 := by
  obtain ⟨i, hi, he⟩ := Option.map_eq_some_iff.1 infoSent0
  simp only [Prod.mk.injEq] at he
  obtain ⟨h1, h2, h3⟩ := he
  obtain ⟨z, hz, h4⟩ := Option.map_eq_some_iff.1 h1
  exact ⟨i, z, hi, hz, h2, h3, h4⟩
theorem make_sent (w : World) (c : Nat) (hc : c ≤ 10000) : ∃ w', (Instr.makeSlice 26 (.int .i64 0) (.int .i64 (c : Int))).run Try.prog w = .ok (.slice (some ⟨w.heap.size, 0, none⟩) 0 c) w' ∧ w'.ownsRow w.heap.size 55 25 (.slice (some ⟨w.heap.size, 0, none⟩) 0 c) 0 [] ∧ Kp (fun _ => False) w w' := by
  obtain ⟨i, z, h1, h2, h3, h4, h5⟩ := infoSent
  obtain ⟨w', a, b, d⟩ := run_make_own (P := Try.prog) w w.heap.size 26 55 i z 25 Try.underlying26 h1 h2 h3 .i64 .i64 c (by rw [h4]; omega) (by unfold maxLen; omega) (Nat.le_refl _)
  exact ⟨w', a, b, (grownBy_kp d).mono (fun _ _ e => by cases e)⟩

abbrev sentL (j i : Int) : List Value := .int .i64 j :: (nilArr i).toList
theorem sent_one (j i : Int) : ∀ u ∈ sentL j i, u.oneCell' = true := fun u hu => by
  rcases List.mem_cons.1 hu with rfl | hu
  · rfl
  · obtain ⟨cs, e, _, h⟩ := sh_nil i
    simp only [Value.agg.injEq] at e
    have e2 : (nilArr i).toList = cs := by rw [e]
    rw [e2] at hu
    exact h u hu
theorem wpList_append_sent {ops : Array Oper} {rest : List Oper} {o : Oper} {a : Act} {w : World} {Q : Exit → Act → World → Prop} (hgd : o.guard = none) (s y : Operand)
    (ho : o.op = .call { callee := .builtin .append, args := #[s, y], argTypes := #[26, 26] }) (base : Nat) (v : Value) (n g : Nat) (xs cells : List Value)
    (hs : a.eval s = v) (hown : w.ownsRow base 55 25 v n xs) (hx : a.eval y = .slice (some ⟨g, 0, none⟩) 1 1) (hL : Lv w g cells) (hl : cells.length = 25) (h1 : ∀ u ∈ cells, u.oneCell' = true) (hlen : n ≤ 100000) (hbase : base ≤ w.heap.size)
    (h : ∀ v' w', w'.ownsRow base 55 25 v' (n + 1) (xs ++ cells) → Kp (fun b => v.ownBlock = some b) w w' → (v'.ownBlock = v.ownBlock ∨ v'.ownBlock = some w.heap.size) → wpList Try.prog ops Q rest (a.put o.dst v') w') :
    wpList Try.prog ops Q (o :: rest) a w := by
  obtain ⟨i, z, hi1, hi2, hi3, hi4, hi5⟩ := infoSent
  refine wpList_append_own_src w hgd s y 26 26 ho base 55 i z 25 256 Try.underlying26 hi1 hi2 hi3 hi4 hi5 (by decide) v n xs hs hown _ 1 cells hx
    (Src.ofSlice w Try.underlying26 _ 1 1 cells (by rw [hl]) (fun j u hj => ?_) h1) (by unfold maxLen; omega) (by omega) hbase ?_
  · rw [Addr.add_mid, Nat.zero_add]
    exact hL.cell hj
  · intro v' w' h2 h3 h4
    exact h v' w' h2 (grownBy_kp h3) h4

set_option maxRecDepth 100000 in
set_option maxHeartbeats 1600000 in
theorem packets_len {w : World} {p m q n c : Nat} {T : Nat → Option Value} (h : Ps w p m q n c T) (hn : n ≤ 10000) (hc : (c : Int) ≤ 10000) (hT : ∀ j v, T j = some v → ∃ i, v = nilMsg i) :
    Calls Try.prog 20 #[.pointer (some ⟨p, 0, none⟩)] w fun e w' => ∃ pv cap, e = .returned (.slice pv c cap) ∧ Kp (fun _ => False) w w' := by
  have HPs : Hid (Ps w p m q n c T) := h
  have HPm : Hid (Calls _ _ _ w _) := pmade_ok h
  have c1 := h.c1
  have hlen := len_msg h.mp
  have HT : Hid (∀ j v, T j = some v → ∃ i, v = nilMsg i) := hT
  have HN : Hid (n ≤ 10000) := hn
  obtain ⟨wm, hmk, hom, km⟩ := make_sent w c (by omega)
  have HOm : Hid (wm.ownsRow w.heap.size 55 25 (.slice (some ⟨w.heap.size, 0, none⟩) 0 c) 0 []) := hom
  have c1m := km.cellv c1 id
  have HK : Hid (∀ mb W, Calls _ _ _ W _) := keysC
  have HS : Hid (Calls _ _ _ _ _) := sortedQ (h.mp.keep km id) (by omega)
  clear h hT hn hom
  go_enter Try.func20, Try.ntmps20
  go_wp2_with (first
    | (go_at_call 22; refine HPm.out.mono ?_; rintro e w' ⟨rfl, hw⟩; obtain rfl := hw.symm; clear hw)
    | (go_at_call 33; refine (HK.out _ _).mono ?_; rintro e w1 ⟨rfl, rfl⟩)
    | (go_at_call 32; refine HS.out.mono ?_; rintro e w2 ⟨v, zs, rfl, hzl, hz, hrow, k2⟩; obtain ⟨qv, capv, rfl⟩ : ∃ qv capv, v = .slice qv c capv := (by rcases Joins.ownsRow_forms hrow with ⟨e, e2⟩ | ⟨g, cap, e⟩; exact ⟨none, 0, by rw [e, e2]⟩; exact ⟨_, cap, e⟩); have HZ : Hid (∀ z ∈ zs, ∃ i u, z = ((i : Nat) : Int) ∧ i < n + 1 ∧ T i = some u) := hz; have HZL : Hid (zs.length = c) := hzl; have HRw : Hid (w2.ownsRow wm.heap.size 3 1 (.slice qv c capv) c (zs.map encZ)) := hrow; clear hz hzl hrow))
  have k02 := km.trans k2 (fun _ _ e => e)
  have HO2 : Hid (w2.ownsRow w.heap.size 55 25 (.slice (some ⟨w.heap.size, 0, none⟩) 0 c) 0 []) := ownsRow_keep HOm.out k2 (fun _ _ => id)
  have HWm : Hid (w.heap.size < wm.heap.size) := (ownBlock_lt HOm.out (g := w.heap.size) rfl).2
  have HPr : Hid (∀ u, Kp (fun _ => False) w u → Ps u p m q n c T) := fun u k => HPs.out.keep k id id
  clear HOm HS HK HPm hlen hmk c1m c1
  go_loopg [22, 3] c (fun gk i v wr => ∃ (k : Nat) (v' : Value) (xs : List Value), k ≤ c ∧ gk = c - k ∧ i = .int .i64 k ∧ v' = v ∧ Kp (fun _ => False) w wr ∧ Hid (wr.ownsRow w.heap.size 55 25 v' k xs) ∧ Hid (wr.ownsRow wm.heap.size 3 1 (.slice qv c capv) c (zs.map encZ)) ∧ Hid (∀ g, v'.ownBlock = some g → (Value.slice qv c capv).ownBlock ≠ some g))
  case atStart => exact ⟨0, _, [], Nat.zero_le _, rfl, rfl, rfl, k02, HO2, HRw, fun g hg hq => by
    have h1 := (ownBlock_lt HRw.out hq).1
    have h2 : w.heap.size = g := by simpa [Value.ownBlock] using hg
    have := HWm.out
    omega⟩
  case round =>
    obtain ⟨k, v, xs, hk, rfl, rfl, rfl, kr, HOr, HRr, HDj⟩ := hrel
    clear HO2 HRw k02
    by_cases hlt : (k : Int) < (c : Int)
    · have hkl : k < zs.length := by rw [HZL.out]; omega
      obtain ⟨j, u, hz, hj, hTj⟩ := HZ.out zs[k] (List.getElem_mem hkl)
      obtain ⟨i, rfl⟩ := HT.out j u hTj
      obtain ⟨gv, capv', eqv⟩ := Joins.ownsRow_form HRr.out (by omega)
      simp only [Value.slice.injEq, true_and] at eqv
      obtain ⟨rfl, rfl⟩ := eqv
      have hce : wr.cell? ⟨gv, k, none⟩ = some (.int .i64 (j : Int)) := by
        have := HRr.out.cells (g := gv) rfl k (encZ zs[k]) (by rw [List.getElem?_map, List.getElem?_eq_getElem hkl]; rfl)
        rw [Addr.add_mid, Nat.zero_add, hz] at this
        exact this
      have c1 := (HPr.out wr kr).c1
      have hlk := look_msg (HPr.out wr kr).mp (j : Int) (WalkArith.wf_i64 (by have := HN.out; omega))
      rw [Tz_nat, hTj, Option.getD_some] at hlk
      have HCl : Hid (∀ u, Calls _ _ _ u _) := fun u => cl_msg_nil i u
      have HNn : Hid (j ≤ 10000) := by show _ ≤ _; have := HN.out; omega
      clear hz hTj hkl hj
      go_wp2_with (first
        | (go_at_call 23; refine (HCl.out _).mono ?_; rintro e w3 ⟨rfl, k3⟩; have HO3 : Hid (w3.ownsRow w.heap.size 55 25 v k xs) := ownsRow_keep HOr.out k3 (fun _ _ => id); have HS3 : Hid (w.heap.size ≤ w3.heap.size) := Nat.le_trans kr.size k3.size)
        | (at_builtin; go_must (refine wpList_append_sent rfl _ _ rfl w.heap.size v k w3.heap.size xs (sentL (j : Int) i) rfl (by exact ownsRow_keep HO3.out ((Kp.refl (fun _ => False) _).alloc _) (fun _ _ => id)) rfl (by exact Lv.new w3 _ _) rfl (sent_one (j : Int) i) (by omega) (by have := HS3.out; simp; omega) ?_); intro v4 w4 HO4 k4 h4))
      have kr4 : Kp (fun b => v.ownBlock = some b) wr w4 := ((k3.alloc _).mono (fun _ _ e => e.elim)).trans k4 (fun _ _ e => e)
      have kw4 : Kp (fun _ => False) w w4 := kr.trans kr4 (fun b hb e => by have := (ownBlock_lt HOr.out e).1; omega)
      have HR4 : Hid (w4.ownsRow wm.heap.size 3 1 (.slice (some ⟨gv, 0, none⟩) c capv) c (zs.map encZ)) := ownsRow_keep HRr.out kr4 (fun g hg e => HDj.out g e hg)
      have HD4 : Hid (∀ g, v4.ownBlock = some g → (Value.slice (some ⟨gv, 0, none⟩) c capv).ownBlock ≠ some g) := fun g hg hq => by
        rcases h4 with h4 | h4
        · rw [h4] at hg; exact HDj.out g hg hq
        · rw [h4] at hg
          have e1 := (ownBlock_lt HRr.out hq).2
          have e2 := k3.size
          injection hg with hg
          simp at hg
          omega
      have HO4' : Hid (w4.ownsRow w.heap.size 55 25 v4 (k + 1) (xs ++ sentL (j : Int) i)) := HO4
      clear k4 h4 HO4
      go_roundg (c - (k + 1))
      case rel => exact ⟨k + 1, v4, _, by omega, rfl, by go_num, rfl, kw4, HO4', HR4, HD4⟩
      case measure => omega
    · obtain rfl : k = c := by omega
      obtain ⟨pv, capl, rfl⟩ : ∃ pv capl, v = .slice pv k capl := by
        rcases Joins.ownsRow_forms HOr.out with ⟨e, e2⟩ | ⟨g, cap, e⟩
        · exact ⟨none, 0, by rw [e, e2]⟩
        · exact ⟨_, cap, e⟩
      go_wp2
      go_ret
      exact ⟨⟨pv, capl, rfl⟩, kr⟩
end Go.Proofs.Ytiplhbpjppkniaa
