/- Texts of this proof, joined: Pb2, Ox. -/
import Derived.Test.YtoepemgflbmlcaaDoorMgAY
import Derived.Test.YtoepemgflbmlcaaDoorMgAZ
import Derived.Test.YtoepemgflbmlcaaDoorMgBG
import Derived.Test.YtoepemgflbmlcaaDoorMgAS
import Derived.Test.YtoepemgflbmlcaaDoorMgAX
import Derived.Test.YtoepemgflbmlcaaDoorMgAW
/- The document's Msg (laid by scripts/mkpb2.py). -/
namespace Go.Proofs.YtoepemgflbmlcaaDoor
set_option linter.unusedVariables false
set_option linter.unusedSimpArgs false
open Go.RowKit Go.Deep

/-- what Msg has at a point: all that was there is kept, its own copy of the message lies at g, its bytes are own -/
structure Xz (w : World) (g base : Nat) (cs : List Value) (u : World) (v : Value) (xs : List Nat) : Prop where
  k : Kp (fun _ => False) w u
  l : Lv u g cs
  o : Ow u base v xs
  b : base ≤ u.heap.size
theorem Xz.grow {w u u' : World} {g base : Nat} {cs : List Value} {v : Value} {xs : List Nat} (h : Xz w g base cs u v xs) (k : Kp (fun _ => False) u u') : Xz w g base cs u' v xs :=
  ⟨h.k.trans k (fun _ _ e => e), h.l.keep k id, ownsRow_keep h.o k (fun _ _ => id), Nat.le_trans h.b k.size⟩
theorem Xz.step {w u u' : World} {g base : Nat} {cs : List Value} {v v' : Value} {xs ys : List Nat} (h : Xz w g base cs u v xs) (hw : w.heap.size ≤ base) (hg : g < base) (k : Kp (fun b => base ≤ b) u u') (o : Ow u' base v' ys) : Xz w g base cs u' v' ys :=
  ⟨h.k.trans k (fun b hb e => by omega), h.l.keep k (fun e => by omega), o, Nat.le_trans h.b k.size⟩
theorem Xz.app {w u u' : World} {g base : Nat} {cs : List Value} {v v' : Value} {xs ys : List Nat} (h : Xz w g base cs u v xs) (hw : w.heap.size ≤ base) (hg : g < base) (k : Kp (fun b => v.ownBlock = some b) u u') (o : Ow u' base v' ys) : Xz w g base cs u' v' ys :=
  h.step hw hg (k.mono (fun b _ e => (ownBlock_lt h.o e).1)) o

set_option maxRecDepth 100000 in
set_option maxHeartbeats 6400000 in
theorem xmsgw_yes (k0 k1 k2 k3 k4 k5 k6 k7 k8 : Nat) (ok : Bool) (c : Cs0) (Z : Nat → Prop) (p pv pb : Option Addr) (n1 cp n2 cv n3 cb : Nat) (zs : List Int) (l : List (Vo × Value)) (bs : List Nat) (w : World)
    (hf : Fl w Z p (zs.map encI)) (hn1 : n1 = zs.length) (hfv : Fl w Z pv (vflat l)) (hvn : Vn w Z l) (hn2 : n2 = l.length) (hfb : Rb w pb n3 bs) (hbk : ∀ a, pb = some a → 0 < n3 → Z a.block) (hZ : ∀ b, Z b → b < w.heap.size)
    (hk : ∀ x ∈ [k0, k1, k2, k3, k4, k5, k6, k7, k8], x ≤ 1152921504606846976) (hc : mayC c zs = true) (hgc : goodC c) (hl : ∀ x ∈ l, mayVo x.1 = true ∧ goodC x.1.c) (hl9 : n2 ≤ 1000) (hb9 : n3 ≤ 2000)
    (hM : ∀ u, Kp (fun _ => False) w u → Calls Tryd.prog 22 #[.agg (msgA ⟨(k0 : Int), (k1 : Int), (k2 : Int), (k3 : Int), (k4 : Int), (k5 : Int), (k6 : Int), (k7 : Int), (k8 : Int), ok, c⟩ (.slice p n1 cp) (.slice pv n2 cv) (.slice pb n3 cb))] u fun e w' => e = .returned (.bool true) ∧ Kp (fun _ => False) u w') :
    Calls Tryd.prog 15 #[.agg (msgA ⟨(k0 : Int), (k1 : Int), (k2 : Int), (k3 : Int), (k4 : Int), (k5 : Int), (k6 : Int), (k7 : Int), (k8 : Int), ok, c⟩ (.slice p n1 cp) (.slice pv n2 cv) (.slice pb n3 cb))] w fun e w' => (∃ v, e = .returned (.tuple #[v, .int .i64 0]) ∧ Ow w' w.heap.size v (msgB ⟨k0, k1, k2, k3, k4, k5, k6, k7, k8, ok, cpOf c zs, (l.map (·.1)).map vpOf, bs⟩)) ∧ Kp (fun _ => False) w w' := by
  have HSm : Hid (∀ x ∈ [k0, k1, k2, k3, k4, k5, k6, k7, k8], x < 9223372036854775808) := fun x hx => by have := hk x hx; omega
  have HF : Hid (Fl w Z p (zs.map encI) ∧ Fl w Z pv (vflat l) ∧ Vn w Z l ∧ Rb w pb n3 bs ∧ ∀ a, pb = some a → 0 < n3 → Z a.block) := ⟨hf, hfv, hvn, hfb, hbk⟩
  have HZ : Hid (∀ b, Z b → b < w.heap.size) := hZ
  have HN : Hid (n1 = zs.length ∧ n2 = l.length ∧ n2 ≤ 1000 ∧ n3 ≤ 2000) := ⟨hn1, hn2, hl9, hb9⟩
  have HMc : Hid (MayF c zs ∧ (0 ≤ c.sum ∧ c.sum < 4294967296) ∧ (cmdB (cpOf c zs)).length ≤ 2420) := ⟨mayC_full hc, ⟨hgc.1, hgc.2.1⟩, cmdB_len hc ⟨hgc.1, hgc.2.1⟩⟩
  have HV : Hid (∀ x ∈ l, mayVo x.1 = true ∧ goodC x.1.c) := hl
  have HM : Hid (∀ u, Kp (fun _ => False) w u → Calls Tryd.prog 22 #[.agg (msgA ⟨(k0 : Int), (k1 : Int), (k2 : Int), (k3 : Int), (k4 : Int), (k5 : Int), (k6 : Int), (k7 : Int), (k8 : Int), ok, c⟩ (.slice p n1 cp) (.slice pv n2 cv) (.slice pb n3 cb))] u fun e w' => e = .returned (.bool true) ∧ Kp (fun _ => False) u w') := hM
  -- the document's Cmd of a command that may be, at whatever world that keeps what was there
  have HCm : Hid (∀ (cx : Cs0) (q : Option Addr) (nl d : Nat) (nx : List Int), Fl w Z q (nx.map encI) → nl = nx.length → mayC cx nx = true → goodC cx → ∀ u, Kp (fun _ => False) w u → Calls Tryd.prog 8 #[.agg (cmdA cx (.slice q nl d))] u fun e w' => (∃ q' m' c', e = .returned (.tuple #[.slice q' m' c', .int .i64 0]) ∧ Rb w' q' m' (cmdB (cpOf cx nx)) ∧ m' ≤ 2420 ∧ ∀ a, q' = some a → 0 < m' → u.heap.size ≤ a.block) ∧ Kp (fun _ => False) u w') := fun cx q nl d nx hfx hnl hmx hgx u ku => by
    have hml := (mayC_full hmx).len
    refine (xcmdw_ok cx Z q nl d nx u (hfx.keep ku (fun _ _ => id)) (fun b hb => Nat.lt_of_lt_of_le (HZ.out b hb) ku.size) hnl (by omega) hgx.2.2 ⟨hgx.1, hgx.2.1⟩).mono ?_
    rintro e w' ⟨hr, k⟩
    unfold CmdRes at hr
    rw [if_pos hmx] at hr
    obtain ⟨v, he, ho⟩ := hr
    obtain ⟨q', cap, hv, hmc, hrb, hblk⟩ := ho.rb (cmdB_byte hmx ⟨hgx.1, hgx.2.1⟩)
    exact ⟨⟨q', _, cap, by rw [he, hv], hrb, cmdB_len hmx ⟨hgx.1, hgx.2.1⟩, fun a ha _ => (hblk a ha).1⟩, k⟩
  have HC1 : Hid (mayC c zs = true ∧ goodC c) := ⟨hc, hgc⟩
  have HK0 : Hid (Kp (fun _ => False) w (w.alloc (.cells (msgA ⟨(k0 : Int), (k1 : Int), (k2 : Int), (k3 : Int), (k4 : Int), (k5 : Int), (k6 : Int), (k7 : Int), (k8 : Int), ok, c⟩ (.slice p n1 cp) (.slice pv n2 cv) (.slice pb n3 cb)) 40))) := (Kp.refl _ _).alloc _
  have HL0 : Hid (Lv (w.alloc (.cells (msgA ⟨(k0 : Int), (k1 : Int), (k2 : Int), (k3 : Int), (k4 : Int), (k5 : Int), (k6 : Int), (k7 : Int), (k8 : Int), ok, c⟩ (.slice p n1 cp) (.slice pv n2 cv) (.slice pb n3 cb)) 40)) w.heap.size (msgA ⟨(k0 : Int), (k1 : Int), (k2 : Int), (k3 : Int), (k4 : Int), (k5 : Int), (k6 : Int), (k7 : Int), (k8 : Int), ok, c⟩ (.slice p n1 cp) (.slice pv n2 cv) (.slice pb n3 cb)).toList) := Lv.new w _ _
  have hn2i : (n2 : Int) ≤ 1000 := by omega
  have hn3i : (n3 : Int) ≤ 2000 := by omega
  obtain ⟨dV, hdV, hdVr⟩ := dsVote
  obtain ⟨dC, hdC, hdCr⟩ := dsCmd
  obtain ⟨dM, hdM, hdMr⟩ := dsMsg
  clear hf hn1 hfv hvn hn2 hfb hbk hZ hk hc hgc hl hl9 hb9 hM
  go_enter Tryd.func15, Tryd.ntmps15
  go_upto_region 1 with fail
  obtain ⟨u0, hu0⟩ : ∃ x, x = w.alloc (.cells (msgA ⟨(k0 : Int), (k1 : Int), (k2 : Int), (k3 : Int), (k4 : Int), (k5 : Int), (k6 : Int), (k7 : Int), (k8 : Int), ok, c⟩ (.slice p n1 cp) (.slice pv n2 cv) (.slice pb n3 cb)) 40) := ⟨_, rfl⟩
  have hu0' := hu0.symm
  simp only [msgA] at hu0'
  rw [hu0']
  rw [← hu0] at HK0 HL0
  have HU0 : Hid (w.heap.size < u0.heap.size) := by
    have h9 : u0.heap.size = w.heap.size + 1 := by rw [hu0]; simp
    show _ < _
    omega
  clear hu0 hu0'
  obtain ⟨g, hg⟩ : ∃ x, x = w.heap.size := ⟨_, rfl⟩
  have HG : Hid (g = w.heap.size) := hg
  rw [← hg] at HL0 ⊢
  clear hg
  go_wp2_with (refine wpList_load_all rfl 40 _ rfl 24 g (msgA ⟨(k0 : Int), (k1 : Int), (k2 : Int), (k3 : Int), (k4 : Int), (k5 : Int), (k6 : Int), (k7 : Int), (k8 : Int), ok, c⟩ (.slice p n1 cp) (.slice pv n2 cv) (.slice pb n3 cb)).toList rfl HL0.out ⟨dM, hdM, hdMr⟩ szMsg rfl ?_)
  refine (HM.out u0 HK0.out).mono ?_
  rintro e9 u1 ⟨rfl, kk1⟩
  have HK1 : Hid (Kp (fun _ => False) w u1) := HK0.out.trans kk1 (fun _ _ e => e)
  have HL1 : Hid (Lv u1 g (msgA ⟨(k0 : Int), (k1 : Int), (k2 : Int), (k3 : Int), (k4 : Int), (k5 : Int), (k6 : Int), (k7 : Int), (k8 : Int), ok, c⟩ (.slice p n1 cp) (.slice pv n2 cv) (.slice pb n3 cb)).toList) := HL0.out.keep kk1 id
  have HU1 : Hid (g < u1.heap.size) := by have := HU0.out; have := HG.out; have := kk1.size; show _ < _; omega
  clear kk1 HL0 HK0
  have c0 : u1.cell? ⟨g, 0, none⟩ = some (.int .i64 (k0 : Int)) := HL1.out.cell (j := 0) rfl
  have c1 : u1.cell? ⟨g, 1, none⟩ = some (.int .i64 (k1 : Int)) := HL1.out.cell (j := 1) rfl
  have c2 : u1.cell? ⟨g, 2, none⟩ = some (.int .i64 (k2 : Int)) := HL1.out.cell (j := 2) rfl
  have c3 : u1.cell? ⟨g, 3, none⟩ = some (.int .i64 (k3 : Int)) := HL1.out.cell (j := 3) rfl
  have c4 : u1.cell? ⟨g, 4, none⟩ = some (.int .i64 (k4 : Int)) := HL1.out.cell (j := 4) rfl
  have c5 : u1.cell? ⟨g, 5, none⟩ = some (.int .i64 (k5 : Int)) := HL1.out.cell (j := 5) rfl
  have c6 : u1.cell? ⟨g, 6, none⟩ = some (.int .i64 (k6 : Int)) := HL1.out.cell (j := 6) rfl
  have c7 : u1.cell? ⟨g, 7, none⟩ = some (.int .i64 (k7 : Int)) := HL1.out.cell (j := 7) rfl
  have c8 : u1.cell? ⟨g, 8, none⟩ = some (.int .i64 (k8 : Int)) := HL1.out.cell (j := 8) rfl
  have HNu : Hid (Calls Tryd.prog 26 #[.slice (some ⟨u1.heap.size, 0, none⟩) 9 9] (u1.alloc (.cells #[.int .i64 (k0 : Int), .int .i64 (k1 : Int), .int .i64 (k2 : Int), .int .i64 (k3 : Int), .int .i64 (k4 : Int), .int .i64 (k5 : Int), .int .i64 (k6 : Int), .int .i64 (k7 : Int), .int .i64 (k8 : Int)] 3)) fun e w' => ∃ v, e = .returned v ∧ Ow w' (u1.heap.size + 1) v (numsB [k0, k1, k2, k3, k4, k5, k6, k7, k8]) ∧ Kp (fun _ => False) u1 w') := by
    have hl := Lv.new u1 #[.int .i64 (k0 : Int), .int .i64 (k1 : Int), .int .i64 (k2 : Int), .int .i64 (k3 : Int), .int .i64 (k4 : Int), .int .i64 (k5 : Int), .int .i64 (k6 : Int), .int .i64 (k7 : Int), .int .i64 (k8 : Int)] 3
    refine (rnums_ok (fun _ => True) (some ⟨u1.heap.size, 0, none⟩) 9 9 [k0, k1, k2, k3, k4, k5, k6, k7, k8] _ (fun j y hj => ⟨_, _, rfl, trivial, ?_⟩) rfl (by decide) HSm.out).mono ?_
    · rw [Nat.zero_add]
      exact hl.cell hj
    · rintro e w' ⟨v, rfl, ho, hk⟩
      refine ⟨v, rfl, ?_, ((Kp.refl (fun _ => False) u1).alloc _).trans hk (fun _ _ e => e)⟩
      rw [show (u1.alloc (.cells #[.int .i64 (k0 : Int), .int .i64 (k1 : Int), .int .i64 (k2 : Int), .int .i64 (k3 : Int), .int .i64 (k4 : Int), .int .i64 (k5 : Int), .int .i64 (k6 : Int), .int .i64 (k7 : Int), .int .i64 (k8 : Int)] 3)).heap.size = u1.heap.size + 1 by simp] at ho
      exact ho
  go_wp2_with fail
  refine HNu.out.mono ?_
  rintro e9 w1 ⟨v1, rfl, o1, kk1⟩
  obtain ⟨base, hbase⟩ : ∃ x, x = w.heap.size + 1 := ⟨_, rfl⟩
  have HBs : Hid (base = w.heap.size + 1 ∧ w.heap.size ≤ base ∧ g < base) := ⟨hbase, by omega, by have := HG.out; omega⟩
  have HX1 : Hid (Xz w g base (msgA ⟨(k0 : Int), (k1 : Int), (k2 : Int), (k3 : Int), (k4 : Int), (k5 : Int), (k6 : Int), (k7 : Int), (k8 : Int), ok, c⟩ (.slice p n1 cp) (.slice pv n2 cv) (.slice pb n3 cb)).toList w1 v1 (numsB [k0, k1, k2, k3, k4, k5, k6, k7, k8])) := ⟨HK1.out.trans kk1 (fun _ _ e => e), HL1.out.keep kk1 id, ownsRow_base o1 (by have h1 := HU1.out; have h2 := HG.out; omega), by have h1 := HU1.out; have h2 := HG.out; have := kk1.size; omega⟩
  have HE1 : Hid ((numsB [k0, k1, k2, k3, k4, k5, k6, k7, k8]).length ≤ 81) := numsB_len [k0, k1, k2, k3, k4, k5, k6, k7, k8] HSm.out
  clear o1 kk1 c0 c1 c2 c3 c4 c5 c6 c7 c8 HNu HL1 HK1 hbase
  obtain ⟨b9, hb9⟩ : ∃ x, x = ok := ⟨_, rfl⟩
  have HOk : Hid (b9 = ok) := hb9
  have d9 : w1.cell? ⟨g, 9, none⟩ = some (.bool b9) := by rw [hb9]; exact HX1.out.l.cell (j := 9) rfl
  clear hb9
  go_upto_if 35 with fail
  go_cut [4] (fun v wz => Hid (Xz w g base (msgA ⟨(k0 : Int), (k1 : Int), (k2 : Int), (k3 : Int), (k4 : Int), (k5 : Int), (k6 : Int), (k7 : Int), (k8 : Int), ok, c⟩ (.slice p n1 cp) (.slice pv n2 cv) (.slice pb n3 cb)).toList wz v (numsB [k0, k1, k2, k3, k4, k5, k6, k7, k8] ++ truthB ok)))
  case first =>
    have HB1 : Hid (base ≤ (w1.alloc (.cells #[.int .u8 1] 5)).heap.size ∧ base ≤ (w1.alloc (.cells #[.int .u8 0] 5)).heap.size) := ⟨Nat.le_trans HX1.out.b ((Kp.refl (fun _ => False) w1).alloc _).size, Nat.le_trans HX1.out.b ((Kp.refl (fun _ => False) w1).alloc _).size⟩
    cases hb9 : b9 with
    | true =>
      have HXa : Hid (Xz w g base (msgA ⟨(k0 : Int), (k1 : Int), (k2 : Int), (k3 : Int), (k4 : Int), (k5 : Int), (k6 : Int), (k7 : Int), (k8 : Int), ok, c⟩ (.slice p n1 cp) (.slice pv n2 cv) (.slice pb n3 cb)).toList (w1.alloc (.cells #[.int .u8 1] 5)) v1 (numsB [k0, k1, k2, k3, k4, k5, k6, k7, k8])) := HX1.out.grow ((Kp.refl _ _).alloc _)
      go_wp2_with (at_builtin; refine wpList_append_bytes (w1.alloc (.cells #[.int .u8 1] 5)) rfl _ _ rfl base v1 (numsB [k0, k1, k2, k3, k4, k5, k6, k7, k8]) rfl HXa.out.o (some ⟨w1.heap.size, 0, none⟩) 1 1 [1] rfl (rb_one w1 1 (by decide)) (by have := HE1.out; omega) HB1.out.1 ?_; intro vF wF oF kF bF)
      go_meet
      have h9 := HOk.out
      rw [hb9] at h9
      have e9 : truthB ok = [1] := by rw [← h9]; rfl
      rw [e9]
      exact HXa.out.app HBs.out.2.1 HBs.out.2.2 kF oF
    | false =>
      have HXa : Hid (Xz w g base (msgA ⟨(k0 : Int), (k1 : Int), (k2 : Int), (k3 : Int), (k4 : Int), (k5 : Int), (k6 : Int), (k7 : Int), (k8 : Int), ok, c⟩ (.slice p n1 cp) (.slice pv n2 cv) (.slice pb n3 cb)).toList (w1.alloc (.cells #[.int .u8 0] 5)) v1 (numsB [k0, k1, k2, k3, k4, k5, k6, k7, k8])) := HX1.out.grow ((Kp.refl _ _).alloc _)
      go_wp2_with (at_builtin; refine wpList_append_bytes (w1.alloc (.cells #[.int .u8 0] 5)) rfl _ _ rfl base v1 (numsB [k0, k1, k2, k3, k4, k5, k6, k7, k8]) rfl HXa.out.o (some ⟨w1.heap.size, 0, none⟩) 1 1 [0] rfl (rb_one w1 0 (by decide)) (by have := HE1.out; omega) HB1.out.2 ?_; intro vF wF oF kF bF)
      go_meet
      have h9 := HOk.out
      rw [hb9] at h9
      have e9 : truthB ok = [0] := by rw [← h9]; rfl
      rw [e9]
      exact HXa.out.app HBs.out.2.1 HBs.out.2.2 kF oF
  have HX2 : Hid (Xz w g base (msgA ⟨(k0 : Int), (k1 : Int), (k2 : Int), (k3 : Int), (k4 : Int), (k5 : Int), (k6 : Int), (k7 : Int), (k8 : Int), ok, c⟩ (.slice p n1 cp) (.slice pv n2 cv) (.slice pb n3 cb)).toList wc u4 (numsB [k0, k1, k2, k3, k4, k5, k6, k7, k8] ++ truthB ok)) := hcut
  clear hcut HX1 d9
  have HE2 : Hid ((numsB [k0, k1, k2, k3, k4, k5, k6, k7, k8] ++ truthB ok).length ≤ 82) := by have := HE1.out; show _ ≤ _; rw [List.length_append]; show _ + 1 ≤ _; omega
  have HL2 : Hid (Lv wc g (msgA ⟨(k0 : Int), (k1 : Int), (k2 : Int), (k3 : Int), (k4 : Int), (k5 : Int), (k6 : Int), (k7 : Int), (k8 : Int), ok, c⟩ (.slice p n1 cp) (.slice pv n2 cv) (.slice pb n3 cb)).toList) := HX2.out.l
  have HC2 : Hid (Calls _ _ _ _ _) := HCm.out c p n1 cp zs HF.out.1 HN.out.1 HC1.out.1 HC1.out.2 wc HX2.out.k
  go_wp2_with (refine wpList_ldm (by first | rfl | go_simp) 27 _ rfl g 10 rfl (cmdA c (.slice p n1 cp)).toList dC (HL2.out.range 10 12) hdC hdCr szCmd ?_)
  refine HC2.out.mono ?_
  rintro e9 w3 ⟨⟨q3, m3, c3, rfl, r3, l3, _⟩, kk3⟩
  have HX3 : Hid (Xz w g base (msgA ⟨(k0 : Int), (k1 : Int), (k2 : Int), (k3 : Int), (k4 : Int), (k5 : Int), (k6 : Int), (k7 : Int), (k8 : Int), ok, c⟩ (.slice p n1 cp) (.slice pv n2 cv) (.slice pb n3 cb)).toList w3 u4 (numsB [k0, k1, k2, k3, k4, k5, k6, k7, k8] ++ truthB ok)) := HX2.out.grow kk3
  have HR3 : Hid (Rb w3 q3 m3 (cmdB (cpOf c zs)) ∧ m3 ≤ 2420) := ⟨r3, l3⟩
  clear r3 l3 kk3 HC2 HL2 HX2
  go_upto_region 8 with fail
  refine xm8_region ⟨by kernel_rfl, by kernel_rfl, by kernel_rfl, by kernel_rfl, by kernel_rfl, by kernel_rfl, by kernel_rfl, by kernel_rfl, by kernel_rfl, by kernel_rfl, by kernel_rfl, by kernel_rfl, by kernel_rfl, by kernel_rfl, by kernel_rfl, by kernel_rfl, by kernel_rfl⟩ g pv n2 cv base u4 (numsB [k0, k1, k2, k3, k4, k5, k6, k7, k8] ++ truthB ok) q3 m3 c3 (cmdB (cpOf c zs)) (fun d _ _ _ _ h => by cases d <;> exact h) (by rfl) (by rfl) (by rfl) (by rfl) (HX3.out.l.cell (j := 22) rfl) HX3.out.o HR3.out.1 HBs.out.2.2 HX3.out.b (by have := HE2.out; have := HR3.out.2; omega) HN.out.2.2.1 ?_
  intro v3 v7 v8 w8 o8 kk8 b8
  simp only [Act.put, List.setIfInBounds_toArray, List.set_cons_succ, List.set_cons_zero]
  obtain ⟨pre, hpre⟩ : ∃ x, x = numsB [k0, k1, k2, k3, k4, k5, k6, k7, k8] ++ truthB ok ++ cmdB (cpOf c zs) ++ numB n2 := ⟨_, rfl⟩
  have HPre : Hid (pre = numsB [k0, k1, k2, k3, k4, k5, k6, k7, k8] ++ truthB ok ++ cmdB (cpOf c zs) ++ numB n2) := hpre
  rw [← hpre] at o8
  have HX8 : Hid (Xz w g base (msgA ⟨(k0 : Int), (k1 : Int), (k2 : Int), (k3 : Int), (k4 : Int), (k5 : Int), (k6 : Int), (k7 : Int), (k8 : Int), ok, c⟩ (.slice p n1 cp) (.slice pv n2 cv) (.slice pb n3 cb)).toList w8 v8 pre) := HX3.out.step HBs.out.2.1 HBs.out.2.2 kk8 o8
  have HE8 : Hid (pre.length ≤ 2600) := by
    have h1 := HE2.out
    have h2 := numB_len (n := n2) (by have := HN.out; omega)
    have h3 := HMc.out.2.2
    show _ ≤ _
    rw [hpre, List.length_append, List.length_append]
    omega
  clear o8 kk8 b8 hpre HX3 HR3
  have e22 : w8.cell? ⟨g, 22, none⟩ = some (.slice pv n2 cv) := HX8.out.l.cell (j := 22) rfl
  go_wp2_with fail
  go_loopg [4, 59] n2 (fun gk bv iv wz => ∃ (k : Nat) (vk : Value), k ≤ n2 ∧ gk = n2 - k ∧ iv = .int .i64 k ∧ vk = bv ∧ Hid (Xz w g base (msgA ⟨(k0 : Int), (k1 : Int), (k2 : Int), (k3 : Int), (k4 : Int), (k5 : Int), (k6 : Int), (k7 : Int), (k8 : Int), ok, c⟩ (.slice p n1 cp) (.slice pv n2 cv) (.slice pb n3 cb)).toList wz vk (pre ++ votesB (((l.take k).map (·.1)).map vpOf))))
  case atStart => exact ⟨0, v8, Nat.zero_le _, rfl, rfl, rfl, by show Xz _ _ _ _ _ _ _; rw [show votesB (((l.take 0).map (·.1)).map vpOf) = [] from rfl, List.append_nil]; exact HX8.out⟩
  case round =>
    obtain ⟨k, vk, hk, rfl, rfl, rfl, HXk⟩ := hrel
    by_cases hlt : (k : Int) < (n2 : Int)
    · have hk1 : k < l.length := by have := HN.out; omega
      obtain ⟨b1, o1, rfl, r1⟩ := fl_range (HF.out.2.1.keep HXk.out.k (fun _ _ => id)) hk1
      obtain ⟨q1, d1, en1, f1, hb1⟩ := HF.out.2.2.1 l[k] (List.getElem_mem hk1)
      have hvk := HV.out l[k] (List.getElem_mem hk1)
      rw [en1] at r1
      obtain ⟨x, hvv⟩ : ∃ x, x = l[k].1 := ⟨_, rfl⟩
      rw [← hvv] at r1 f1 hb1 hvk
      have HAt : Hid (∃ y, l[k]? = some y ∧ y.1 = x) := ⟨l[k], List.getElem?_eq_getElem hk1, hvv.symm⟩
      obtain ⟨nl, hnl⟩ : ∃ nl, nl = x.nodes.length := ⟨_, rfl⟩
      rw [← hnl] at r1
      obtain ⟨hs1, hs2, hs3⟩ := mayVo_parts hvk.1
      obtain ⟨sl, ba, cx, nx⟩ := x
      dsimp only at hs1 hs2 hs3 r1 f1 hb1 hvk hnl
      obtain ⟨sl, rfl⟩ := nat_of hs1.1
      obtain ⟨ba, rfl⟩ := nat_of hs2.1
      have HR1 : Hid (wr.rangeAt b1 (o1 + k * 14) (vcell ⟨(sl : Int), (ba : Int), cx, nx⟩ (.slice q1 nl d1))) := r1
      have HO1 : Hid ((vcell ⟨(sl : Int), (ba : Int), cx, nx⟩ (.slice q1 nl d1)).toArray.all (·.oneCell') = true) := vcell_one _ rfl
      have HKi : Hid (wrap64 ((k : Int) + 1) = ((k + 1 : Nat) : Int)) := (by show _ = _; unfold wrap64; omega)
      have HFn : Hid (Fl w Z q1 (nx.map encI) ∧ nl = nx.length ∧ mayC cx nx = true ∧ goodC cx ∧ sl ≤ 1152921504606846976 ∧ ba ≤ 1152921504606846976) := ⟨f1, hnl, hs3, hvk.2, by omega, by omega⟩
      have HEk : Hid ((pre ++ votesB (((l.take k).map (·.1)).map vpOf)).length ≤ 2600 + 2438 * 1000) := by
        have h1 := votesB_len ((l.take k).map (·.1)) (fun y hy => by
          obtain ⟨z, hz, rfl⟩ := List.mem_map.1 hy
          exact HV.out z (List.mem_of_mem_take hz))
        rw [List.length_map, List.length_take] at h1
        have := HE8.out
        have := HN.out
        have h9 : min k l.length * 2438 ≤ 1000 * 2438 := Nat.mul_le_mul_right _ (by omega)
        show _ ≤ _
        rw [List.length_append]
        omega
      obtain ⟨xk, hxk⟩ : ∃ x, x = pre ++ votesB (((l.take k).map (·.1)).map vpOf) := ⟨_, rfl⟩
      have HXd : Hid (xk = pre ++ votesB (((l.take k).map (·.1)).map vpOf)) := hxk
      rw [← hxk] at HXk HEk
      clear r1 f1 en1 hvv hnl hb1 hk1 hvk hs1 hs2 hs3 hxk
      go_upto_region 12 with (first
        | (refine wpList_load_mid rfl 72 _ rfl b1 (o1 + k * 14) rfl _ dV HR1.out hdV hdVr szVote ?_)
        | (refine wpList_store_all rfl 72 _ _ rfl 14 wr.heap.size zeroV (vcell ⟨(sl : Int), (ba : Int), cx, nx⟩ (.slice q1 nl d1)) rfl rfl (by exact Lv.new wr _ _) szVote rfl rfl HO1.out ?_; intro u2 hl2 kk2))
      have ku2 : Kp (fun _ => False) wr u2 := ((Kp.refl (fun _ => False) wr).alloc (.cells zeroV.toArray 72)).trans kk2 (fun b hb e => by omega)
      obtain ⟨gv, hgv⟩ : ∃ x, x = wr.heap.size := ⟨_, rfl⟩
      rw [← hgv] at hl2 ⊢
      have HGv : Hid (gv = wr.heap.size) := hgv
      have HXu : Hid (Xz w g base _ u2 vk xk) := HXk.out.grow ku2
      have HL2 : Hid (Lv u2 gv (vcell ⟨(sl : Int), (ba : Int), cx, nx⟩ (.slice q1 nl d1))) := hl2
      have HWu : Hid (wr.heap.size ≤ u2.heap.size) := ku2.size
      have HC2 : Hid (Calls _ _ _ _ _) := HCm.out cx q1 nl d1 nx HFn.out.1 HFn.out.2.1 HFn.out.2.2.1 HFn.out.2.2.2.1 u2 HXu.out.k
      clear ku2 hl2 kk2 hgv HR1
      go_wp2_with (refine wpList_ldm (by first | rfl | go_simp) 27 _ rfl gv 2 rfl (cmdA cx (.slice q1 nl d1)).toList dC (HL2.out.range 2 12) hdC hdCr szCmd ?_)
      refine HC2.out.mono ?_
      rintro e9 u3 ⟨⟨q3, m3, c3, rfl, r3, l3, hb3⟩, kk3⟩
      have HXv : Hid (Xz w g base _ u3 vk xk) := HXu.out.grow kk3
      have HR3 : Hid (Rb u3 q3 m3 (cmdB (cpOf cx nx)) ∧ m3 ≤ 2420 ∧ ∀ a, q3 = some a → 0 < m3 → vk.ownBlock ≠ some a.block) := ⟨r3, l3, fun a ha hp e => by
        have h1 := hb3 a ha hp
        have h2 := (ownBlock_lt HXk.out.o e).2
        have h3 := HWu.out
        omega⟩
      have HL3 : Hid (Lv u3 gv (vcell ⟨(sl : Int), (ba : Int), cx, nx⟩ (.slice q1 nl d1))) := HL2.out.keep kk3 id
      clear r3 l3 hb3 kk3 HC2 HL2 HXu
      have d0 : u3.cell? ⟨gv, 0, none⟩ = some (.int .i64 (sl : Int)) := HL3.out.cell (j := 0) rfl
      have d1' : u3.cell? ⟨gv, 1, none⟩ = some (.int .i64 (ba : Int)) := HL3.out.cell (j := 1) rfl
      have HSb : Hid (∀ x ∈ [sl, ba], x < 9223372036854775808) := fun x hx => by simp only [List.mem_cons, List.not_mem_nil, or_false] at hx; have := HFn.out; omega
      have HNu : Hid (Calls Tryd.prog 26 #[.slice (some ⟨u3.heap.size, 0, none⟩) 2 2] (u3.alloc (.cells #[.int .i64 (sl : Int), .int .i64 (ba : Int)] 3)) fun e w' => ∃ q m c', e = .returned (.slice q m c') ∧ Rb w' q m (numsB [sl, ba]) ∧ m ≤ 18 ∧ Kp (fun _ => False) u3 w') := by
        have hl := Lv.new u3 #[.int .i64 (sl : Int), .int .i64 (ba : Int)] 3
        refine (rnums_ok (fun _ => True) (some ⟨u3.heap.size, 0, none⟩) 2 2 [sl, ba] _ (fun j y hj => ⟨_, _, rfl, trivial, ?_⟩) rfl (by decide) HSb.out).mono ?_
        · rw [Nat.zero_add]
          exact hl.cell hj
        · rintro e w' ⟨v, rfl, ho, hk⟩
          obtain ⟨q, c', hv, hrb⟩ := ho.src (numsB_byte HSb.out)
          exact ⟨q, _, c', by rw [hv], hrb, numsB_len [sl, ba] HSb.out, ((Kp.refl (fun _ => False) u3).alloc _).trans hk (fun _ _ e => e)⟩
      go_wp2_with fail
      refine HNu.out.mono ?_
      rintro e9 w5 ⟨q5, m5, c5, rfl, r5, l5, kk5⟩
      have HX5 : Hid (Xz w g base _ w5 vk xk) := HXv.out.grow kk5
      have HR5 : Hid (Rb w5 q5 m5 (numsB [sl, ba]) ∧ m5 ≤ 18 ∧ m5 = (numsB [sl, ba]).length) := ⟨r5, l5, r5.len.symm⟩
      have HRk : Hid (∀ uA, Kp (fun b => vk.ownBlock = some b) w5 uA → Rb uA q3 m3 (cmdB (cpOf cx nx)) ∧ base ≤ uA.heap.size) := fun uA kA => ⟨(HR3.out.1.keep0 kk5).keepP kA (fun a ha hp => HR3.out.2.2 a ha hp), Nat.le_trans HX5.out.b kA.size⟩
      have HLe : Hid ((xk ++ numsB [sl, ba]).length + m3 ≤ 140737488355328) := by have := HEk.out; have := HR5.out; have := HR3.out; show _ ≤ _; rw [List.length_append]; omega
      clear r5 l5 kk5 HNu d0 d1' HL3 HXv
      go_wp2_with (first
        | (have kB := kA; at_builtin; refine wpList_append_bytes uA rfl _ _ rfl base vA (xk ++ numsB [sl, ba]) rfl oA q3 m3 c3 (cmdB (cpOf cx nx)) rfl (HRk.out uA kA).1 HLe.out (HRk.out uA kA).2 ?_; intro vB uB oB kB2 bB)
        | (at_builtin; refine wpList_append_bytes w5 rfl _ _ rfl base vk xk rfl HX5.out.o q5 m5 c5 (numsB [sl, ba]) rfl HR5.out.1 (by have := HEk.out; have := HR5.out; omega) HX5.out.b ?_; intro vA uA oA kA bA))
      have HXz : Hid (Xz w g base (msgA ⟨(k0 : Int), (k1 : Int), (k2 : Int), (k3 : Int), (k4 : Int), (k5 : Int), (k6 : Int), (k7 : Int), (k8 : Int), ok, c⟩ (.slice p n1 cp) (.slice (some ⟨b1, o1, none⟩) n2 cv) (.slice pb n3 cb)).toList uB vB (pre ++ votesB (((l.take (k + 1)).map (·.1)).map vpOf))) := by
        have h7 := (HX5.out.app HBs.out.2.1 HBs.out.2.2 kA oA).app HBs.out.2.1 HBs.out.2.2 kB2 oB
        obtain ⟨y, hy, hyx⟩ := HAt.out
        show Xz _ _ _ _ _ _ _
        rw [votesB_take hy, hyx]
        have e1 : voteB (vpOf ⟨(sl : Int), (ba : Int), cx, nx⟩) = numsB [sl, ba] ++ cmdB (cpOf cx nx) := rfl
        rw [e1]
        rw [HXd.out] at h7
        simp only [List.append_assoc] at h7 ⊢
        exact h7
      clear oA kA bA oB kB2 bB kB
      go_wp2_with fail
      go_roundg (n2 - (k + 1))
      case rel => exact ⟨k + 1, vB, by omega, rfl, by first | rw [HKi.out] | rfl | go_num, rfl, HXz.out⟩
      case measure => omega
    · have hkn : l.take k = l := List.take_of_length_le (by have := HN.out; omega)
      rw [hkn] at HXk
      clear hkn
      obtain ⟨mid, hmid⟩ : ∃ x, x = pre ++ votesB ((l.map (·.1)).map vpOf) := ⟨_, rfl⟩
      rw [← hmid] at HXk
      have HMid : Hid (mid = pre ++ votesB ((l.map (·.1)).map vpOf)) := hmid
      have HEm : Hid (mid.length ≤ 2600 + 2438 * 1000) := by
        have h1 := votesB_len (l.map (·.1)) (fun y hy => by
          obtain ⟨z, hz, rfl⟩ := List.mem_map.1 hy
          exact HV.out z hz)
        rw [List.length_map] at h1
        have := HE8.out
        have := HN.out
        have h9 : l.length * 2438 ≤ 1000 * 2438 := Nat.mul_le_mul_right _ (by omega)
        show _ ≤ _
        rw [hmid, List.length_append]
        omega
      clear hmid
      go_upto_region 15 with fail
      refine xm15_region ⟨by kernel_rfl, by kernel_rfl, by kernel_rfl, by kernel_rfl, by kernel_rfl, by kernel_rfl, by kernel_rfl, by kernel_rfl, by kernel_rfl, by kernel_rfl, by kernel_rfl, by kernel_rfl, by kernel_rfl, by kernel_rfl, by kernel_rfl, by kernel_rfl, by kernel_rfl, by kernel_rfl, by kernel_rfl⟩ g pb n3 cb base vk mid bs (fun d _ _ _ _ h => by cases d <;> exact h) (by rfl) (by rfl) (by rfl) (HXk.out.l.cell (j := 23) rfl) HXk.out.o (HF.out.2.2.2.1.keep0 HXk.out.k) (fun a ha hp => ?_) HBs.out.2.2 HXk.out.b (by have := HEm.out; omega) HN.out.2.2.2 ?_
      · have h1 := HZ.out _ (HF.out.2.2.2.2 a ha hp)
        have h2 := HBs.out.2.1
        exact ⟨fun e => by have := (ownBlock_lt HXk.out.o e).1; omega, Nat.lt_of_lt_of_le h1 HXk.out.k.size⟩
      intro v7 v8 v9 w10 o9 kk9 b9
      simp only [Act.put, List.setIfInBounds_toArray, List.set_cons_succ, List.set_cons_zero]
      have HX9 : Hid (Xz w g base (msgA ⟨(k0 : Int), (k1 : Int), (k2 : Int), (k3 : Int), (k4 : Int), (k5 : Int), (k6 : Int), (k7 : Int), (k8 : Int), ok, c⟩ (.slice p n1 cp) (.slice pv n2 cv) (.slice pb n3 cb)).toList w10 v9 (mid ++ numB n3 ++ bs)) := HXk.out.step HBs.out.2.1 HBs.out.2.2 kk9 o9
      clear o9 kk9 b9
      go_wp2_with fail
      go_ret2
      refine ⟨⟨v9, rfl, ?_⟩, HX9.out.k⟩
      have h9 : Ow w10 w.heap.size v9 (mid ++ numB n3 ++ bs) := ownsRow_base HX9.out.o HBs.out.2.1
      rw [HMid.out, HPre.out] at h9
      have hbl : bs.length = n3 := HF.out.2.2.2.1.len
      unfold msgB
      dsimp only
      rw [hbl]
      simp only [List.append_assoc, List.map_map, List.length_map] at h9 ⊢
      rw [← HN.out.2.1]
      exact h9
end Go.Proofs.YtoepemgflbmlcaaDoor

/- frame's cursor: truth; the votes' reading, plain. -/
namespace Go.Proofs.YtoepemgflbmlcaaDoor
set_option linter.unusedVariables false
set_option linter.unusedSimpArgs false
set_option linter.unnecessarySimpa false
open Go.RowKit Go.Deep

/-- what truth answers -/
def TrRes (Z : Nat → Prop) (r : Nat) (xs : List Nat) (e : Ending) (w' : World) : Prop := match rdTruth xs with
  | some (b, t) => e = .returned (.bool b) ∧ Cu Z w' r t
  | none => e = .panicked gaveUp

set_option maxRecDepth 100000 in
set_option maxHeartbeats 1600000 in
theorem truth_ok {Z : Nat → Prop} (r : Nat) (xs : List Nat) (w : World) (h : Cu Z w r xs) (hb : ∀ x ∈ xs, x < 256) : Calls Tryd.prog 62 #[.pointer (some ⟨r, 0, none⟩)] w fun e w' => TrRes Z r xs e w' ∧ Kp (fun b => b = r) w w' := by
  have HNn : Hid (∀ u b, b = false → Calls _ _ _ u _) := need_noB (.pointer (some ⟨r, 0, none⟩))
  have HNb : Hid (∀ u b, b = true → Calls _ _ _ u _) := need_yesB (.pointer (some ⟨r, 0, none⟩))
  cases xs with
  | nil =>
    have HT : Hid (Calls _ _ _ w _) := take_no r 1 [] w h (by decide)
    clear h hb
    go_enter Tryd.func62, Tryd.ntmps62
    go_wp2_with fail
    refine HT.out.mono ?_
    rintro e9 w9 ⟨rfl, hw9⟩
    have hw8 := hw9.symm
    subst hw8
    exact ⟨rfl, rfl, Kp.refl _ _⟩
  | cons x t =>
    have hx : x < 256 := hb x (List.mem_cons_self ..)
    have HT : Hid (Calls _ _ _ w _) := take_yes r 1 (x :: t) w h (by simp)
    have hxi : (x : Int) < 256 := by omega
    clear h hb
    go_enter Tryd.func62, Tryd.ntmps62
    go_wp2_with fail
    refine HT.out.mono ?_
    rintro e9 w1 ⟨q1, rfl, r1, c1, k1, _⟩
    obtain ⟨b1, o1, rfl, hc1⟩ := r1.cell 0 (by decide)
    have hc1' : w1.cell? ⟨b1, o1, none⟩ = some (.int .u8 (x : Int)) := hc1
    have HC1 : Hid (Cu Z w1 r t) := c1
    have HK1 : Hid (Kp (fun b => b = r) w w1) := k1
    clear HT r1 hc1 c1 k1
    by_cases h1 : x ≤ 1
    · have h1i : (x : Int) ≤ 1 := by omega
      have HV : Hid (rdTruth (x :: t) = some (x == 1, t)) := by
        show (if x ≤ 1 then some (x == 1, t) else none) = _
        rw [if_pos h1]
      go_wp2_with fail
      refine (HNb.out w1 _ (by first | rfl | simpa using h1i)).mono ?_
      rintro e9 w9 ⟨⟨v9, rfl⟩, hw9⟩
      have hw8 := hw9.symm
      subst hw8
      clear hw9
      rcases (show x = 0 ∨ x = 1 by omega) with e | e
      · subst e
        go_wp2_with fail
        go_ret
        refine ⟨?_, HK1.out⟩
        unfold TrRes
        rw [HV.out]
        exact ⟨rfl, HC1.out⟩
      · subst e
        go_wp2_with fail
        go_ret
        refine ⟨?_, HK1.out⟩
        unfold TrRes
        rw [HV.out]
        exact ⟨rfl, HC1.out⟩
    · have h1i : ¬ (x : Int) ≤ 1 := by omega
      have HV : Hid (rdTruth (x :: t) = none) := by
        show (if x ≤ 1 then some (x == 1, t) else none) = _
        rw [if_neg h1]
      go_wp2_with fail
      refine (HNn.out w1 _ (by simpa using h1i)).mono ?_
      rintro e9 w9 ⟨rfl, hw9⟩
      have hw8 := hw9.symm
      subst hw8
      refine ⟨rfl, ?_, HK1.out⟩
      unfold TrRes
      rw [HV.out]
/-- a vote as the program has it -/
def voOf (v : Vp) : Vo := ⟨v.slot, v.ballot, csOf v.c, intsOf v.c.nodes⟩
/-- what vote answers -/
def VtRes (Z : Nat → Prop) (r : Nat) (xs : List Nat) (w : World) (e : Ending) (w' : World) : Prop := match rdVote xs with
  | some (v, t) => ∃ q cap, e = .returned (.agg (vcell (voOf v) (.slice q v.c.nodes.length cap)).toArray) ∧ Fl w' (fun b => w.heap.size ≤ b ∧ b < w'.heap.size) q ((intsOf v.c.nodes).map encI) ∧ Cu Z w' r t
  | none => e = .panicked gaveUp
theorem rdVote_yes {xs t1 t2 : List Nat} {c : Cp} (h1 : seqN xs 2 = some t1) (h2 : rdCmd t1 = some (c, t2)) : rdVote xs = some (⟨seqV xs 0, seqV xs 1, c⟩, t2) := by
  unfold rdVote
  rw [seqN_nums 2 xs t1 h1]
  show (rdCmd t1).bind _ = _
  rw [h2]
  rfl
theorem rdVote_no1 {xs : List Nat} (h1 : seqN xs 2 = none) : rdVote xs = none := by
  unfold rdVote
  rw [nums_seqN 2 xs h1]
  rfl
theorem rdVote_no2 {xs t1 : List Nat} (h1 : seqN xs 2 = some t1) (h2 : rdCmd t1 = none) : rdVote xs = none := by
  unfold rdVote
  rw [seqN_nums 2 xs t1 h1]
  show (rdCmd t1).bind _ = _
  rw [h2]
  rfl
end Go.Proofs.YtoepemgflbmlcaaDoor
