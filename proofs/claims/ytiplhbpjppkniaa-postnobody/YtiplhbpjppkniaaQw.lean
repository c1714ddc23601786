/- Messages in memory; copies of them. -/
import Derived.Test.YtiplhbpjppkniaaQv
namespace Go.Proofs.Ytiplhbpjppkniaa
set_option linter.unusedVariables false
open Go.RowKit Go.Deep Go.Maps

/-- a message's numbers, and its command's -/
structure Ms0 where
  (kind src dst ballot slot blob index epoch id : Int) (ok : Bool) (c : Cs0)
abbrev msgA (m : Ms0) (nv vv bv : Value) : Array Value := #[.int .i64 m.kind, .int .i64 m.src, .int .i64 m.dst, .int .i64 m.ballot, .int .i64 m.slot, .int .i64 m.blob, .int .i64 m.index, .int .i64 m.epoch, .int .i64 m.id, .bool m.ok,
  .int .i64 m.c.id, .int .i64 m.c.kind, .string m.c.key, .int .i64 m.c.blob, .int .i64 m.c.other, .int .i64 m.c.index, .int .i64 m.c.node, .int .i64 m.c.size, .int .u32 m.c.sum, .int .i64 m.c.k, .int .i64 m.c.m, nv, vv, bv]
structure Ms where
  (s : Ms0) (nodes : List Int) (votes : List Vo) (bytes : List Nat)
/-- the value v is the message μ, with its lists in blocks of which Z holds -/
def Mr (w : World) (Z : Nat → Prop) (μ : Ms) (v : Value) : Prop :=
  ∃ (p : Option Addr) (cp : Nat) (pv : Option Addr) (cv : Nat) (l : List (Vo × Value)) (pb : Option Addr) (cb : Nat), v = .agg (msgA μ.s (.slice p μ.nodes.length cp) (.slice pv l.length cv) (.slice pb μ.bytes.length cb)) ∧
    Fl w Z p (μ.nodes.map encI) ∧ μ.nodes.length * 8 ≤ 140737488355328 ∧ l.map (·.1) = μ.votes ∧ Fl w Z pv (vflat l) ∧ Vn w Z l ∧ l.length * 136 ≤ 140737488355328 ∧ Fl w Z pb (vl μ.bytes) ∧ (∀ x ∈ μ.bytes, x < 256) ∧ μ.bytes.length ≤ 140737488355328
theorem Mr.keep {S Z : Nat → Prop} {w w' : World} {μ : Ms} {v : Value} (h : Mr w Z μ v) (k : Kp S w w') (hS : ∀ b, Z b → ¬ S b) : Mr w' Z μ v := by
  obtain ⟨p, cp, pv, cv, l, pb, cb, e, h1, h2, h3, h4, h5, h6, h7, h8, h9⟩ := h
  exact ⟨p, cp, pv, cv, l, pb, cb, e, h1.keep k hS, h2, h3, h4.keep k hS, h5.keep k hS, h6, h7.keep k hS, h8, h9⟩
theorem Mr.mono {Z Z' : Nat → Prop} {w : World} {μ : Ms} {v : Value} (h : Mr w Z μ v) (hz : ∀ b, Z b → Z' b) : Mr w Z' μ v := by
  obtain ⟨p, cp, pv, cv, l, pb, cb, e, h1, h2, h3, h4, h5, h6, h7, h8, h9⟩ := h
  exact ⟨p, cp, pv, cv, l, pb, cb, e, h1.mono hz, h2, h3, h4.mono hz, h5.mono hz, h6, h7.mono hz, h8, h9⟩
abbrev zeroM : Array Value := #[.int .i64 0, .int .i64 0, .int .i64 0, .int .i64 0, .int .i64 0, .int .i64 0, .int .i64 0, .int .i64 0, .int .i64 0, .bool false, .int .i64 0, .int .i64 0, .string ⟨#[]⟩, .int .i64 0, .int .i64 0, .int .i64 0, .int .i64 0, .int .i64 0, .int .u32 0, .int .i64 0, .int .i64 0, .slice none 0 0, .slice none 0 0, .slice none 0 0]
theorem szMsg : (Try.prog.info? 38).map (·.size) = some 24 := by kernel_rfl
theorem dsMsg : ∃ d, Try.prog.underlying 38 = some d ∧ d.isRow = true := ⟨_, Try.underlying38, rfl⟩
theorem msg_one (m : Ms0) {a b c : Value} (ha : a.oneCell' = true) (hb : b.oneCell' = true) (hc : c.oneCell' = true) : (msgA m a b c).toList.toArray.all (·.oneCell') = true := all_oneCell_toArray (fun x hx => by
  simp only [List.mem_cons, List.not_mem_nil, or_false] at hx
  rcases hx with rfl | rfl | rfl | rfl | rfl | rfl | rfl | rfl | rfl | rfl | rfl | rfl | rfl | rfl | rfl | rfl | rfl | rfl | rfl | rfl | rfl | rfl | rfl | rfl <;> first | rfl | assumption)
theorem fl_rb {w : World} {Z : Nat → Prop} {p : Option Addr} {xs : List Nat} (h : Fl w Z p (vl xs)) (hx : ∀ x ∈ xs, x < 256) : Rb w p xs.length xs :=
  ⟨rfl, hx, fun j hj => by
    obtain ⟨b, o, e, _, hc⟩ := h j _ (vl_get hj)
    exact ⟨b, o, e, hc⟩⟩

set_option maxRecDepth 100000 in
set_option maxHeartbeats 1600000 in
theorem clone_msg (Z : Nat → Prop) (μ : Ms) (v : Value) (w : World) (h : Mr w Z μ v) :
    Calls Try.prog 23 #[v] w fun e w' => ∃ v', e = .returned v' ∧ Kp (fun _ => False) w w' ∧ Mr w' (fun b => w.heap.size ≤ b ∧ b < w'.heap.size) μ v' := by
  obtain ⟨p, cp, pv, cv, l, pb, cb, rfl, h1, h2, h3, h4, h5, h6, h7, h8, h9⟩ := h
  obtain ⟨s, nodes, votes, bytes⟩ := μ
  simp only at h1 h2 h3 h4 h5 h6 h7 h8 h9
  have HC : Hid (∀ u, Kp (fun _ => False) w u → Calls _ _ _ u _) := fun u k => clone_cmd s.c Z p cp nodes u (h1.keep k (fun _ _ => id)) h2
  have HV : Hid (∀ u, Kp (fun _ => False) w u → Calls _ _ _ u _) := fun u k => clone_votes Z pv cv l u (h4.keep k (fun _ _ => id)) (h5.keep k (fun _ _ => id)) h6
  have HB : Hid (∀ u, Kp (fun _ => False) w u → Calls _ _ _ u _) := fun u k => clone_any pb bytes.length cb bytes u (fl_rb (h7.keep k (fun _ _ => id)) h8) h9
  have HM : Hid (l.map (·.1) = votes ∧ nodes.length * 8 ≤ 140737488355328 ∧ l.length * 136 ≤ 140737488355328 ∧ (∀ x ∈ bytes, x < 256) ∧ bytes.length ≤ 140737488355328) := ⟨h3, h2, h6, h8, h9⟩
  show Calls Try.prog 23 #[.agg (msgA s (.slice p nodes.length cp) (.slice pv l.length cv) (.slice pb bytes.length cb))] w _
  obtain ⟨n1, hn1⟩ : ∃ x, x = nodes.length := ⟨_, rfl⟩
  obtain ⟨n2, hn2⟩ : ∃ x, x = l.length := ⟨_, rfl⟩
  obtain ⟨n3, hn3⟩ : ∃ x, x = bytes.length := ⟨_, rfl⟩
  have HN : Hid (n1 = nodes.length ∧ n2 = l.length ∧ n3 = bytes.length) := ⟨hn1, hn2, hn3⟩
  rw [← hn1] at HC
  rw [← hn2] at HV
  rw [← hn3] at HB
  rw [← hn1, ← hn2, ← hn3]
  clear h1 h2 h3 h4 h5 h6 h7 h8 h9 hn1 hn2 hn3
  go_enter Try.func23, Try.ntmps23
  go_wp2_with fail
  obtain ⟨u, hu⟩ : ∃ x, x = (w.alloc (.cells (msgA s (.slice p n1 cp) (.slice pv n2 cv) (.slice pb n3 cb)) 38)).alloc (.cells zeroM 38) := ⟨_, rfl⟩
  have z1 : (w.alloc (.cells (msgA s (.slice p n1 cp) (.slice pv n2 cv) (.slice pb n3 cb)) 38)).heap.size = w.heap.size + 1 := by simp
  have HL1 : Hid (Lv u w.heap.size (msgA s (.slice p n1 cp) (.slice pv n2 cv) (.slice pb n3 cb)).toList) := by rw [hu]; exact (Lv.new w _ _).keep ((Kp.refl (fun _ => False) _).alloc _) id
  have HL2 : Hid (Lv u (w.heap.size + 1) zeroM.toList) := by rw [hu, ← z1]; exact Lv.new _ _ _
  have k0 : Kp (fun _ => False) w u := by rw [hu]; exact ((Kp.refl _ _).alloc _).alloc _
  have e0 : (w.alloc (.cells (msgA s (.slice p n1 cp) (.slice pv n2 cv) (.slice pb n3 cb)) 38)).alloc (.cells zeroM 38) = u := hu.symm
  rw [show ((w.alloc (.cells (msgA s (.slice p n1 cp) (.slice pv n2 cv) (.slice pb n3 cb)) 38)).alloc (.cells #[.int .i64 0, .int .i64 0, .int .i64 0, .int .i64 0, .int .i64 0, .int .i64 0, .int .i64 0, .int .i64 0, .int .i64 0, .bool false, .int .i64 0, .int .i64 0, .string ⟨#[]⟩, .int .i64 0, .int .i64 0, .int .i64 0, .int .i64 0, .int .i64 0, .int .u32 0, .int .i64 0, .int .i64 0, .slice none 0 0, .slice none 0 0, .slice none 0 0] 38)) = u from e0]
  clear e0 hu z1
  obtain ⟨g, hg⟩ : ∃ g, g = w.heap.size := ⟨_, rfl⟩
  obtain ⟨r, hr⟩ : ∃ r, r = w.heap.size + 1 := ⟨_, rfl⟩
  rw [← hg] at HL1
  rw [← hr] at HL2
  rw [← hr, ← hg]
  have HGR : Hid (w.heap.size ≤ g ∧ w.heap.size ≤ r ∧ g ≠ r ∧ g < u.heap.size ∧ r < u.heap.size) := by
    show _ ∧ _
    have h1 := HL1.out.lt (by simp)
    have h2 := HL2.out.lt (by decide)
    omega
  clear hg hr
  refine (HC.out u k0).mono ?_
  rintro e w1 ⟨q1, c1, rfl, k1, hf1⟩
  have k01 := k0.trans k1 (fun _ _ e => e)
  have HF1 : Hid (Fl w1 (fun b => u.heap.size ≤ b ∧ b < w1.heap.size) q1 (nodes.map encI)) := hf1
  have HL1a : Hid (Lv w1 g (msgA s (.slice p n1 cp) (.slice pv n2 cv) (.slice pb n3 cb)).toList) := HL1.out.keep k1 id
  have HL2a : Hid (Lv w1 r zeroM.toList) := HL2.out.keep k1 id
  have HO1 : Hid ((cmdA s.c (.slice q1 n1 c1)).toList.toArray.all (·.oneCell') = true) := cmd_one _ rfl
  clear HC HL1 HL2 hf1
  go_wp2_with (first
    | (refine wpList_store_sub rfl 34 _ _ rfl 12 g 10 (msgA s (.slice p n1 cp) (.slice pv n2 cv) (.slice pb n3 cb)).toList (cmdA s.c (.slice q1 n1 c1)).toList (msgA s (.slice q1 n1 c1) (.slice pv n2 cv) (.slice pb n3 cb)).toList rfl rfl HL1a.out szCmd rfl (show 22 ≤ 24 by omega) HO1.out rfl ?_; intro w2 hl2 k2; have kw2 : Kp (fun _ => False) w w2 := k01.trans k2 (fun b hb e => by have := HGR.out; omega); have HL1b : Hid (Lv w2 g (msgA s (.slice q1 n1 c1) (.slice pv n2 cv) (.slice pb n3 cb)).toList) := hl2; have HL2b : Hid (Lv w2 r zeroM.toList) := HL2a.out.keep k2 (fun e => HGR.out.2.2.1 e.symm); have HF2 : Hid (Fl w2 (fun b => u.heap.size ≤ b ∧ b < w2.heap.size) q1 (nodes.map encI)) := (HF1.out.keep k2 (fun b hb e => by have := HGR.out; omega)).mono (fun b hb => ⟨hb.1, Nat.lt_of_lt_of_le hb.2 k2.size⟩); have c22 : w2.cell? ⟨g, 22, none⟩ = some (.slice pv n2 cv) := hl2.cell (j := 22) rfl; have HU2 : Hid (u.heap.size ≤ w2.heap.size) := Nat.le_trans k1.size k2.size; clear hl2 HL1a HL2a HF1 k2)
    | (go_at_call 35; refine (HV.out _ kw2).mono ?_; rintro e w3 ⟨q3, c3, l3, rfl, k3, hm3, hf3, hv3⟩; have kw3 := kw2.trans k3 (fun _ _ e => e); have HL1c : Hid (Lv w3 g (msgA s (.slice q1 n1 c1) (.slice pv n2 cv) (.slice pb n3 cb)).toList) := HL1b.out.keep k3 id; have HL2c : Hid (Lv w3 r zeroM.toList) := HL2b.out.keep k3 id; have HF3 : Hid (Fl w3 (fun b => u.heap.size ≤ b ∧ b < w3.heap.size) q1 (nodes.map encI)) := (HF2.out.keep k3 (fun _ _ => id)).mono (fun b hb => ⟨hb.1, Nat.lt_of_lt_of_le hb.2 k3.size⟩); have HV3 : Hid (l3.map (·.1) = l.map (·.1) ∧ Fl w3 (fun b => w2.heap.size ≤ b ∧ b < w3.heap.size) q3 (vflat l3) ∧ Vn w3 (fun b => w2.heap.size ≤ b ∧ b < w3.heap.size) l3) := ⟨hm3, hf3, hv3⟩; have c22b : w3.cell? ⟨g, 22, none⟩ = some (.slice pv n2 cv) := HL1c.out.cell (j := 22) rfl; have f22 : w3.frozen? ⟨g, 22, none⟩ = false := HL1c.out.fz (show 22 < 24 by omega); have HL1d : Hid (Lv (w3.setCell ⟨g, 22, none⟩ (.slice q3 n2 c3)) g (msgA s (.slice q1 n1 c1) (.slice q3 n2 c3) (.slice pb n3 cb)).toList) := HL1c.out.set1 22 _ (show 22 < 24 by omega); have ks3 : Kp (fun b => b = g) w3 (w3.setCell ⟨g, 22, none⟩ (.slice q3 n2 c3)) := (Kp.refl (fun b => b = g) w3).setCell (fun _ => rfl) _; have kws : Kp (fun _ => False) w (w3.setCell ⟨g, 22, none⟩ (.slice q3 n2 c3)) := kw3.trans ks3 (fun b hb e => by have := HGR.out; omega); have c23 : (w3.setCell ⟨g, 22, none⟩ (.slice q3 n2 c3)).cell? ⟨g, 23, none⟩ = some (.slice pb n3 cb) := HL1d.out.cell (j := 23) rfl; clear HL1b HL2b HF2 hm3 hf3 hv3 c22)
    | (go_at_call 36; refine (HB.out _ kws).mono ?_; rintro e w4 ⟨v4, rfl, k4, hown4⟩; have hown5 : w4.ownsRow (w3.setCell ⟨g, 22, none⟩ (.slice q3 n2 c3)).heap.size 5 1 v4 n3 (vl bytes) := (by rw [HN.out.2.2]; exact hown4); obtain ⟨q4, c4, rfl, hf4⟩ := own_fl hown5; have kw4 := kws.trans k4 (fun _ _ e => e); have HL1e : Hid (Lv w4 g (msgA s (.slice q1 n1 c1) (.slice q3 n2 c3) (.slice pb n3 cb)).toList) := HL1d.out.keep k4 id; have HL2e : Hid (Lv w4 r zeroM.toList) := (HL2c.out.keep ks3 (fun e => HGR.out.2.2.1 e.symm)).keep k4 id; have c23b : w4.cell? ⟨g, 23, none⟩ = some (.slice pb n3 cb) := HL1e.out.cell (j := 23) rfl; have f23 : w4.frozen? ⟨g, 23, none⟩ = false := HL1e.out.fz (show 23 < 24 by omega); have HB4 : Hid (Fl w4 (fun b => (w3.setCell ⟨g, 22, none⟩ (.slice q3 n2 c3)).heap.size ≤ b ∧ b < w4.heap.size) q4 (vl bytes)) := hf4; have ks4 : Kp (fun b => b = g) w4 (w4.setCell ⟨g, 23, none⟩ (.slice q4 n3 c4)) := (Kp.refl (fun b => b = g) w4).setCell (fun _ => rfl) _; have HL1f : Hid (Lv (w4.setCell ⟨g, 23, none⟩ (.slice q4 n3 c4)) g (msgA s (.slice q1 n1 c1) (.slice q3 n2 c3) (.slice q4 n3 c4)).toList) := HL1e.out.set1 23 _ (show 23 < 24 by omega); have HL2f : Hid (Lv (w4.setCell ⟨g, 23, none⟩ (.slice q4 n3 c4)) r zeroM.toList) := HL2e.out.keep ks4 (fun e => HGR.out.2.2.1 e.symm); have HOf : Hid ((msgA s (.slice q1 n1 c1) (.slice q3 n2 c3) (.slice q4 n3 c4)).toList.toArray.all (·.oneCell') = true) := msg_one s rfl rfl rfl; clear hown4 hown5 hf4 c23 c22b f22)
    | (refine wpList_load_all rfl 38 _ rfl 24 g (msgA s (.slice q1 n1 c1) (.slice q3 n2 c3) (.slice q4 n3 c4)).toList rfl HL1f.out dsMsg szMsg rfl ?_)
    | (refine wpList_store_all rfl 38 _ _ rfl 24 r zeroM.toList (msgA s (.slice q1 n1 c1) (.slice q3 n2 c3) (.slice q4 n3 c4)).toList rfl rfl HL2f.out szMsg rfl rfl HOf.out ?_; intro w5 hl5 k5))
  refine bodyPost_ret (res_cell Try.results23 _ _ r _ rfl (hl5.load dsMsg szMsg rfl)) rfl ?_
  have kk : Kp (fun b => b = g ∨ b = r) w4 w5 := (ks4.mono (fun _ _ e => Or.inl e)).trans k5 (fun _ _ e => Or.inr e)
  have k35 : Kp (fun b => b = g ∨ b = r) w3 w5 := ((ks3.mono (fun _ _ e => Or.inl e)).trans k4 (fun _ _ e => e.elim)).trans kk (fun _ _ e => e)
  have sz3 := k35.size
  have sz4 := kk.size
  have hs3 : w3.heap.size ≤ (w3.setCell ⟨g, 22, none⟩ (.slice q3 n2 c3)).heap.size := ks3.size
  have su := HU2.out
  have sw := k0.size
  have hgr := HGR.out
  have hn := HN.out
  have s23 := k3.size
  refine ⟨_, rfl, kw4.trans kk (fun b hb e => by omega), q1, c1, q3, c3, l3, q4, c4, ?_, ?_, HM.out.2.1, ?_, ?_, ?_, ?_, ?_, HM.out.2.2.2.1, HM.out.2.2.2.2⟩
  · show Value.agg _ = Value.agg _
    have e3 : l3.length = n2 := by rw [hn.2.1]; have := congrArg List.length HV3.out.1; simpa using this
    rw [← hn.1, e3, ← hn.2.2]
  · exact (HF3.out.keep k35 (fun b hb e => by omega)).mono (fun b hb => by omega)
  · rw [HV3.out.1]; exact HM.out.1
  · exact (HV3.out.2.1.keep k35 (fun b hb e => by omega)).mono (fun b hb => by omega)
  · exact (HV3.out.2.2.keep k35 (fun b hb e => by omega)).mono (fun b hb => by omega)
  · have e3 : l3.length = l.length := by have := congrArg List.length HV3.out.1; simpa using this
    rw [e3]; exact HM.out.2.2.1
  · exact (HB4.out.keep kk (fun b hb e => by omega)).mono (fun b hb => by omega)
end Go.Proofs.Ytiplhbpjppkniaa
