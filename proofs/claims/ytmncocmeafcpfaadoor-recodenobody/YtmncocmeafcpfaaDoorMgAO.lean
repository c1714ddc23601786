/- Texts of this proof, joined: Qv, Qw, Qx, Qy. -/
import Derived.Test.YtmncocmeafcpfaaDoorMgAN
/- Votes in memory; copies of them. -/
namespace Go.Proofs.YtmncocmeafcpfaaDoor
set_option linter.unusedVariables false
open Go.RowKit Go.Deep Go.Maps

structure Vo where
  (slot ballot : Int) (c : Cs0) (nodes : List Int)
/-- a vote's cells; nv: its nodes -/
abbrev vcell (v : Vo) (nv : Value) : List Value := .int .i64 v.slot :: .int .i64 v.ballot :: (cmdA v.c nv).toList
def vflat : List (Vo × Value) → List Value
  | [] => []
  | x :: l => vcell x.1 x.2 ++ vflat l
theorem vflat_append : ∀ l m : List (Vo × Value), vflat (l ++ m) = vflat l ++ vflat m
  | [], m => rfl
  | x :: l, m => by show vcell x.1 x.2 ++ vflat (l ++ m) = vcell x.1 x.2 ++ vflat l ++ vflat m; rw [vflat_append l m, List.append_assoc]
theorem vflat_len : ∀ l : List (Vo × Value), (vflat l).length = l.length * 14
  | [] => rfl
  | x :: l => by show (vcell x.1 x.2 ++ vflat l).length = _; rw [List.length_append, vflat_len l]; simp; omega
/-- each vote's nodes lie there -/
def Vn (w : World) (Z : Nat → Prop) (l : List (Vo × Value)) : Prop := ∀ x ∈ l, ∃ p cap, x.2 = .slice p x.1.nodes.length cap ∧ Fl w Z p (x.1.nodes.map encI) ∧ x.1.nodes.length * 8 ≤ 140737488355328
theorem Vn.keep {S Z : Nat → Prop} {w w' : World} {l : List (Vo × Value)} (h : Vn w Z l) (k : Kp S w w') (hS : ∀ b, Z b → ¬ S b) : Vn w' Z l := fun x hx => by
  obtain ⟨p, cap, e, hf, hn⟩ := h x hx
  exact ⟨p, cap, e, hf.keep k hS, hn⟩
theorem Vn.mono {Z Z' : Nat → Prop} {w : World} {l : List (Vo × Value)} (h : Vn w Z l) (hz : ∀ b, Z b → Z' b) : Vn w Z' l := fun x hx => by
  obtain ⟨p, cap, e, hf, hn⟩ := h x hx
  exact ⟨p, cap, e, hf.mono hz, hn⟩
theorem vflat_one {w : World} {Z : Nat → Prop} : ∀ {l : List (Vo × Value)}, Vn w Z l → ∀ u ∈ vflat l, u.oneCell' = true
  | [], _, u, hu => by cases hu
  | x :: l, h, u, hu => by
    rcases List.mem_append.1 hu with hu | hu
    · rcases List.mem_cons.1 hu with rfl | hu
      · rfl
      · rcases List.mem_cons.1 hu with rfl | hu
        · rfl
        · obtain ⟨p, cap, e, _⟩ := h x (List.mem_cons_self)
          have h1 := cmd_one x.1.c (v := x.2) (by rw [e]; rfl)
          exact (Array.all_eq_true_iff_forall_mem.1 h1) u (by simpa using hu)
    · exact vflat_one (fun y hy => h y (List.mem_cons_of_mem _ hy)) u hu

theorem infoVote0 : (Tryd.prog.info? 125).map (fun i => (i.zero.map (·.cells.size), i.size, i.bytes)) = some (some 14, 14, 136) := by kernel_rfl
theorem infoVote : ∃ i z, Tryd.prog.info? 125 = some i ∧ i.zero = some z ∧ i.size = 14 ∧ i.bytes = 136 ∧ z.cells.size = 14 := by
  obtain ⟨i, hi, he⟩ := Option.map_eq_some_iff.1 infoVote0
  simp only [Prod.mk.injEq] at he
  obtain ⟨h1, h2, h3⟩ := he
  obtain ⟨z, hz, h4⟩ := Option.map_eq_some_iff.1 h1
  exact ⟨i, z, hi, hz, h2, h3, h4⟩

theorem vflat_at (dn rs : List (Vo × Value)) (v : Vo) (nv : Value) : ((vflat (dn ++ (v, nv) :: rs)).drop (dn.length * 14 + 2)).take 12 = (cmdA v.c nv).toList := by
  rw [vflat_append, List.drop_append, vflat_len, List.drop_of_length_le (by rw [vflat_len]; omega), List.nil_append, show dn.length * 14 + 2 - dn.length * 14 = 2 by omega]
  show ((vcell v nv ++ vflat rs).drop 2).take 12 = _
  rfl
theorem vflat_set (dn rs : List (Vo × Value)) (v : Vo) (nv nv' : Value) : (vflat (dn ++ (v, nv) :: rs)).take (dn.length * 14 + 2) ++ (cmdA v.c nv').toList ++ (vflat (dn ++ (v, nv) :: rs)).drop (dn.length * 14 + 2 + 12) = vflat ((dn ++ [(v, nv')]) ++ rs) := by
  rw [vflat_append, vflat_append, vflat_append, List.take_append, List.drop_append, vflat_len, List.take_of_length_le (by rw [vflat_len]; omega), List.drop_of_length_le (by rw [vflat_len]; omega), show dn.length * 14 + 2 - dn.length * 14 = 2 by omega, show dn.length * 14 + 2 + 12 - dn.length * 14 = 14 by omega]
  show vflat dn ++ (vcell v nv ++ vflat rs).take 2 ++ _ ++ ([] ++ (vcell v nv ++ vflat rs).drop 14) = vflat dn ++ (vcell v nv' ++ []) ++ vflat rs
  simp
theorem wrapV (k n : Nat) (hk : k ≤ n) (h : n * 136 ≤ 140737488355328) : wrap64 ((k : Int) + 1) = ((k + 1 : Nat) : Int) := by unfold wrap64; omega
theorem own_lv {w : World} {base sz n g c : Nat} {e : TypeId} {cells : List Value} (h : w.ownsRow base e sz (.slice (some ⟨g, 0, none⟩) n c) n cells) : Lv w g cells := by
  have hc := h.cells (g := g) rfl
  refine ⟨fun j u hu => ?_, fun j hj => ⟨?_, ?_⟩⟩
  · have := hc j u hu
    rwa [Addr.add_mid] at this
  · have := hc j _ (List.getElem?_eq_getElem hj)
    rw [Addr.add_mid] at this
    rw [this]; rfl
  · obtain ⟨_, h2⟩ := h
    rcases h2 with ⟨e1, _⟩ | ⟨g', cap', cur, e1, _, hh, _⟩
    · cases e1
    · cases e1
      exact frozen_of_row _ _ _ cur _ hh

end Go.Proofs.YtmncocmeafcpfaaDoor

/- Messages in memory; copies of them. -/
namespace Go.Proofs.YtmncocmeafcpfaaDoor
set_option linter.unusedVariables false
open Go.RowKit Go.Deep Go.Maps

/-- a message's numbers, and its command's -/
structure Ms0 where
  (kind src dst ballot slot blob index epoch id : Int) (ok : Bool) (c : Cs0)
abbrev msgA (m : Ms0) (nv vv bv : Value) : Array Value := #[.int .i64 m.kind, .int .i64 m.src, .int .i64 m.dst, .int .i64 m.ballot, .int .i64 m.slot, .int .i64 m.blob, .int .i64 m.index, .int .i64 m.epoch, .int .i64 m.id, .bool m.ok,
  .int .i64 m.c.id, .int .i64 m.c.kind, .string m.c.key, .int .i64 m.c.blob, .int .i64 m.c.other, .int .i64 m.c.index, .int .i64 m.c.node, .int .i64 m.c.size, .int .u32 m.c.sum, .int .i64 m.c.k, .int .i64 m.c.m, nv, vv, bv]
structure Ms where
  (s : Ms0) (nodes : List Int) (votes : List Vo) (bytes : List Nat)
/-- the value v is the message μ, with its lists in blocks of which Z holds -/
def Mr (w : World) (Z : Nat → Prop) (μ : Ms) (v : Value) : Prop :=
  ∃ (p : Option Addr) (cp : Nat) (pv : Option Addr) (cv : Nat) (l : List (Vo × Value)) (pb : Option Addr) (cb : Nat), v = .agg (msgA μ.s (.slice p μ.nodes.length cp) (.slice pv l.length cv) (.slice pb μ.bytes.length cb)) ∧
    Fl w Z p (μ.nodes.map encI) ∧ μ.nodes.length * 8 ≤ 140737488355328 ∧ l.map (·.1) = μ.votes ∧ Fl w Z pv (vflat l) ∧ Vn w Z l ∧ l.length * 136 ≤ 140737488355328 ∧ Fl w Z pb (vl μ.bytes) ∧ (∀ x ∈ μ.bytes, x < 256) ∧ μ.bytes.length ≤ 140737488355328
theorem Mr.keep {S Z : Nat → Prop} {w w' : World} {μ : Ms} {v : Value} (h : Mr w Z μ v) (k : Kp S w w') (hS : ∀ b, Z b → ¬ S b) : Mr w' Z μ v := by
  obtain ⟨p, cp, pv, cv, l, pb, cb, e, h1, h2, h3, h4, h5, h6, h7, h8, h9⟩ := h
  exact ⟨p, cp, pv, cv, l, pb, cb, e, h1.keep k hS, h2, h3, h4.keep k hS, h5.keep k hS, h6, h7.keep k hS, h8, h9⟩
theorem Mr.mono {Z Z' : Nat → Prop} {w : World} {μ : Ms} {v : Value} (h : Mr w Z μ v) (hz : ∀ b, Z b → Z' b) : Mr w Z' μ v := by
  obtain ⟨p, cp, pv, cv, l, pb, cb, e, h1, h2, h3, h4, h5, h6, h7, h8, h9⟩ := h
  exact ⟨p, cp, pv, cv, l, pb, cb, e, h1.mono hz, h2, h3, h4.mono hz, h5.mono hz, h6, h7.mono hz, h8, h9⟩
abbrev zeroM : Array Value := #[.int .i64 0, .int .i64 0, .int .i64 0, .int .i64 0, .int .i64 0, .int .i64 0, .int .i64 0, .int .i64 0, .int .i64 0, .bool false, .int .i64 0, .int .i64 0, .string ⟨#[]⟩, .int .i64 0, .int .i64 0, .int .i64 0, .int .i64 0, .int .i64 0, .int .u32 0, .int .i64 0, .int .i64 0, .slice none 0 0, .slice none 0 0, .slice none 0 0]
theorem szMsg : (Tryd.prog.info? 45).map (·.size) = some 24 := by kernel_rfl
theorem dsMsg : ∃ d, Tryd.prog.underlying 45 = some d ∧ d.isRow = true := ⟨_, Tryd.underlying45, rfl⟩
theorem msg_one (m : Ms0) {a b c : Value} (ha : a.oneCell' = true) (hb : b.oneCell' = true) (hc : c.oneCell' = true) : (msgA m a b c).toList.toArray.all (·.oneCell') = true := all_oneCell_toArray (fun x hx => by
  simp only [List.mem_cons, List.not_mem_nil, or_false] at hx
  rcases hx with rfl | rfl | rfl | rfl | rfl | rfl | rfl | rfl | rfl | rfl | rfl | rfl | rfl | rfl | rfl | rfl | rfl | rfl | rfl | rfl | rfl | rfl | rfl | rfl <;> first | rfl | assumption)
theorem fl_rb {w : World} {Z : Nat → Prop} {p : Option Addr} {xs : List Nat} (h : Fl w Z p (vl xs)) (hx : ∀ x ∈ xs, x < 256) : Rb w p xs.length xs :=
  ⟨rfl, hx, fun j hj => by
    obtain ⟨b, o, e, _, hc⟩ := h j _ (vl_get hj)
    exact ⟨b, o, e, hc⟩⟩

end Go.Proofs.YtmncocmeafcpfaaDoor

/- The same commands, votes and messages are found the same. -/
namespace Go.Proofs.YtmncocmeafcpfaaDoor
set_option linter.unusedVariables false
open Go.RowKit Go.Deep Go.Maps

theorem wrapV' (k n : Nat) (hk : k ≤ n) (h : n * 8 ≤ 140737488355328) : wrap64 ((k : Int) + 1) = ((k + 1 : Nat) : Int) := by unfold wrap64; omega

set_option maxRecDepth 100000 in
set_option maxHeartbeats 800000 in
theorem same_ints (Z1 Z2 : Nat → Prop) (p1 p2 : Option Addr) (c1 c2 : Nat) (zs : List Int) (w : World) (h1 : Fl w Z1 p1 (zs.map encI)) (h2 : Fl w Z2 p2 (zs.map encI)) (hl : Hid (zs.length * 8 ≤ 140737488355328)) :
    Calls Tryd.prog 66 #[.slice p1 zs.length c1, .slice p2 zs.length c2] w fun e w' => e = .returned (.bool true) ∧ Kp (fun _ => False) w w' := by
  obtain ⟨L, hL⟩ : ∃ L, L = zs.length := ⟨_, rfl⟩
  have HL : Hid (L = zs.length) := hL
  have HK : Hid (L * 8 ≤ 140737488355328) := by rw [hL]; exact hl
  rw [← hL]
  have H1 : Hid (Fl w Z1 p1 (zs.map encI)) := h1
  have H2 : Hid (Fl w Z2 p2 (zs.map encI)) := h2
  clear h1 h2 hL hl
  go_enter Tryd.func66, Tryd.ntmps66
  go_wp2
  go_loopg [13] L (fun gk i wr => ∃ k : Nat, k ≤ L ∧ gk = L - k ∧ i = .int .i64 k ∧ Kp (fun _ => False) w wr)
  case atStart => exact ⟨0, Nat.zero_le _, rfl, rfl, Kp.refl _ _⟩
  case round =>
    obtain ⟨k, hk, rfl, rfl, hK⟩ := hrel
    by_cases hlt : (k : Int) < (L : Int)
    · have hkl : k < zs.length := by have := HL.out; omega
      have hg : (zs.map encI)[k]? = some (encI zs[k]) := by rw [List.getElem?_map, List.getElem?_eq_getElem hkl]; rfl
      obtain ⟨b1, o1, rfl, _, e1⟩ := (H1.out.keep hK (fun _ _ => id)) k _ hg
      obtain ⟨b2, o2, rfl, _, e2⟩ := (H2.out.keep hK (fun _ _ => id)) k _ hg
      have HK1 : Hid (wrap64 ((k : Int) + 1) = ((k + 1 : Nat) : Int)) := wrapV' k L hk HK.out
      obtain ⟨z, hz⟩ : ∃ z, z = zs[k] := ⟨_, rfl⟩
      rw [← hz] at e1 e2
      clear hg hz
      go_wp2
      go_region
      go_wp2
      go_roundg (L - (k + 1))
      case rel => exact ⟨k + 1, by omega, rfl, by rw [HK1.out], hK.drew⟩
      case measure => omega
    · go_wp2
      go_ret
      exact ⟨rfl, hK⟩

set_option maxRecDepth 100000 in
set_option maxHeartbeats 1600000 in
theorem same_cmd (c : Cs0) (Z1 Z2 : Nat → Prop) (p1 p2 : Option Addr) (c1 c2 : Nat) (zs : List Int) (w : World) (h1 : Fl w Z1 p1 (zs.map encI)) (h2 : Fl w Z2 p2 (zs.map encI)) (hl : Hid (zs.length * 8 ≤ 140737488355328)) :
    Calls Tryd.prog 63 #[.agg (cmdA c (.slice p1 zs.length c1)), .agg (cmdA c (.slice p2 zs.length c2))] w fun e w' => e = .returned (.bool true) ∧ Kp (fun _ => False) w w' := by
  have HE : Hid (∀ u, Kp (fun _ => False) w u → Calls _ _ _ u _) := fun u k => same_ints Z1 Z2 p1 p2 c1 c2 zs u (h1.keep k (fun _ _ => id)) (h2.keep k (fun _ _ => id)) hl
  obtain ⟨L, hL⟩ : ∃ L, L = zs.length := ⟨_, rfl⟩
  rw [← hL] at HE ⊢
  clear h1 h2 hL hl
  go_enter Tryd.func63, Tryd.ntmps63
  go_wp2_with (go_at_call 66; refine (HE.out _ (by first | exact Kp.refl _ _ | exact (Kp.refl _ _).alloc _ | exact ((Kp.refl _ _).alloc _).alloc _)).mono ?_; rintro e w3 ⟨rfl, k3⟩)
  go_ret
  exact ⟨rfl, (((Kp.refl _ _).alloc _).alloc _).trans k3 (fun _ _ e => e)⟩

set_option maxRecDepth 100000 in
set_option maxHeartbeats 800000 in
theorem bytesEq_run (v1 v2 : Value) (b : ByteArray) (w : World) (h1 : (convert 22 9 v1).run Tryd.prog w = .ok (.string b) w) (h2 : (convert 22 9 v2).run Tryd.prog w = .ok (.string b) w) :
    Calls Tryd.prog 18 #[v1, v2] w fun e w' => e = .returned (.bool true) ∧ w' = w := by
  go_enter Tryd.func18, Tryd.ntmps18
  go_wp2
  go_ret
  exact ⟨rfl, rfl⟩
theorem bytes_same (p1 p2 : Option Addr) (n1 n2 c1 c2 : Nat) (xs : List Nat) (w : World) (h1 : Rb w p1 n1 xs) (h2 : Rb w p2 n2 xs) :
    Calls Tryd.prog 18 #[.slice p1 n1 c1, .slice p2 n2 c2] w fun e w' => e = .returned (.bool true) ∧ w' = w :=
  bytesEq_run _ _ _ w (convert_bytes p1 n1 c1 xs w h1) (convert_bytes p2 n2 c2 xs w h2)

set_option maxRecDepth 100000 in
set_option maxHeartbeats 1600000 in
theorem same_vote (v : Vo) (Z1 Z2 : Nat → Prop) (p1 p2 : Option Addr) (c1 c2 : Nat) (w : World) (h1 : Fl w Z1 p1 (v.nodes.map encI)) (h2 : Fl w Z2 p2 (v.nodes.map encI)) (hl : Hid (v.nodes.length * 8 ≤ 140737488355328)) :
    Calls Tryd.prog 65 #[.agg (vcell v (.slice p1 v.nodes.length c1)).toArray, .agg (vcell v (.slice p2 v.nodes.length c2)).toArray] w fun e w' => e = .returned (.bool true) ∧ Kp (fun _ => False) w w' := by
  have HE : Hid (∀ u, Kp (fun _ => False) w u → Calls _ _ _ u _) := fun u k => same_cmd v.c Z1 Z2 p1 p2 c1 c2 v.nodes u (h1.keep k (fun _ _ => id)) (h2.keep k (fun _ _ => id)) hl
  obtain ⟨L, hL⟩ : ∃ L, L = v.nodes.length := ⟨_, rfl⟩
  rw [← hL] at HE ⊢
  clear h1 h2 hL hl
  go_enter Tryd.func65, Tryd.ntmps65
  go_wp2_with (go_at_call 63; refine (HE.out _ (by first | exact Kp.refl _ _ | exact (Kp.refl _ _).alloc _ | exact ((Kp.refl _ _).alloc _).alloc _)).mono ?_; rintro e w3 ⟨rfl, k3⟩)
  go_ret
  exact ⟨rfl, (((Kp.refl _ _).alloc _).alloc _).trans k3 (fun _ _ e => e)⟩

end Go.Proofs.YtmncocmeafcpfaaDoor

/- The same votes and messages are found the same. -/
namespace Go.Proofs.YtmncocmeafcpfaaDoor
set_option linter.unusedVariables false
open Go.RowKit Go.Deep Go.Maps

theorem szVote : (Tryd.prog.info? 125).map (·.size) = some 14 := by kernel_rfl
theorem dsVote : ∃ d, Tryd.prog.underlying 125 = some d ∧ d.isRow = true := ⟨_, Tryd.underlying125, rfl⟩

abbrev zeroV : List Value := .int .i64 0 :: .int .i64 0 :: zeroC.toList
theorem vcell_one (v : Vo) {nv : Value} (h : nv.oneCell' = true) : (vcell v nv).toArray.all (·.oneCell') = true := all_oneCell_toArray (fun x hx => by
  rcases List.mem_cons.1 hx with rfl | hx
  · rfl
  · rcases List.mem_cons.1 hx with rfl | hx
    · rfl
    · exact (Array.all_eq_true_iff_forall_mem.1 (cmd_one v.c h)) x (by simpa using hx))
theorem fl_range {w : World} {Z : Nat → Prop} {p : Option Addr} {l : List (Vo × Value)} (h : Fl w Z p (vflat l)) {k : Nat} (hk : k < l.length) : ∃ b o, p = some ⟨b, o, none⟩ ∧ w.rangeAt b (o + k * 14) (vcell l[k].1 l[k].2) := by
  have hs : l = l.take k ++ l[k] :: l.drop (k + 1) := by rw [← List.drop_eq_getElem_cons hk, List.take_append_drop]
  have hget : ∀ j u, (vcell l[k].1 l[k].2)[j]? = some u → (vflat l)[k * 14 + j]? = some u := fun j u hu => by
    have hj : j < 14 := by have := (List.getElem?_eq_some_iff.1 hu).1; simpa using this
    rw [hs, vflat_append, List.getElem?_append_right (by rw [vflat_len, List.length_take]; omega), vflat_len, List.length_take, Nat.min_eq_left (by omega), show k * 14 + j - k * 14 = j by omega]
    show (vcell l[k].1 l[k].2 ++ vflat (l.drop (k + 1)))[j]? = _
    rw [List.getElem?_append_left (by simpa using hj)]
    exact hu
  obtain ⟨b, o, e, _, _⟩ := h (k * 14 + 0) _ (hget 0 _ rfl)
  refine ⟨b, o, e, fun j u hu => ?_⟩
  obtain ⟨b', o', e', _, hc⟩ := h (k * 14 + j) u (hget j u hu)
  rw [e] at e'
  cases e'
  rw [Nat.add_assoc]
  exact hc

set_option maxRecDepth 100000 in
set_option maxHeartbeats 1600000 in
theorem same_votes (Z1 Z2 : Nat → Prop) (p1 p2 : Option Addr) (c1 c2 : Nat) (l1 l2 : List (Vo × Value)) (w : World) (hm : l1.map (·.1) = l2.map (·.1)) (h1 : Fl w Z1 p1 (vflat l1)) (h2 : Fl w Z2 p2 (vflat l2)) (hv1 : Vn w Z1 l1) (hv2 : Vn w Z2 l2) (hl : Hid (l1.length * 136 ≤ 140737488355328)) :
    Calls Tryd.prog 64 #[.slice p1 l1.length c1, .slice p2 l2.length c2, .func (.func 65) #[] #[]] w fun e w' => e = .returned (.bool true) ∧ Kp (fun _ => False) w w' := by
  have hll : l2.length = l1.length := by have := congrArg List.length hm; simpa using this.symm
  obtain ⟨L, hL⟩ : ∃ L, L = l1.length := ⟨_, rfl⟩
  rw [hll, ← hL]
  have HL : Hid (L = l1.length ∧ l2.length = l1.length) := ⟨hL, hll⟩
  have HM : Hid (l1.map (·.1) = l2.map (·.1)) := hm
  have H1 : Hid (Fl w Z1 p1 (vflat l1)) := h1
  have H2 : Hid (Fl w Z2 p2 (vflat l2)) := h2
  have HV1 : Hid (Vn w Z1 l1) := hv1
  have HV2 : Hid (Vn w Z2 l2) := hv2
  have HK : Hid (L * 136 ≤ 140737488355328) := by rw [hL]; exact hl
  clear h1 h2 hv1 hv2 hm hll hL hl
  go_enter Tryd.func64, Tryd.ntmps64
  go_wp2
  go_loopg [17] L (fun gk i wr => ∃ k : Nat, k ≤ L ∧ gk = L - k ∧ i = .int .i64 k ∧ Kp (fun _ => False) w wr)
  case atStart => exact ⟨0, Nat.zero_le _, rfl, rfl, Kp.refl _ _⟩
  case round =>
    obtain ⟨k, hk, rfl, rfl, hK⟩ := hrel
    by_cases hlt : (k : Int) < (L : Int)
    · have hk1 : k < l1.length := by have := HL.out; omega
      have hk2 : k < l2.length := by have := HL.out; omega
      obtain ⟨b1, o1, rfl, r1⟩ := fl_range (H1.out.keep hK (fun _ _ => id)) hk1
      obtain ⟨b2, o2, rfl, r2⟩ := fl_range (H2.out.keep hK (fun _ _ => id)) hk2
      obtain ⟨q1, d1, en1, f1, hb1⟩ := (HV1.out.keep hK (fun _ _ => id)) l1[k] (List.getElem_mem hk1)
      obtain ⟨q2, d2, en2, f2, hb2⟩ := (HV2.out.keep hK (fun _ _ => id)) l2[k] (List.getElem_mem hk2)
      have hv : l2[k].1 = l1[k].1 := by
        have e1 : (l1.map (·.1))[k]? = some l1[k].1 := by rw [List.getElem?_map, List.getElem?_eq_getElem hk1]; rfl
        have e2 : (l2.map (·.1))[k]? = some l2[k].1 := by rw [List.getElem?_map, List.getElem?_eq_getElem hk2]; rfl
        rw [HM.out, e2] at e1
        exact Option.some.inj e1
      rw [hv] at r2 en2 f2
      rw [en1] at r1
      rw [en2] at r2
      obtain ⟨v, hvv⟩ : ∃ v, v = l1[k].1 := ⟨_, rfl⟩
      rw [← hvv] at r1 r2 f1 f2 hb1
      have HSv : Hid (∀ u, Kp (fun _ => False) wr u → Calls _ _ _ u _) := fun u ku => same_vote v Z1 Z2 q1 q2 d1 d2 u (f1.keep ku (fun _ _ => id)) (f2.keep ku (fun _ _ => id)) hb1
      obtain ⟨nl, hnl⟩ : ∃ nl, nl = v.nodes.length := ⟨_, rfl⟩
      rw [← hnl] at r1 r2 HSv
      have HR1 : Hid (wr.rangeAt b1 (o1 + k * 14) (vcell v (.slice q1 nl d1))) := r1
      have HR2 : Hid (∀ u, Kp (fun _ => False) wr u → u.rangeAt b2 (o2 + k * 14) (vcell v (.slice q2 nl d2))) := fun u ku j x hx => ku.cellv (r2 j x hx) id
      have HO1 : Hid ((vcell v (.slice q1 nl d1)).toArray.all (·.oneCell') = true) := vcell_one v rfl
      have HO2 : Hid ((vcell v (.slice q2 nl d2)).toArray.all (·.oneCell') = true) := vcell_one v rfl
      have HK1 : Hid (wrap64 ((k : Int) + 1) = ((k + 1 : Nat) : Int)) := wrapV k L hk HK.out
      obtain ⟨d, hd1, hd2⟩ := dsVote
      clear r1 r2 f1 f2 en1 en2 hv hvv hnl hb1 hb2 hk1 hk2
      go_wp2_with (first
        | (refine wpList_load_mid rfl 125 _ rfl b1 (o1 + k * 14) rfl _ d HR1.out hd1 hd2 szVote ?_)
        | (refine wpList_store_all rfl 125 _ _ rfl 14 wr.heap.size zeroV (vcell v (.slice q1 nl d1)) rfl rfl (by exact Lv.new wr _ _) szVote rfl rfl HO1.out ?_; intro u2 hl2 k2; have ku2 : Kp (fun _ => False) wr u2 := ((Kp.refl (fun _ => False) wr).alloc _).trans k2 (fun b hb e => by omega); have HR2' : Hid (u2.rangeAt b2 (o2 + k * 14) (vcell v (.slice q2 nl d2))) := HR2.out u2 ku2; have HL2 : Hid (Lv u2 wr.heap.size (vcell v (.slice q1 nl d1))) := hl2; clear hl2 k2)
        | (refine wpList_load_mid rfl 125 _ rfl b2 (o2 + k * 14) rfl _ d HR2'.out hd1 hd2 szVote ?_)
        | (refine wpList_store_all rfl 125 _ _ rfl 14 u2.heap.size zeroV (vcell v (.slice q2 nl d2)) rfl rfl (by exact Lv.new u2 _ _) szVote rfl rfl HO2.out ?_; intro u3 hl3 k3; have ku3 : Kp (fun _ => False) u2 u3 := ((Kp.refl (fun _ => False) u2).alloc _).trans k3 (fun b hb e => by omega); have HL3 : Hid (Lv u3 u2.heap.size (vcell v (.slice q2 nl d2))) := hl3; have HL2' : Hid (Lv u3 wr.heap.size (vcell v (.slice q1 nl d1))) := HL2.out.keep ku3 id; have kw3 := ku2.trans ku3 (fun _ _ e => e); clear hl3 k3)
        | (refine wpList_load_all rfl 125 _ rfl 14 wr.heap.size (vcell v (.slice q1 nl d1)) rfl HL2'.out dsVote szVote rfl ?_)
        | (refine wpList_load_all rfl 125 _ rfl 14 u2.heap.size (vcell v (.slice q2 nl d2)) rfl HL3.out dsVote szVote rfl ?_)
        | (go_at_call 65; refine (HSv.out _ kw3).mono ?_; rintro e u4 ⟨rfl, k4⟩))
      go_roundg (L - (k + 1))
      case rel => exact ⟨k + 1, by omega, rfl, by rw [HK1.out], (hK.trans kw3 (fun _ _ e => e)).trans k4 (fun _ _ e => e)⟩
      case measure => omega
    · go_wp2
      go_ret
      exact ⟨rfl, hK⟩
end Go.Proofs.YtmncocmeafcpfaaDoor
