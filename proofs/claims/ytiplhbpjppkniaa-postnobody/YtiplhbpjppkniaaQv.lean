/- Votes in memory; copies of them. -/
import Derived.Test.YtiplhbpjppkniaaQg
namespace Go.Proofs.Ytiplhbpjppkniaa
set_option linter.unusedVariables false
open Go.RowKit Go.Deep Go.Maps

structure Vo where
  (slot ballot : Int) (c : Cs0) (nodes : List Int)
/-- a vote's cells; nv: its nodes -/
abbrev vcell (v : Vo) (nv : Value) : List Value := .int .i64 v.slot :: .int .i64 v.ballot :: (cmdA v.c nv).toList
def vflat : List (Vo × Value) → List Value
  | [] => []
  | x :: l => vcell x.1 x.2 ++ vflat l
theorem vflat_append : ∀ l m : List (Vo × Value), vflat (l ++ m) = vflat l ++ vflat m
  | [], m => rfl
  | x :: l, m => by show vcell x.1 x.2 ++ vflat (l ++ m) = vcell x.1 x.2 ++ vflat l ++ vflat m; rw [vflat_append l m, List.append_assoc]
theorem vflat_len : ∀ l : List (Vo × Value), (vflat l).length = l.length * 14
  | [] => rfl
  | x :: l => by show (vcell x.1 x.2 ++ vflat l).length = _; rw [List.length_append, vflat_len l]; simp; omega
/-- each vote's nodes lie there -/
def Vn (w : World) (Z : Nat → Prop) (l : List (Vo × Value)) : Prop := ∀ x ∈ l, ∃ p cap, x.2 = .slice p x.1.nodes.length cap ∧ Fl w Z p (x.1.nodes.map encI) ∧ x.1.nodes.length * 8 ≤ 140737488355328
theorem Vn.keep {S Z : Nat → Prop} {w w' : World} {l : List (Vo × Value)} (h : Vn w Z l) (k : Kp S w w') (hS : ∀ b, Z b → ¬ S b) : Vn w' Z l := fun x hx => by
  obtain ⟨p, cap, e, hf, hn⟩ := h x hx
  exact ⟨p, cap, e, hf.keep k hS, hn⟩
theorem Vn.mono {Z Z' : Nat → Prop} {w : World} {l : List (Vo × Value)} (h : Vn w Z l) (hz : ∀ b, Z b → Z' b) : Vn w Z' l := fun x hx => by
  obtain ⟨p, cap, e, hf, hn⟩ := h x hx
  exact ⟨p, cap, e, hf.mono hz, hn⟩
theorem vflat_one {w : World} {Z : Nat → Prop} : ∀ {l : List (Vo × Value)}, Vn w Z l → ∀ u ∈ vflat l, u.oneCell' = true
  | [], _, u, hu => by cases hu
  | x :: l, h, u, hu => by
    rcases List.mem_append.1 hu with hu | hu
    · rcases List.mem_cons.1 hu with rfl | hu
      · rfl
      · rcases List.mem_cons.1 hu with rfl | hu
        · rfl
        · obtain ⟨p, cap, e, _⟩ := h x (List.mem_cons_self)
          have h1 := cmd_one x.1.c (v := x.2) (by rw [e]; rfl)
          exact (Array.all_eq_true_iff_forall_mem.1 h1) u (by simpa using hu)
    · exact vflat_one (fun y hy => h y (List.mem_cons_of_mem _ hy)) u hu

theorem infoVote0 : (Try.prog.info? 65).map (fun i => (i.zero.map (·.cells.size), i.size, i.bytes)) = some (some 14, 14, 136) := by kernel_rfl
theorem infoVote : ∃ i z, Try.prog.info? 65 = some i ∧ i.zero = some z ∧ i.size = 14 ∧ i.bytes = 136 ∧ z.cells.size = 14 := by
  obtain ⟨i, hi, he⟩ := Option.map_eq_some_iff.1 infoVote0
  simp only [Prod.mk.injEq] at he
  obtain ⟨h1, h2, h3⟩ := he
  obtain ⟨z, hz, h4⟩ := Option.map_eq_some_iff.1 h1
  exact ⟨i, z, hi, hz, h2, h3, h4⟩

set_option maxRecDepth 100000 in
set_option maxHeartbeats 800000 in
theorem clone_vs (Z : Nat → Prop) (p : Option Addr) (c n : Nat) (cells : List Value) (w : World) (h : Fl w Z p cells) (hl : cells.length = n * 14) (h1 : ∀ u ∈ cells, u.oneCell' = true) (hn : Hid (n * 136 ≤ 140737488355328)) :
    Calls Try.prog 42 #[.slice p n c] w fun e w' => ∃ v, e = .returned v ∧ Kp (fun _ => False) w w' ∧ w'.ownsRow w.heap.size 65 14 v n cells := by
  cases p with
  | none =>
    have h0 : cells = [] := by
      cases cells with
      | nil => rfl
      | cons x l => obtain ⟨b, o, e, _⟩ := h 0 x rfl; cases e
    subst h0
    have hn0 : n = 0 := by simp at hl; omega
    subst hn0
    have hne := fun w => Lib.run_eql_slice_nil (P := Try.prog) w 35 65 none 0 c 0 0 Try.underlying35
    clear h hn hl h1
    go_enter Try.func42, Try.ntmps42
    go_wp2
    go_ret
    exact ⟨_, rfl, Kp.refl _ _, World.ownsRow_nil _ _ _ _⟩
  | some a =>
    have hne := fun w => Lib.run_eql_slice_nil (P := Try.prog) w 35 65 (some a) n c 0 0 Try.underlying35
    have HF : Hid (Fl w Z (some a) cells) := h
    have HL : Hid (cells.length = n * 14) := hl
    have HO : Hid (∀ u ∈ cells, u.oneCell' = true) := h1
    clear h hl h1
    obtain ⟨i, z, hi1, hi2, hi3, hi4, hi5⟩ := infoVote
    go_enter Try.func42, Try.ntmps42
    go_wp2_with (at_builtin; go_must (refine wpList_append_own_src _ rfl _ _ 35 35 rfl w.heap.size 65 i z 14 136 Try.underlying35 hi1 hi2 hi3 hi4 hi5 (by decide) _ 0 [] rfl (by exact World.ownsRow_made w #[] 0 (Nat.le_refl _) (by unfold maxLen; omega) rfl) _ n cells rfl ((HF.out.keep ((Kp.refl (fun _ => False) w).alloc (.cells #[] 65)) (fun _ _ => id)).src Try.underlying35 (by decide) HL.out HO.out) (by have := hn.out; unfold maxLen; omega) (by have := hn.out; omega) (by simp) ?_); intro v' w3 hown' hk3 hblk3)
    go_ret
    have k3 := grownBy_kp hk3
    refine ⟨_, rfl, Kp.trans ((Kp.refl _ _).alloc _) k3 (fun b hb e => ?_), by simpa using hown'⟩
    have e' : some w.heap.size = some b := e
    have := Option.some.inj e'
    omega

theorem vflat_at (dn rs : List (Vo × Value)) (v : Vo) (nv : Value) : ((vflat (dn ++ (v, nv) :: rs)).drop (dn.length * 14 + 2)).take 12 = (cmdA v.c nv).toList := by
  rw [vflat_append, List.drop_append, vflat_len, List.drop_of_length_le (by rw [vflat_len]; omega), List.nil_append, show dn.length * 14 + 2 - dn.length * 14 = 2 by omega]
  show ((vcell v nv ++ vflat rs).drop 2).take 12 = _
  rfl
theorem vflat_set (dn rs : List (Vo × Value)) (v : Vo) (nv nv' : Value) : (vflat (dn ++ (v, nv) :: rs)).take (dn.length * 14 + 2) ++ (cmdA v.c nv').toList ++ (vflat (dn ++ (v, nv) :: rs)).drop (dn.length * 14 + 2 + 12) = vflat ((dn ++ [(v, nv')]) ++ rs) := by
  rw [vflat_append, vflat_append, vflat_append, List.take_append, List.drop_append, vflat_len, List.take_of_length_le (by rw [vflat_len]; omega), List.drop_of_length_le (by rw [vflat_len]; omega), show dn.length * 14 + 2 - dn.length * 14 = 2 by omega, show dn.length * 14 + 2 + 12 - dn.length * 14 = 14 by omega]
  show vflat dn ++ (vcell v nv ++ vflat rs).take 2 ++ _ ++ ([] ++ (vcell v nv ++ vflat rs).drop 14) = vflat dn ++ (vcell v nv' ++ []) ++ vflat rs
  simp
theorem wrapV (k n : Nat) (hk : k ≤ n) (h : n * 136 ≤ 140737488355328) : wrap64 ((k : Int) + 1) = ((k + 1 : Nat) : Int) := by unfold wrap64; omega
theorem own_lv {w : World} {base sz n g c : Nat} {e : TypeId} {cells : List Value} (h : w.ownsRow base e sz (.slice (some ⟨g, 0, none⟩) n c) n cells) : Lv w g cells := by
  have hc := h.cells (g := g) rfl
  refine ⟨fun j u hu => ?_, fun j hj => ⟨?_, ?_⟩⟩
  · have := hc j u hu
    rwa [Addr.add_mid] at this
  · have := hc j _ (List.getElem?_eq_getElem hj)
    rw [Addr.add_mid] at this
    rw [this]; rfl
  · obtain ⟨_, h2⟩ := h
    rcases h2 with ⟨e1, _⟩ | ⟨g', cap', cur, e1, _, hh, _⟩
    · cases e1
    · cases e1
      exact frozen_of_row _ _ _ cur _ hh

set_option maxRecDepth 100000 in
set_option maxHeartbeats 1600000 in
theorem clone_votes (Z : Nat → Prop) (p : Option Addr) (c : Nat) (l : List (Vo × Value)) (w : World) (h : Fl w Z p (vflat l)) (hv : Vn w Z l) (hn : Hid (l.length * 136 ≤ 140737488355328)) :
    Calls Try.prog 35 #[.slice p l.length c] w fun e w' => ∃ (q : Option Addr) (cq : Nat) (l' : List (Vo × Value)), e = .returned (.slice q l.length cq) ∧ Kp (fun _ => False) w w' ∧ l'.map (·.1) = l.map (·.1) ∧ Fl w' (fun b => w.heap.size ≤ b ∧ b < w'.heap.size) q (vflat l') ∧ Vn w' (fun b => w.heap.size ≤ b ∧ b < w'.heap.size) l' := by
  obtain ⟨n, hnn⟩ : ∃ n, n = l.length := ⟨_, rfl⟩
  have HC : Hid (Calls _ _ _ w _) := clone_vs Z p c n (vflat l) w h (by rw [vflat_len, hnn]) (vflat_one hv) (by rw [hnn]; exact hn)
  have HV : Hid (Vn w Z l) := hv
  have HNN : Hid (n = l.length) := hnn
  rw [← hnn] at hn ⊢
  clear h hv hnn
  go_enter Try.func35, Try.ntmps35
  go_wp2_with fail
  refine HC.out.mono ?_
  rintro e w1 ⟨v, rfl, k1, hown⟩
  obtain ⟨q, cq, rfl, hfl⟩ := own_fl hown
  have HS0 : Hid (0 < n → ∃ g, q = some ⟨g, 0, none⟩ ∧ w.heap.size ≤ g ∧ g < w1.heap.size ∧ Lv w1 g (vflat ([] ++ l.drop 0))) := fun h0 => by
    obtain ⟨g, cap, e⟩ := Joins.ownsRow_form hown h0
    simp only [Value.slice.injEq, true_and] at e
    obtain ⟨rfl, rfl⟩ := e
    have := ownBlock_lt hown (g := g) rfl
    exact ⟨g, rfl, this.1, this.2, own_lv hown⟩
  clear hfl hown HC
  go_wp2_with fail
  go_loopg [8] n (fun gk i wr => ∃ (k : Nat) (dn : List (Vo × Value)), k ≤ n ∧ gk = n - k ∧ i = .int .i64 k ∧ Kp (fun _ => False) w wr ∧ Hid (dn.length = k ∧ dn.map (·.1) = (l.take k).map (·.1)) ∧ Hid (0 < n → ∃ g, q = some ⟨g, 0, none⟩ ∧ w.heap.size ≤ g ∧ g < wr.heap.size ∧ Lv wr g (vflat (dn ++ l.drop k))) ∧ Hid (Vn wr (fun b => w.heap.size ≤ b ∧ b < wr.heap.size ∧ q.map (·.block) ≠ some b) dn))
  case atStart => exact ⟨0, [], Nat.zero_le _, rfl, rfl, k1, ⟨rfl, rfl⟩, HS0, fun x hx => by cases hx⟩
  case round =>
    obtain ⟨k, dn, hk, rfl, rfl, kr, HDn, HSr, HVd⟩ := hrel
    clear HS0 k1
    by_cases hlt : (k : Int) < (n : Int)
    · obtain ⟨g, rfl, hg1, hg2, hLv⟩ := HSr.out (by omega)
      have hkl : k < l.length := by rw [← HNN.out]; omega
      obtain ⟨x, hx⟩ : ∃ x, x = l[k] := ⟨_, rfl⟩
      obtain ⟨v, nv⟩ := x
      have hdr : l.drop k = (v, nv) :: l.drop (k + 1) := by rw [List.drop_eq_getElem_cons hkl, hx]
      obtain ⟨p', cap', hnv, hfl', hbn⟩ := HV.out (v, nv) (by rw [hx]; exact List.getElem_mem hkl)
      simp only at hnv hfl' hbn
      subst hnv
      rw [hdr] at hLv
      have hdl := HDn.out.1
      have HCc : Hid (∀ u, Kp (fun _ => False) w u → Calls _ _ _ u _) := fun u ku => clone_cmd v.c Z p' cap' v.nodes u (hfl'.keep ku (fun _ _ => id)) hbn
      have HLv : Hid (Lv wr g (vflat (dn ++ (v, .slice p' v.nodes.length cap') :: l.drop (k + 1)))) := hLv
      have HAt : Hid (((vflat (dn ++ (v, .slice p' v.nodes.length cap') :: l.drop (k + 1))).drop (k * 14 + 2)).take 12 = (cmdA v.c (.slice p' v.nodes.length cap')).toList) := by rw [← hdl]; exact vflat_at _ _ _ _
      have HSt : Hid (∀ nv', (vflat (dn ++ (v, .slice p' v.nodes.length cap') :: l.drop (k + 1))).take (k * 14 + 2) ++ (cmdA v.c nv').toList ++ (vflat (dn ++ (v, .slice p' v.nodes.length cap') :: l.drop (k + 1))).drop (k * 14 + 2 + 12) = vflat ((dn ++ [(v, nv')]) ++ l.drop (k + 1))) := by rw [← hdl]; exact vflat_set _ _ _ _
      have HLe : Hid (k * 14 + 2 + 12 ≤ (vflat (dn ++ (v, .slice p' v.nodes.length cap') :: l.drop (k + 1))).length) := by show _ ≤ _; rw [vflat_len, List.length_append, List.length_cons, hdl]; omega
      have HG : Hid (w.heap.size ≤ g ∧ g < wr.heap.size) := ⟨hg1, hg2⟩
      have HBn : Hid (v.nodes.length * 8 ≤ 140737488355328) := hbn
      have HX : Hid ((v, Value.slice p' v.nodes.length cap') = l[k]) := hx
      obtain ⟨d, hd1, hd2⟩ := dsCmd
      obtain ⟨nl, hnl⟩ : ∃ nl, nl = v.nodes.length := ⟨_, rfl⟩
      clear hdr hfl' hbn hLv hx hg1 hg2 hdl
      go_wp2_with (first
        | (refine wpList_load_lv rfl 34 _ rfl g (k * 14 + 2) 12 _ d HLv.out rfl hd1 hd2 szCmd HLe.out ?_; rw [HAt.out])
        | (go_at_call 34; refine (HCc.out _ kr).mono ?_; rintro e w3 ⟨q3, c3, rfl, k3, hf3⟩; have HL3 := HLv.out.keep k3 id; have HF3 : Hid (Fl w3 (fun b => wr.heap.size ≤ b ∧ b < w3.heap.size) q3 (v.nodes.map encI)) := hf3; have HL3' : Hid (Lv w3 g (vflat (dn ++ (v, .slice p' v.nodes.length cap') :: l.drop (k + 1)))) := HL3; clear HL3 hf3)
        | (refine wpList_store_sub rfl 34 _ _ rfl 12 g (k * 14 + 2) _ (cmdA v.c (.slice q3 v.nodes.length c3)).toList _ rfl rfl HL3'.out szCmd rfl HLe.out (cmd_one _ rfl) (HSt.out _) ?_; intro w4 hl4 k4))
      have kr4 : Kp (fun b => b = g) wr w4 := (k3.mono (fun _ _ e => e.elim)).trans k4 (fun _ _ e => e)
      have kw4 : Kp (fun _ => False) w w4 := kr.trans kr4 (fun b hb e => by have := HG.out; omega)
      have HDn' : Hid ((dn ++ [(v, Value.slice q3 v.nodes.length c3)]).length = k + 1 ∧ (dn ++ [(v, Value.slice q3 v.nodes.length c3)]).map (·.1) = (l.take (k + 1)).map (·.1)) := by
        refine ⟨by simp [HDn.out.1], ?_⟩
        rw [List.map_append, HDn.out.2, List.take_add_one, List.getElem?_eq_getElem hkl, ← HX.out, List.map_append]
        rfl
      have HS' : Hid (0 < n → ∃ g', (some (⟨g, 0, none⟩ : Addr)) = some ⟨g', 0, none⟩ ∧ w.heap.size ≤ g' ∧ g' < w4.heap.size ∧ Lv w4 g' (vflat ((dn ++ [(v, Value.slice q3 v.nodes.length c3)]) ++ l.drop (k + 1)))) := fun _ => ⟨g, rfl, HG.out.1, Nat.lt_of_lt_of_le HG.out.2 kr4.size, hl4⟩
      have HV' : Hid (Vn w4 (fun b => w.heap.size ≤ b ∧ b < w4.heap.size ∧ (some (⟨g, 0, none⟩ : Addr)).map (·.block) ≠ some b) (dn ++ [(v, Value.slice q3 v.nodes.length c3)])) := by
        intro y hy
        rcases List.mem_append.1 hy with hy | hy
        · have h1 := (HVd.out.keep kr4 (fun b hb e => hb.2.2 (by rw [e]; rfl))).mono (Z' := fun b => w.heap.size ≤ b ∧ b < w4.heap.size ∧ (some (⟨g, 0, none⟩ : Addr)).map (·.block) ≠ some b) (fun b hb => ⟨hb.1, Nat.lt_of_lt_of_le hb.2.1 kr4.size, hb.2.2⟩)
          exact h1 y hy
        · obtain rfl := List.mem_singleton.1 hy
          refine ⟨q3, c3, rfl, ?_, HBn.out⟩
          refine (HF3.out.keep k4 (fun b hb e => by have := HG.out; omega)).mono (fun b hb => ⟨Nat.le_trans kr.size hb.1, Nat.lt_of_lt_of_le hb.2 k4.size, fun e => ?_⟩)
          have e' : some g = some b := e
          injection e' with e'
          have := HG.out
          omega
      have HK1 : Hid (wrap64 ((k : Int) + 1) = ((k + 1 : Nat) : Int)) := wrapV k n hk hn.out
      clear k3 k4 hl4 HL3' HF3
      go_roundg (n - (k + 1))
      case rel => exact ⟨k + 1, _, by omega, rfl, by rw [HK1.out], kw4, HDn', HS', HV'⟩
      case measure => omega
    · obtain rfl : k = n := by omega
      have htl : l.take k = l := by rw [HNN.out, List.take_length]
      have hdl : l.drop k = [] := by rw [HNN.out, List.drop_length]
      have hmap := HDn.out.2
      rw [htl] at hmap
      have hdn := HDn.out.1
      have HRes : Hid (dn.map (·.1) = l.map (·.1) ∧ Fl wr (fun b => w.heap.size ≤ b ∧ b < wr.heap.size) q (vflat dn) ∧ Vn wr (fun b => w.heap.size ≤ b ∧ b < wr.heap.size) dn) := by
        refine ⟨hmap, ?_, HVd.out.mono (fun b hb => ⟨hb.1, hb.2.1⟩)⟩
        rcases Nat.eq_zero_or_pos k with h0 | h0
        · have : dn = [] := List.eq_nil_of_length_eq_zero (by omega)
          rw [this]
          intro j u hu
          cases hu
        · obtain ⟨g, rfl, hg1, hg2, hL⟩ := HSr.out h0
          rw [hdl, List.append_nil] at hL
          exact fun j u hu => ⟨g, 0, rfl, ⟨hg1, hg2⟩, by rw [Nat.zero_add]; exact hL.cell hu⟩
      clear hmap htl hdl hdn
      go_wp2
      go_ret
      exact ⟨q, ⟨cq, rfl⟩, kr, dn, HRes.out.1, HRes.out.2.1, HRes.out.2.2⟩
end Go.Proofs.Ytiplhbpjppkniaa
