/- The walk of the law ChainOrder. -/
import Derived.Test.YtjbgpbafgpdciaaCo
namespace Go.Proofs.Ytjbgpbafgpdciaa
set_option linter.unusedVariables false
open Go.RowKit Go.Deep Go.Maps

theorem infoV0 : (Try.prog.info? 36).map (fun i => (i.zero.map (·.cells.size), i.size, i.bytes)) = some (some 14, 14, 136) := by kernel_rfl
theorem infoV : ∃ i z, Try.prog.info? 36 = some i ∧ i.zero = some z ∧ i.size = 14 ∧ i.bytes = 136 ∧ z.cells.size = 14 := by
  obtain ⟨i, hi, he⟩ := Option.map_eq_some_iff.1 infoV0
  simp only [Prod.mk.injEq] at he
  obtain ⟨h1, h2, h3⟩ := he
  obtain ⟨z, hz, h4⟩ := Option.map_eq_some_iff.1 h1
  exact ⟨i, z, hi, hz, h2, h3, h4⟩
/-- a row of votes of one's own, made since w0; their lists in blocks below B -/
structure Rv (B : Nat) (w0 v : World) (a : Value) (out : List (Vo × Value)) : Prop where
  o : v.ownsRow w0.heap.size 36 14 a out.length (vflat out)
  k : Kp (fun _ => False) w0 v
  n : ∀ y ∈ out, Ni v (· < B) y.1.nodes y.2
theorem Rv.keep {B : Nat} {w0 v v' : World} {a : Value} {out : List (Vo × Value)} (h : Rv B w0 v a out) (k : Kp (fun _ => False) v v') : Rv B w0 v' a out :=
  ⟨ownsRow_keep h.o k (fun _ _ => id), h.k.trans k (fun _ _ e => e), fun y hy => (h.n y hy).keep k (fun _ _ => id)⟩
theorem Rv.nil (B : Nat) (w0 : World) : Rv B w0 w0 (.slice none 0 0) [] := ⟨World.ownsRow_nil _ _ _ _, Kp.refl _ _, fun y hy => (by cases hy)⟩
theorem vflat_sing (y : Vo × Value) : vflat [y] = vcell y.1 y.2 := by show vcell y.1 y.2 ++ [] = _; rw [List.append_nil]
set_option maxRecDepth 100000 in
theorem wpList_app_v {ops : Array Oper} {rest : List Oper} {op : Oper} {a : Act} {Q : Exit → Act → World → Prop} {B : Nat} {w0 v : World} {a' : Value} {out : List (Vo × Value)} (hB : B ≤ w0.heap.size) (h : Rv B w0 v a' out) (y : Vo × Value) (hn : Ni v (· < B) y.1.nodes y.2) (hz : (out.length + 1) * 136 ≤ 140737488355328)
    (hgd : op.guard = none) (o1 o2 : Operand) (ho : op.op = .call { callee := .builtin .append, args := #[o1, o2], argTypes := #[22, 22] }) (h1 : a.eval o1 = a') (h2 : a.eval o2 = .slice (some ⟨v.heap.size, 0, none⟩) 1 1)
    (hK : ∀ a2 w3, Rv B w0 w3 a2 (out ++ [y]) → wpList Try.prog ops Q rest (a.put op.dst a2) w3) :
    wpList Try.prog ops Q (op :: rest) a (v.alloc (.cells (vcell y.1 y.2).toArray 36)) := by
  obtain ⟨ti, tz, hi1, hi2, hi3, hi4, hi5⟩ := infoV
  have ka : Kp (fun _ => False) v (v.alloc (.cells (vcell y.1 y.2).toArray 36)) := (Kp.refl _ _).alloc _
  have hr := h.keep ka
  have hlv := Lv.new v (vcell y.1 y.2).toArray 36
  have h1c : ∀ u ∈ vcell y.1 y.2, u.oneCell' = true := by
    have := vc_one y.1 (nv := y.2) (by obtain ⟨_, _, e, _⟩ := hn; rw [e]; rfl)
    intro u hu
    exact (Array.all_eq_true_iff_forall_mem.1 this) u (by simpa using hu)
  have hsz := ka.size
  have hs0 := h.k.size
  refine wpList_append_own_src _ hgd o1 o2 22 22 ho w0.heap.size 36 ti tz 14 136 Try.underlying22 hi1 hi2 hi3 hi4 hi5 (by decide) a' out.length (vflat out) h1 hr.o _ 1 (vcell y.1 y.2) h2 (Src.ofSlice _ Try.underlying22 ⟨v.heap.size, 0, none⟩ 1 1 (vcell y.1 y.2) rfl (fun j u hj => by rw [Addr.add_mid, Nat.zero_add]; exact hlv.cell hj) h1c) (by unfold maxLen; omega) (by omega) (by omega) ?_
  intro a2 w3 hown hk hblk
  have k3 := grownBy_kp hk
  have step : ∀ zs nv, Ni v (· < B) zs nv → Ni w3 (· < B) zs nv := fun zs nv hni => (hni.keep ka (fun _ _ => id)).keep k3 (fun b hb e => by have := (ownBlock_lt hr.o e).1; omega)
  refine hK a2 w3 ⟨?_, hr.k.app hr.o k3, fun z hz => ?_⟩
  · rw [List.length_append, vflat_append, vflat_sing]
    exact hown
  · rcases List.mem_append.1 hz with e | e
    · exact step _ _ (h.n z e)
    · rw [List.mem_singleton] at e; subst e; exact step _ _ hn
theorem lv_cmd {w : World} {g : Nat} {v : Vo} {nv : Value} (h : Lv w g (vcell v nv)) : w.rangeAt g 2 (cmdA v.c nv).toList := fun j u hu => by
  have := h.r (2 + j) u (by rw [Nat.add_comm]; exact hu)
  rwa [Nat.zero_add] at this

def pl (C : Int → Option Cv) (z : Int) : Option (Cs0 × List Int) := (C z).map (fun x => (x.1, x.2.1))
def fnd (l : List (Vo × Value)) (z : Int) : Option (Cs0 × List Int) := (l.find? (fun x => x.1.slot == z)).map (fun x => (x.1.c, x.1.nodes))
theorem pl_upd (C : Int → Option Cv) (z y : Int) (c : Cs0) (zs : List Int) (mv : Value) : pl (cupd C z (c, zs, mv)) y = if y = z then some (c, zs) else pl C y := by
  unfold pl cupd
  by_cases e : y = z
  · rw [if_pos e, if_pos e]; rfl
  · rw [if_neg e, if_neg e]
theorem pl_none {C : Int → Option Cv} {z : Int} (h : pl C z = none) : C z = none := by
  unfold pl at h
  cases hc : C z with
  | none => rfl
  | some x => rw [hc] at h; cases h
theorem pl_some {C D : Int → Option Cv} {z : Int} (h : pl C z = pl D z) : (C z).isSome = (D z).isSome := by
  unfold pl at h
  cases hc : C z <;> cases hd : D z <;> rw [hc, hd] at h <;> first | rfl | cases h
theorem pl_plain {C D : Int → Option Cv} {z : Int} (h : pl C z = pl D z) : plainC C z = plainC D z := by
  unfold pl at h
  unfold plainC at0
  cases hc : C z with
  | none =>
    cases hd : D z with
    | none => rfl
    | some y => rw [hc, hd] at h; cases h
  | some x =>
    cases hd : D z with
    | none => rw [hc, hd] at h; cases h
    | some y => rw [hc, hd] at h; exact Option.some.inj h
theorem fst_pl {C D : Int → Option Cv} {n : Int} (h : ∀ z, pl C z = pl D z) (hf : Fst C n) : Fst D n :=
  ⟨hf.1, pl_none (by rw [← h]; unfold pl; rw [hf.2.1]; rfl), fun z h1 h2 => by rw [← pl_some (h z)]; exact hf.2.2 z h1 h2⟩
theorem mny_pl {C D : Int → Option Cv} {s most : Int} {k : Nat} (h : ∀ z, pl C z = pl D z) (hf : Mny C s most k) : Mny D s most k :=
  ⟨fun i hi => by rw [← pl_some (h _)]; exact hf.all i hi, hf.le, fun hh => pl_none (by rw [← h]; unfold pl; rw [hf.fin hh]; rfl)⟩
theorem frm_pl {C D : Int → Option Cv} (s : Int) (k : Nat) (h : ∀ z, pl C z = pl D z) : frm C s k = frm D s k := by
  unfold frm
  exact List.map_congr_left (fun i _ => pl_plain (h _))
theorem fnd_cons (x : Vo × Value) (l : List (Vo × Value)) (y : Int) : fnd (x :: l) y = if y = x.1.slot then some (x.1.c, x.1.nodes) else fnd l y := by
  unfold fnd
  rw [List.find?_cons]
  by_cases e : y = x.1.slot
  · rw [if_pos e]
    have : (x.1.slot == y) = true := by rw [e]; exact beq_self_eq_true _
    rw [this]; rfl
  · rw [if_neg e]
    have : (x.1.slot == y) = false := by rw [beq_eq_false_iff_ne]; exact fun h => e h.symm
    rw [this]
theorem fnd_none {l : List (Vo × Value)} {z : Int} (h : ∀ x ∈ l, x.1.slot ≠ z) : fnd l z = none := by
  unfold fnd
  have : l.find? (fun x => x.1.slot == z) = none := List.find?_eq_none.2 (fun x hx => by simpa using h x hx)
  rw [this]; rfl
theorem fnd_snoc (x : Vo × Value) (l : List (Vo × Value)) (y : Int) (h : ∀ x' ∈ l, x'.1.slot ≠ x.1.slot) : fnd (l ++ [x]) y = if y = x.1.slot then some (x.1.c, x.1.nodes) else fnd l y := by
  by_cases e : y = x.1.slot
  · rw [if_pos e]
    unfold fnd
    have : l.find? (fun x => x.1.slot == y) = none := List.find?_eq_none.2 (fun x' hx => by rw [e]; simpa using h x' hx)
    rw [List.find?_append, this, e]
    simp
  · rw [if_neg e]
    unfold fnd
    have : (x.1.slot == y) = false := by rw [beq_eq_false_iff_ne]; exact fun h => e h.symm
    rw [List.find?_append]
    cases l.find? (fun x => x.1.slot == y) with
    | none => simp [this]
    | some z => rfl
/-- slots that are unlike, from 1 to 12 -/
structure Dst (l : List (Vo × Value)) : Prop where
  nd : (l.map (·.1.slot)).Nodup
  r : ∀ x ∈ l, 1 ≤ x.1.slot ∧ x.1.slot ≤ 12
theorem Dst.apart {l : List (Vo × Value)} (h : Dst l) {i j : Nat} (hi : i < l.length) (hj : j < l.length) (hne : i ≠ j) : l[i].1.slot ≠ l[j].1.slot := fun e => by
  have h1 : (l.map (·.1.slot))[i]'(by simpa using hi) = (l.map (·.1.slot))[j]'(by simpa using hj) := by simpa using e
  exact hne ((List.getElem_inj h.nd).1 h1)
theorem Dst.snoc {l : List (Vo × Value)} (h : Dst l) (x : Vo × Value) (hr : 1 ≤ x.1.slot ∧ x.1.slot ≤ 12) (hn : l.any (fun y => y.1.slot == x.1.slot) = false) : Dst (l ++ [x]) := by
  refine ⟨?_, fun y hy => ?_⟩
  · rw [List.map_append, List.nodup_append]
    refine ⟨h.nd, by simp, fun a ha b hb => ?_⟩
    obtain ⟨y, hy, rfl⟩ := List.mem_map.1 ha
    have hb' : b = x.1.slot := by simpa using hb
    subst hb'
    have := List.any_eq_false.1 hn y hy
    simpa using this
  · rcases List.mem_append.1 hy with e | e
    · exact h.r y e
    · rw [List.mem_singleton] at e; subst e; exact hr

set_option maxRecDepth 100000 in
set_option maxHeartbeats 16000000 in
theorem chainOrder_walk (v : Value) (L : Nat) (w : World) (h : VotesIn w v L) :
    Calls Try.prog 4 #[v] w fun e w' => e = .returned (.bool true) ∧ Kp (fun _ => False) w w' := by
  obtain ⟨p, cp, l, rfl, hL, hf, hv, hb, hs⟩ := h
  have HV : Hid (L = l.length ∧ Fl w (· < w.heap.size) p (vflat l) ∧ Vn w (· < w.heap.size) l) := ⟨hL, hf, hv⟩
  have HLb : Hid (L * 136 ≤ 140737488355328) := by rw [hL]; exact hb
  clear hL hf hv hb hs
  go_enter Try.func4, Try.ntmps4
  go_wp2_with fail
  refine (cnew_ok w).mono ?_
  rintro e w1 ⟨ta, ma, rfl, k1, hta, hma, hca⟩
  go_wp2_with fail
  refine (cnew_ok w1).mono ?_
  rintro e w2 ⟨tb, mb, rfl, k2, htb, hmb, hcb⟩
  have HZ : Hid ((w.heap.size ≤ ta ∧ w.heap.size ≤ ma ∧ w.heap.size ≤ tb ∧ w.heap.size ≤ mb) ∧ (ta < w2.heap.size ∧ ma < w2.heap.size ∧ tb < w2.heap.size ∧ mb < w2.heap.size) ∧ (ta ≠ tb ∧ ta ≠ mb ∧ ma ≠ tb ∧ ma ≠ mb)) := by
    have h1 := hca.lt
    have h2 := hcb.lt
    have h3 := k1.size
    have h4 := k2.size
    show _ ∧ _
    omega
  have HCa : Hid (Ch w2 (fun b => b ≠ ta ∧ b ≠ ma ∧ b ≠ tb ∧ b ≠ mb) ta ma 0 0 1 (fun _ => none)) := (hca.keep0 k2).mono (fun b h => h.elim) (fun b h => ⟨h.1, h.2.1⟩)
  have HCb : Hid (Ch w2 (fun b => b ≠ ta ∧ b ≠ ma ∧ b ≠ tb ∧ b ≠ mb) tb mb 0 0 1 (fun _ => none)) := hcb.mono (fun b h => h.elim) (fun b h => ⟨h.2.2.1, h.2.2.2⟩)
  have HK2 : Hid (Kp (fun _ => False) w w2) := k1.trans k2 (fun _ _ e => e)
  clear hca hcb k1 k2 hta hma htb hmb
  go_wp2
  go_loopg [5, 15] L (fun gk rv iv wr => ∃ (k : Nat) (sl : List (Vo × Value)), k ≤ L ∧ gk = L - k ∧ iv = .int .i64 k ∧ Hid (Rv w.heap.size w2 wr rv sl) ∧ Hid (sl.length ≤ k ∧ k ≤ 21 ∧ Dst sl))
  case atStart => exact ⟨0, [], by omega, rfl, rfl, Rv.nil _ _, ⟨Nat.le_refl _, by omega, List.nodup_nil, fun x hx => (by cases hx)⟩⟩
  case round =>
    obtain ⟨k, sl, hk, rfl, rfl, HR, HS⟩ := hrel
    obtain ⟨wr0, rfl⟩ : ∃ x, x = wr := ⟨_, rfl⟩
    obtain ⟨qs, cs, hrv, hfs⟩ := own_fl HR.out.o
    subst hrv
    have HFs : Hid (Fl wr0 (fun b => w2.heap.size ≤ b ∧ b < wr0.heap.size) qs (vflat sl)) := hfs
    obtain ⟨N, hN⟩ : ∃ N, N = sl.length := ⟨_, rfl⟩
    have HN : Hid (N = sl.length ∧ N ≤ 21) := ⟨hN, by have := HS.out; omega⟩
    rw [← hN] at HR ⊢
    clear hfs hN
    by_cases hlt : (k : Int) < (L : Int)
    · have hkl : k < l.length := by have := HV.out.1; omega
      have hkw : Kp (fun _ => False) w wr0 := HK2.out.trans HR.out.k (fun _ _ e => e)
      obtain ⟨b1, o1, rfl, r1⟩ := fl_v (HV.out.2.1.keep hkw (fun _ _ => id)) hkl
      obtain ⟨x, hx⟩ : ∃ x, x = l[k] := ⟨_, rfl⟩
      have hxm : x ∈ l := by rw [hx]; exact List.getElem_mem hkl
      rw [← hx] at r1
      have HR1 : Hid (wr0.rangeAt b1 (o1 + k * 14) (vcell x.1 x.2)) := r1
      have HNx : Hid (Ni wr0 (· < w.heap.size) x.1.nodes x.2) := Ni.keep (HV.out.2.2 x hxm) hkw (fun _ _ => id)
      have HOx : Hid ((vcell x.1 x.2).toArray.all (·.oneCell') = true) := vc_one x.1 (by obtain ⟨_, _, e, _⟩ := HNx.out; rw [e]; rfl)
      obtain ⟨xs, hxs⟩ : ∃ xs, xs = vcell x.1 x.2 := ⟨_, rfl⟩
      have HXS : Hid (xs = vcell x.1 x.2 ∧ xs.length = 14) := ⟨hxs, by rw [hxs]; rfl⟩
      rw [← hxs] at HR1 HOx
      obtain ⟨d, hd1, hd2⟩ := dsVo
      have HWk : Hid (wrap64 ((k : Int) + 1) = ((k + 1 : Nat) : Int)) := wrapV k L hk HLb.out
      clear r1 hx hxm hxs hkl hkw
      by_cases h20 : (k : Int) > 20
      · go_wp2_with (first
          | (refine wpList_load_mid rfl 36 _ rfl b1 (o1 + k * 14) rfl xs d HR1.out hd1 hd2 (by rw [szVo, HXS.out.2]) ?_)
          | (refine wpList_store_all rfl 36 _ _ rfl 14 wr0.heap.size (vcell vo0 nil0) xs rfl rfl (by exact Lv.new wr0 _ _) szVo rfl HXS.out.2 HOx.out ?_; intro w4 hl4 k4; have kn4 : Kp (fun _ => False) wr0 w4 := ((Kp.refl (fun _ => False) wr0).alloc _).trans k4 (fun b hb e => by omega); clear hl4 k4))
        have HRt : Hid (Rv w.heap.size w2 w4 (.slice qs N cs) sl) := HR.out.keep kn4
        have HFt : Hid (Fl w4 (fun b => w2.heap.size ≤ b ∧ b < wr0.heap.size) qs (vflat sl)) := HFs.out.keep kn4 (fun _ _ => id)
        obtain ⟨wt, rfl⟩ : ∃ x, x = w4 := ⟨_, rfl⟩
        clear kn4 HR HFs HR1 HOx HNx HXS
        have HA0 : Hid (Ch wt (fun b => b ≠ ta ∧ b ≠ ma ∧ b ≠ tb ∧ b ≠ mb) ta ma 0 0 1 (fun _ => none)) := HCa.out.keep0 HRt.out.k
        have HB0 : Hid (Ch wt (fun b => b ≠ ta ∧ b ≠ ma ∧ b ≠ tb ∧ b ≠ mb) tb mb 0 0 1 (fun _ => none)) := HCb.out.keep0 HRt.out.k
        have HF2 : Hid (Fl wt (fun b => b ≠ ta ∧ b ≠ ma ∧ b ≠ tb ∧ b ≠ mb) qs (vflat sl)) := HFt.out.mono (fun b hb => by have := HZ.out; omega)
        have HN2 : Hid (∀ y ∈ sl, Ni wt (fun b => b ≠ ta ∧ b ≠ ma ∧ b ≠ tb ∧ b ≠ mb) y.1.nodes y.2) := fun y hy => (HRt.out.n y hy).mono (fun b hb => by have := HZ.out; omega)
        have HKt : Hid (Kp (fun _ => False) w wt) := HK2.out.trans HRt.out.k (fun _ _ e => e)
        have HD : Hid (Dst sl) := HS.out.2.2
        have HZt : Hid (ta < wt.heap.size ∧ ma < wt.heap.size ∧ tb < wt.heap.size ∧ mb < wt.heap.size) := by have h1 := HZ.out.2.1; have h2 := HRt.out.k.size; show _ ∧ _; omega
        clear HRt HFt HS
        go_wp2
        go_loopg [40] N (fun gk iv wr => ∃ (i : Nat) (qa ca qb cb : Nat) (na nb : Int) (Ca Cb : Int → Option Cv), i ≤ N ∧ gk = N - i ∧ iv = .int .i64 i ∧ Hid (Kp (fun b => b = ta ∨ b = ma ∨ b = tb ∨ b = mb) wt wr) ∧ Hid (Ch wr (fun b => b ≠ ta ∧ b ≠ ma ∧ b ≠ tb ∧ b ≠ mb) ta ma qa ca na Ca) ∧ Hid (Ch wr (fun b => b ≠ ta ∧ b ≠ ma ∧ b ≠ tb ∧ b ≠ mb) tb mb qb cb nb Cb) ∧ Hid (qa ≤ i ∧ qb ≤ i ∧ (∀ z, pl Ca z = fnd (sl.take i) z) ∧ ∀ z, pl Cb z = fnd (sl.drop (N - i)) z))
        case atStart => exact ⟨0, 0, 0, 0, 0, 1, 1, fun _ => none, fun _ => none, by omega, rfl, rfl, Kp.refl _ _, HA0, HB0, ⟨Nat.le_refl _, Nat.le_refl _, fun z => rfl, fun z => by rw [Nat.sub_zero, HN.out.1, List.drop_length]; rfl⟩⟩
        case round =>
          obtain ⟨i, qa, ca, qb, cb, na, nb, Ca, Cb, hi, rfl, rfl, HKi, HAi, HBi, HPl⟩ := hrel
          obtain ⟨wr1, rfl⟩ : ∃ x, x = wr := ⟨_, rfl⟩
          by_cases hli : (i : Int) < (N : Int)
          · have hil : i < sl.length := by have := HN.out; omega
            have hjl : N - 1 - i < sl.length := by have := HN.out; omega
            have hFi := HF2.out.keep HKi.out (fun b hb e => by omega)
            obtain ⟨b2, o2, hq2, r2⟩ := fl_v hFi hil
            obtain ⟨b3, o3, hq3, r3⟩ := fl_v hFi hjl
            subst hq2
            injection hq3 with hq3
            injection hq3 with hq31 hq32
            subst hq31 hq32
            obtain ⟨y, hy⟩ : ∃ y, y = sl[i] := ⟨_, rfl⟩
            obtain ⟨u, hu⟩ : ∃ u, u = sl[N - 1 - i] := ⟨_, rfl⟩
            have hym : y ∈ sl := by rw [hy]; exact List.getElem_mem hil
            have hum : u ∈ sl := by rw [hu]; exact List.getElem_mem hjl
            rw [← hy] at r2
            rw [← hu] at r3
            have HR2 : Hid (wr1.rangeAt b2 (o2 + i * 14) (vcell y.1 y.2)) := r2
            have HR3 : Hid (∀ v, Kp (fun _ => False) wr1 v → v.rangeAt b2 (o2 + (N - 1 - i) * 14) (vcell u.1 u.2)) := fun v kv j c hc => kv.cellv (r3 j c hc) id
            have HNy : Hid (Ni wr1 (fun b => b ≠ ta ∧ b ≠ ma ∧ b ≠ tb ∧ b ≠ mb) y.1.nodes y.2) := (HN2.out y hym).keep HKi.out (fun b hb e => by omega)
            have HNu : Hid (Ni wr1 (fun b => b ≠ ta ∧ b ≠ ma ∧ b ≠ tb ∧ b ≠ mb) u.1.nodes u.2) := (HN2.out u hum).keep HKi.out (fun b hb e => by omega)
            have HSy : Hid ((1 ≤ y.1.slot ∧ y.1.slot ≤ 12) ∧ (1 ≤ u.1.slot ∧ u.1.slot ≤ 12)) := ⟨HD.out.r y hym, HD.out.r u hum⟩
            have HTy : Hid ((∀ x' ∈ sl.take i, x'.1.slot ≠ y.1.slot) ∧ sl.take (i + 1) = sl.take i ++ [y]) := ⟨fun x' hx' => by
              obtain ⟨j, hj, rfl⟩ := List.getElem_of_mem hx'
              rw [List.length_take] at hj
              rw [List.getElem_take, hy]
              exact HD.out.apart (by omega) hil (by omega), by rw [hy, List.take_succ_eq_append_getElem hil]⟩
            have HTu : Hid ((∀ x' ∈ sl.drop (N - i), x'.1.slot ≠ u.1.slot) ∧ sl.drop (N - (i + 1)) = u :: sl.drop (N - i)) := ⟨fun x' hx' => by
              obtain ⟨j, hj, rfl⟩ := List.getElem_of_mem hx'
              rw [List.length_drop] at hj
              rw [List.getElem_drop, hu]
              exact HD.out.apart (by omega) hjl (by omega), by rw [hu, show N - (i + 1) = N - 1 - i by omega, List.drop_eq_getElem_cons hjl, show N - 1 - i + 1 = N - i by omega]⟩
            have HOy : Hid ((vcell y.1 y.2).toArray.all (·.oneCell') = true) := vc_one y.1 (by obtain ⟨_, _, e, _⟩ := HNy.out; rw [e]; rfl)
            have HOu : Hid ((vcell u.1 u.2).toArray.all (·.oneCell') = true) := vc_one u.1 (by obtain ⟨_, _, e, _⟩ := HNu.out; rw [e]; rfl)
            obtain ⟨ys, hys⟩ : ∃ ys, ys = vcell y.1 y.2 := ⟨_, rfl⟩
            obtain ⟨us, hus⟩ : ∃ us, us = vcell u.1 u.2 := ⟨_, rfl⟩
            have HYS : Hid (ys = vcell y.1 y.2 ∧ ys.length = 14) := ⟨hys, by rw [hys]; rfl⟩
            have HUS : Hid (us = vcell u.1 u.2 ∧ us.length = 14) := ⟨hus, by rw [hus]; rfl⟩
            rw [← hys] at HR2 HOy
            rw [← hus] at HR3 HOu
            obtain ⟨cy, hcy⟩ : ∃ cy, cy = (cmdA y.1.c y.2).toList := ⟨_, rfl⟩
            obtain ⟨cu, hcu⟩ : ∃ cu, cu = (cmdA u.1.c u.2).toList := ⟨_, rfl⟩
            have HCY : Hid ((cy = (cmdA y.1.c y.2).toList ∧ cy.length = 12) ∧ (cu = (cmdA u.1.c u.2).toList ∧ cu.length = 12)) := ⟨⟨hcy, by rw [hcy]; rfl⟩, ⟨hcu, by rw [hcu]; rfl⟩⟩
            obtain ⟨d2, hd21, hd22⟩ := dsVo
            obtain ⟨dC, hdC1, hdC2⟩ := dsCmd
            have hwi1 : wrap64 ((N : Int) - 1) = ((N - 1 : Nat) : Int) := by have := HN.out; unfold wrap64; omega
            have hwi2 : wrap64 (((N - 1 : Nat) : Int) - (i : Int)) = ((N - 1 - i : Nat) : Int) := by have := HN.out; unfold wrap64; omega
            have hwi3 : ((N - 1 - i : Nat) : Int) < (N : Int) := by omega
            obtain ⟨J, hJ⟩ : ∃ J, J = N - 1 - i := ⟨_, rfl⟩
            rw [← hJ] at HR3 hwi2 hwi3
            have HWi : Hid (wrap64 ((i : Int) + 1) = ((i + 1 : Nat) : Int)) := by show _ = _; have := HN.out; unfold wrap64; omega
            clear r2 r3 hFi hy hu hym hum hys hus hcy hcu hil hjl hJ
            go_wp2_with (first
              | (refine wpList_load_mid rfl 36 _ rfl b2 (o2 + i * 14) rfl ys d2 HR2.out hd21 hd22 (by rw [szVo, HYS.out.2]) ?_)
              | (refine wpList_store_all rfl 36 _ _ rfl 14 wr1.heap.size (vcell vo0 nil0) ys rfl rfl (by exact Lv.new wr1 _ _) szVo rfl HYS.out.2 HOy.out ?_; intro w4 hl4 k4; have kn4 : Kp (fun _ => False) wr1 w4 := ((Kp.refl (fun _ => False) wr1).alloc _).trans k4 (fun b hb e => by omega); have HL4 : Hid (Lv w4 wr1.heap.size ys) := hl4; have HR34 : Hid (w4.rangeAt b2 (o2 + J * 14) us) := HR3.out w4 kn4; clear hl4 k4)
              | (refine wpList_load_mid rfl 36 _ rfl b2 (o2 + J * 14) rfl us d2 HR34.out hd21 hd22 (by rw [szVo, HUS.out.2]) ?_)
              | (refine wpList_store_all rfl 36 _ _ rfl 14 w4.heap.size (vcell vo0 nil0) us rfl rfl (by exact Lv.new w4 _ _) szVo rfl HUS.out.2 HOu.out ?_; intro w5 hl5 k5; have kn5 : Kp (fun _ => False) w4 w5 := ((Kp.refl (fun _ => False) w4).alloc _).trans k5 (fun b hb e => by omega); have HL5 : Hid (Lv w5 wr1.heap.size ys ∧ Lv w5 w4.heap.size us) := ⟨HL4.out.keep kn5 id, hl5⟩; have s0 : w5.cell? ⟨wr1.heap.size, 0, none⟩ = some (.int .i64 y.1.slot) := HL5.out.1.cell (j := 0) (by rw [HYS.out.1]; rfl); have HRc : Hid (w5.rangeAt wr1.heap.size 2 cy) := (by have h1 := HL5.out.1; rw [HYS.out.1] at h1; rw [HCY.out.1.1]; exact lv_cmd h1); clear hl5 k5)
              | (refine wpList_load_mid rfl 34 _ rfl wr1.heap.size 2 rfl cy dC HRc.out hdC1 hdC2 (by rw [szCmd, HCY.out.1.2]) ?_))
            have kn15 : Kp (fun _ => False) wr1 w5 := kn4.trans kn5 (fun _ _ e => e)
            have hz14 : w4.heap.size < w5.heap.size := HL5.out.2.lt (by rw [HUS.out.2]; omega)
            have HE1 : Hid (Calls _ _ _ w5 _) := clearn_new (HAi.out.keep0 kn15) y.1.slot (by have := HSy.out; omega) y.1.c y.1.nodes y.2 _ (HNy.out.keep kn15 (fun _ _ => id)) (pl_none (by rw [HPl.out.2.2.1]; exact fnd_none HTy.out.1)) (by have := HPl.out.1; have := HN.out; omega)
            have ecy : cmdA y.1.c y.2 = cy.toArray := by rw [HCY.out.1.1]
            rw [ecy] at HE1
            obtain ⟨g1, hg1⟩ : ∃ g, g = wr1.heap.size := ⟨_, rfl⟩
            obtain ⟨g2, hg2⟩ : ∃ g, g = w4.heap.size := ⟨_, rfl⟩
            have HGs : Hid (wt.heap.size ≤ g1 ∧ wt.heap.size ≤ g2 ∧ g1 < w5.heap.size ∧ g2 < w5.heap.size) := by
              show _ ∧ _
              have := HKi.out.size
              have := kn4.size
              have := kn5.size
              omega
            rw [← hg1] at HL5 ⊢
            rw [← hg2] at HL5 ⊢
            have HB5 : Hid (Ch w5 (fun b => b ≠ ta ∧ b ≠ ma ∧ b ≠ tb ∧ b ≠ mb) tb mb qb cb nb Cb) := HBi.out.keep0 kn15
            have HNu5 : Hid (Ni w5 (fun b => b ≠ ta ∧ b ≠ ma ∧ b ≠ tb ∧ b ≠ mb) u.1.nodes u.2) := HNu.out.keep kn15 (fun _ _ => id)
            have HK5 : Hid (Kp (fun b => b = ta ∨ b = ma ∨ b = tb ∨ b = mb) wt w5) := HKi.out.trans kn15 (fun _ _ e => e.elim)
            clear hg1 hg2 s0 HRc HR34 HL4 kn4 kn5 kn15 ecy hz14 HR2 HR3 HOy HOu
            refine HE1.out.mono ?_
            rintro e w6 ⟨rfl, k6, mv6, n6, hC6⟩
            have hz6 := k6.size
            have HA6 : Hid (Ch w6 (fun b => b ≠ ta ∧ b ≠ ma ∧ b ≠ tb ∧ b ≠ mb) ta ma (qa + 1) (ca + 1) n6 (cupd Ca y.1.slot (y.1.c, y.1.nodes, mv6))) := hC6.mono (fun b hb => by
              rcases hb with hb | hb
              · exact hb
              · have h1 := HZt.out; have h2 := HK5.out.size; omega) (fun b hb => ⟨hb.1, hb.2.1⟩)
            have HB6 : Hid (Ch w6 (fun b => b ≠ ta ∧ b ≠ ma ∧ b ≠ tb ∧ b ≠ mb) tb mb qb cb nb Cb) := HB5.out.keep k6 (fun b hb e => by omega) (by have := HZ.out; omega) (by have := HZ.out; omega)
            have HL6 : Hid (w6.cell? ⟨g2, 0, none⟩ = some (.int .i64 u.1.slot) ∧ w6.rangeAt g2 2 cu) := by
              have h1 : Lv w6 g2 us := HL5.out.2.keep k6 (by have := HGs.out; have := HZt.out; omega)
              refine ⟨h1.cell (j := 0) (by rw [HUS.out.1]; rfl), ?_⟩
              rw [HUS.out.1] at h1
              rw [HCY.out.2.1]
              exact lv_cmd h1
            have HNu6 : Hid (Ni w6 (fun b => b ≠ ta ∧ b ≠ ma ∧ b ≠ tb ∧ b ≠ mb) u.1.nodes u.2) := HNu5.out.keep k6 (fun b hb e => by omega)
            have HK6 : Hid (Kp (fun b => b = ta ∨ b = ma ∨ b = tb ∨ b = mb) wt w6) := HK5.out.trans k6 (fun b hb e => by omega)
            have HE2 : Hid (Calls _ _ _ w6 _) := clearn_new HB6.out u.1.slot (by have := HSy.out; omega) u.1.c u.1.nodes u.2 _ HNu6.out (pl_none (by rw [HPl.out.2.2.2]; exact fnd_none HTu.out.1)) (by have := HPl.out.2.1; have := HN.out; omega)
            have ecu : cmdA u.1.c u.2 = cu.toArray := by rw [HCY.out.2.1]
            rw [ecu] at HE2
            have c60 := HL6.out.1
            clear HE1 hC6 k6 hz6 ecu HL5 HB5 HNu5 HK5
            go_wp2_with (refine wpList_ldw (by first | rfl | go_simp) 34 _ rfl g2 2 rfl cu dC HL6.out.2 hdC1 hdC2 (by rw [szCmd, HCY.out.2.2]) ?_)
            refine HE2.out.mono ?_
            rintro e w7 ⟨rfl, k7, mv7, n7, hC7⟩
            have HB7 : Hid (Ch w7 (fun b => b ≠ ta ∧ b ≠ ma ∧ b ≠ tb ∧ b ≠ mb) tb mb (qb + 1) (cb + 1) n7 (cupd Cb u.1.slot (u.1.c, u.1.nodes, mv7))) := hC7.mono (fun b hb => by
              rcases hb with hb | hb
              · exact hb
              · have h1 := HZt.out; have h2 := HK6.out.size; omega) (fun b hb => ⟨hb.2.2.1, hb.2.2.2⟩)
            have HA7 : Hid (Ch w7 (fun b => b ≠ ta ∧ b ≠ ma ∧ b ≠ tb ∧ b ≠ mb) ta ma (qa + 1) (ca + 1) n6 (cupd Ca y.1.slot (y.1.c, y.1.nodes, mv6))) := HA6.out.keep k7 (fun b hb e => by omega) (by have := HZ.out; omega) (by have := HZ.out; omega)
            have HK7 : Hid (Kp (fun b => b = ta ∨ b = ma ∨ b = tb ∨ b = mb) wt w7) := HK6.out.trans k7 (fun b hb e => by omega)
            clear hC7 k7 HE2
            go_wp2
            go_roundg (N - (i + 1))
            case rel =>
              refine ⟨i + 1, _, _, _, _, _, _, _, _, by omega, rfl, by rw [HWi.out], HK7, HA7, HB7, ⟨by have := HPl.out.1; omega, by have := HPl.out.2.1; omega, fun z => ?_, fun z => ?_⟩⟩
              · rw [pl_upd, HTy.out.2, fnd_snoc y _ z HTy.out.1, HPl.out.2.2.1]
              · rw [pl_upd, HTu.out.2, fnd_cons, HPl.out.2.2.2]
            case measure => omega
          · obtain rfl : i = N := by omega
            have HPE : Hid (∀ z, pl Ca z = pl Cb z) := fun z => by
              rw [HPl.out.2.2.1, HPl.out.2.2.2, Nat.sub_self, List.drop_zero, List.take_of_length_le (by have := HN.out; omega)]
            have hnn : nb = na := (HBi.out.fs).uniq (fst_pl HPE.out HAi.out.fs)
            subst hnn
            have HKe : Hid (Kp (fun _ => False) w wr1) := HKt.out.trans HKi.out (fun b hb e => by have := HZ.out; omega)
            have hrg := HAi.out.rng
            have hge : nb ≥ 1 := hrg.1
            have HX1 : Hid (Calls _ _ _ wr1 _) := cnext_ok HAi.out
            have HX2 : Hid (Calls _ _ _ wr1 _) := cnext_ok HBi.out
            have hb12 : ∀ z, (Ca z).isSome = true → z ≤ 12 := fun z hz => by
              have h1 : pl Ca z ≠ none := by unfold pl; intro h; cases hc : Ca z with
                | none => rw [hc] at hz; cases hz
                | some x => rw [hc] at h; cases h
              rw [HPl.out.2.2.1] at h1
              unfold fnd at h1
              cases hfd : (sl.take i).find? (fun x => x.1.slot == z) with
              | none => rw [hfd] at h1; exact absurd rfl h1
              | some x =>
                have h2 := List.find?_some hfd
                have h3 := HD.out.r x (List.mem_of_mem_take (List.mem_of_find?_eq_some hfd))
                have h4 : x.1.slot = z := by simpa using h2
                omega
            have HFa : Hid (Calls _ _ _ wr1 _) := cfrom_ok HAi.out 1 99 (by omega) 12 ⟨by omega, fun j hj => by have := hb12 _ hj; omega⟩
            have HFb : Hid (∀ u, Kp (fun _ => False) wr1 u → Calls _ _ _ u _) := fun u ku => cfrom_ok (HBi.out.keep0 ku) 1 99 (by omega) 12 ⟨by omega, fun j hj => by rw [← pl_some (HPE.out _)] at hj; have := hb12 _ hj; omega⟩
            clear hrg hb12
            go_wp2_with fail
            refine HX1.out.mono ?_
            rintro e x1 ⟨rfl, hx1⟩
            obtain rfl := hx1
            go_wp2_with fail
            refine HX2.out.mono ?_
            rintro e x2 ⟨rfl, hx2⟩
            obtain rfl := hx2
            go_wp2_with fail
            refine HX1.out.mono ?_
            rintro e x3 ⟨rfl, hx3⟩
            obtain rfl := hx3
            go_wp2_with fail
            refine HFa.out.mono ?_
            rintro e x4 ⟨v4, rfl, out4, m4, hR4, hM4, hO4⟩
            obtain ⟨q4, c4, hv4, hfl4⟩ := own_fl hR4.o
            subst hv4
            have HFl4 : Hid (Fl x4 _ q4 (cflat out4)) := hfl4
            have HR4 : Hid (∀ y ∈ out4, Ni x4 _ y.2.1 y.2.2) := hR4.n
            have HK4 : Hid (Kp (fun _ => False) x3 x4) := hR4.k
            obtain ⟨n4, hn4⟩ : ∃ n, n = out4.length := ⟨_, rfl⟩
            rw [← hn4]
            have HN4 : Hid (n4 = out4.length) := hn4
            clear hfl4 hR4 hn4
            go_wp2_with fail
            refine (HFb.out _ HK4.out).mono ?_
            rintro e x5 ⟨v5, rfl, out5, m5, hR5, hM5, hO5⟩
            obtain ⟨q5, c5, hv5, hfl5⟩ := own_fl hR5.o
            subst hv5
            have hm45 : m4 = m5 := (mny_pl HPE.out hM4).uniq hM5
            have hmap : out4.map (fun x => (x.1, x.2.1)) = out5.map (fun x => (x.1, x.2.1)) := by rw [hO4, hO5, hm45, frm_pl _ _ HPE.out]
            have hl4 : out4.length ≤ 99 := by
              have h1 := congrArg List.length hO4
              rw [List.length_map, frm_len] at h1
              have := hM4.le
              omega
            have HEq : Hid (Calls _ _ _ x5 _) := eqf_cmds _ _ q4 q5 c4 c5 out4 out5 x5 hmap (HFl4.out.keep hR5.k (fun _ _ => id)) hfl5 (fun y hy => ((HR4.out y hy).keep hR5.k (fun _ _ => id)).mono (fun b hb => ⟨hb.1, hb.2.1⟩)) (fun y hy => (hR5.n y hy).mono (fun b hb => ⟨hb.1, hb.2.1⟩)) (by show _ ≤ _; omega)
            have HK5 : Hid (Kp (fun _ => False) w x5) := (HKe.out.trans HK4.out (fun _ _ e => e)).trans hR5.k (fun _ _ e => e)
            obtain ⟨n5, hn5⟩ : ∃ n, n = out5.length := ⟨_, rfl⟩
            rw [← hn5]
            rw [← HN4.out, ← hn5] at HEq
            clear hfl5 hR5 hM4 hM5 hO4 hO5 hm45 hmap hl4 hn5
            go_wp2_with fail
            refine HEq.out.mono ?_
            rintro e x6 ⟨rfl, k6⟩
            go_wp2
            go_ret
            exact ⟨rfl, HK5.out.trans k6 (fun _ _ e => e)⟩
      · obtain ⟨s1, hs1⟩ : ∃ s1 : Int, s1 = 1 + (md 12 x.1.slot : Int) := ⟨_, rfl⟩
        have h50 := md_eq 12 x.1.slot (by omega) (by omega)
        have hl50 := md_lt 12 x.1.slot (by omega)
        have hw1 : wrap64 (1 + (md 12 x.1.slot : Int)) = s1 := by unfold wrap64; omega
        have HS1 : Hid (1 ≤ s1 ∧ s1 ≤ 12) := by show _ ∧ _; omega
        obtain ⟨ks, hks⟩ : ∃ ks : List Value, ks = vcell ⟨s1, x.1.ballot, x.1.c, x.1.nodes⟩ x.2 := ⟨_, rfl⟩
        have HKS : Hid (ks = vcell ⟨s1, x.1.ballot, x.1.c, x.1.nodes⟩ x.2) := hks
        clear hs1 hl50 hks
        go_wp2_with (first
          | (refine wpList_load_mid rfl 36 _ rfl b1 (o1 + k * 14) rfl xs d HR1.out hd1 hd2 (by rw [szVo, HXS.out.2]) ?_)
          | (refine wpList_store_all rfl 36 _ _ rfl 14 wr0.heap.size (vcell vo0 nil0) xs rfl rfl (by exact Lv.new wr0 _ _) szVo rfl HXS.out.2 HOx.out ?_; intro w4 hl4 k4; have kn4 : Kp (fun _ => False) wr0 w4 := ((Kp.refl (fun _ => False) wr0).alloc _).trans k4 (fun b hb e => by omega); have HL4 : Hid (Lv w4 wr0.heap.size xs) := hl4; have s0 : w4.cell? ⟨wr0.heap.size, 0, none⟩ = some (.int .i64 x.1.slot) := hl4.cell (j := 0) (by rw [HXS.out.1]; rfl); have f0 : w4.frozen? ⟨wr0.heap.size, 0, none⟩ = false := hl4.fz (by rw [HXS.out.2]; omega); clear hl4 k4))
        obtain ⟨g, hg⟩ : ∃ g, g = wr0.heap.size := ⟨_, rfl⟩
        rw [← hg]
        rw [← hg] at HL4
        obtain ⟨w5, hw5⟩ : ∃ x, x = w4.setCell ⟨g, 0, none⟩ (.int .i64 s1) := ⟨_, rfl⟩
        rw [← hw5]
        have HL5 : Hid (Lv w5 g ks) := by
          have := HL4.out.set1 0 (.int .i64 s1) (by rw [HXS.out.2]; omega)
          rw [← hw5, HXS.out.1] at this
          rw [HKS.out]
          exact this
        have k45 : Kp (fun b => b = g) w4 w5 := by rw [hw5]; exact (Kp.refl (fun b => b = g) w4).setCell (fun _ => rfl) _
        have K5 : Hid (Kp (fun _ => False) wr0 w5) := kn4.trans k45 (fun b hb e => by omega)
        have HG : Hid (wr0.heap.size ≤ g) := by show _ ≤ _; omega
        have HE : Hid (Calls _ _ _ w5 _) := contf_ok _ qs cs g s1 sl w5 (HFs.out.keep K5.out (fun _ _ => id)) (HL5.out.cell (j := 0) (by rw [HKS.out]; rfl)) (by show _ ≤ _; have := HN.out; omega)
        obtain ⟨an, han⟩ : ∃ an, an = sl.any (fun y => y.1.slot == s1) := ⟨_, rfl⟩
        have HAn : Hid (an = sl.any (fun y => y.1.slot == s1)) := han
        rw [← han, ← HN.out.1] at HE
        have HKl : Hid (ks.length = 14 ∧ ks.toArray.all (·.oneCell') = true) := ⟨by rw [HKS.out]; rfl, by rw [HKS.out]; exact vc_one _ (by obtain ⟨_, _, e, _⟩ := HNx.out; rw [e]; rfl)⟩
        clear hg hw5 k45 kn4 s0 f0 HL4 han
        go_wp2_with fail
        refine HE.out.mono ?_
        rintro e w6 ⟨rfl, k6⟩
        have K6 : Hid (Kp (fun _ => False) wr0 w6) := K5.out.trans k6 (fun _ _ e => e)
        have HL6 : Hid (Lv w6 g ks) := HL5.out.keep k6 id
        have HR6 : Hid (Rv w.heap.size w2 w6 (.slice qs N cs) sl) := HR.out.keep K6.out
        have HN6 : Hid (Ni w6 (· < w.heap.size) x.1.nodes x.2) := HNx.out.keep K6.out (fun _ _ => id)
        clear HE k6 HL5 K5
        cases an with
        | true =>
          go_wp2
          go_roundg (L - (k + 1))
          case rel => exact ⟨k + 1, sl, by omega, rfl, by first | rfl | rw [HWk.out], HR6, ⟨by have := HS.out; omega, by omega, HS.out.2.2⟩⟩
          case measure => omega
        | false =>
          go_wp2_with (first
            | (refine wpList_load_all rfl 36 _ rfl 14 g ks rfl HL6.out dsVo szVo HKl.out.1 ?_; rw [HKS.out])
            | (at_builtin; refine wpList_app_v HK2.out.size HR6.out (⟨s1, x.1.ballot, x.1.c, x.1.nodes⟩, x.2) HN6.out (by have := HN.out; omega) rfl _ _ rfl rfl rfl ?_; intro a2 w7 hR7; have HR7 : Hid (Rv w.heap.size w2 w7 a2 (sl ++ [(⟨s1, x.1.ballot, x.1.c, x.1.nodes⟩, x.2)])) := hR7; clear hR7))
          go_roundg (L - (k + 1))
          case rel => exact ⟨k + 1, _, by omega, rfl, by first | rfl | rw [HWk.out], HR7, ⟨by rw [List.length_append]; have := HS.out; simp only [List.length_cons, List.length_nil]; omega, by omega, HS.out.2.2.snoc _ HS1.out HAn.out.symm⟩⟩
          case measure => omega
    · have HRt : Hid (Rv w.heap.size w2 wr0 (.slice qs N cs) sl) := HR.out
      have HFt : Hid (Fl wr0 (fun b => w2.heap.size ≤ b ∧ b < wr0.heap.size) qs (vflat sl)) := HFs.out
      obtain ⟨wt, rfl⟩ : ∃ x, x = wr0 := ⟨_, rfl⟩
      clear HR HFs
      have HA0 : Hid (Ch wt (fun b => b ≠ ta ∧ b ≠ ma ∧ b ≠ tb ∧ b ≠ mb) ta ma 0 0 1 (fun _ => none)) := HCa.out.keep0 HRt.out.k
      have HB0 : Hid (Ch wt (fun b => b ≠ ta ∧ b ≠ ma ∧ b ≠ tb ∧ b ≠ mb) tb mb 0 0 1 (fun _ => none)) := HCb.out.keep0 HRt.out.k
      have HF2 : Hid (Fl wt (fun b => b ≠ ta ∧ b ≠ ma ∧ b ≠ tb ∧ b ≠ mb) qs (vflat sl)) := HFt.out.mono (fun b hb => by have := HZ.out; omega)
      have HN2 : Hid (∀ y ∈ sl, Ni wt (fun b => b ≠ ta ∧ b ≠ ma ∧ b ≠ tb ∧ b ≠ mb) y.1.nodes y.2) := fun y hy => (HRt.out.n y hy).mono (fun b hb => by have := HZ.out; omega)
      have HKt : Hid (Kp (fun _ => False) w wt) := HK2.out.trans HRt.out.k (fun _ _ e => e)
      have HD : Hid (Dst sl) := HS.out.2.2
      have HZt : Hid (ta < wt.heap.size ∧ ma < wt.heap.size ∧ tb < wt.heap.size ∧ mb < wt.heap.size) := by have h1 := HZ.out.2.1; have h2 := HRt.out.k.size; show _ ∧ _; omega
      clear HRt HFt HS
      go_wp2
      go_loopg [40] N (fun gk iv wr => ∃ (i : Nat) (qa ca qb cb : Nat) (na nb : Int) (Ca Cb : Int → Option Cv), i ≤ N ∧ gk = N - i ∧ iv = .int .i64 i ∧ Hid (Kp (fun b => b = ta ∨ b = ma ∨ b = tb ∨ b = mb) wt wr) ∧ Hid (Ch wr (fun b => b ≠ ta ∧ b ≠ ma ∧ b ≠ tb ∧ b ≠ mb) ta ma qa ca na Ca) ∧ Hid (Ch wr (fun b => b ≠ ta ∧ b ≠ ma ∧ b ≠ tb ∧ b ≠ mb) tb mb qb cb nb Cb) ∧ Hid (qa ≤ i ∧ qb ≤ i ∧ (∀ z, pl Ca z = fnd (sl.take i) z) ∧ ∀ z, pl Cb z = fnd (sl.drop (N - i)) z))
      case atStart => exact ⟨0, 0, 0, 0, 0, 1, 1, fun _ => none, fun _ => none, by omega, rfl, rfl, Kp.refl _ _, HA0, HB0, ⟨Nat.le_refl _, Nat.le_refl _, fun z => rfl, fun z => by rw [Nat.sub_zero, HN.out.1, List.drop_length]; rfl⟩⟩
      case round =>
        obtain ⟨i, qa, ca, qb, cb, na, nb, Ca, Cb, hi, rfl, rfl, HKi, HAi, HBi, HPl⟩ := hrel
        obtain ⟨wr1, rfl⟩ : ∃ x, x = wr := ⟨_, rfl⟩
        by_cases hli : (i : Int) < (N : Int)
        · have hil : i < sl.length := by have := HN.out; omega
          have hjl : N - 1 - i < sl.length := by have := HN.out; omega
          have hFi := HF2.out.keep HKi.out (fun b hb e => by omega)
          obtain ⟨b2, o2, hq2, r2⟩ := fl_v hFi hil
          obtain ⟨b3, o3, hq3, r3⟩ := fl_v hFi hjl
          subst hq2
          injection hq3 with hq3
          injection hq3 with hq31 hq32
          subst hq31 hq32
          obtain ⟨y, hy⟩ : ∃ y, y = sl[i] := ⟨_, rfl⟩
          obtain ⟨u, hu⟩ : ∃ u, u = sl[N - 1 - i] := ⟨_, rfl⟩
          have hym : y ∈ sl := by rw [hy]; exact List.getElem_mem hil
          have hum : u ∈ sl := by rw [hu]; exact List.getElem_mem hjl
          rw [← hy] at r2
          rw [← hu] at r3
          have HR2 : Hid (wr1.rangeAt b2 (o2 + i * 14) (vcell y.1 y.2)) := r2
          have HR3 : Hid (∀ v, Kp (fun _ => False) wr1 v → v.rangeAt b2 (o2 + (N - 1 - i) * 14) (vcell u.1 u.2)) := fun v kv j c hc => kv.cellv (r3 j c hc) id
          have HNy : Hid (Ni wr1 (fun b => b ≠ ta ∧ b ≠ ma ∧ b ≠ tb ∧ b ≠ mb) y.1.nodes y.2) := (HN2.out y hym).keep HKi.out (fun b hb e => by omega)
          have HNu : Hid (Ni wr1 (fun b => b ≠ ta ∧ b ≠ ma ∧ b ≠ tb ∧ b ≠ mb) u.1.nodes u.2) := (HN2.out u hum).keep HKi.out (fun b hb e => by omega)
          have HSy : Hid ((1 ≤ y.1.slot ∧ y.1.slot ≤ 12) ∧ (1 ≤ u.1.slot ∧ u.1.slot ≤ 12)) := ⟨HD.out.r y hym, HD.out.r u hum⟩
          have HTy : Hid ((∀ x' ∈ sl.take i, x'.1.slot ≠ y.1.slot) ∧ sl.take (i + 1) = sl.take i ++ [y]) := ⟨fun x' hx' => by
            obtain ⟨j, hj, rfl⟩ := List.getElem_of_mem hx'
            rw [List.length_take] at hj
            rw [List.getElem_take, hy]
            exact HD.out.apart (by omega) hil (by omega), by rw [hy, List.take_succ_eq_append_getElem hil]⟩
          have HTu : Hid ((∀ x' ∈ sl.drop (N - i), x'.1.slot ≠ u.1.slot) ∧ sl.drop (N - (i + 1)) = u :: sl.drop (N - i)) := ⟨fun x' hx' => by
            obtain ⟨j, hj, rfl⟩ := List.getElem_of_mem hx'
            rw [List.length_drop] at hj
            rw [List.getElem_drop, hu]
            exact HD.out.apart (by omega) hjl (by omega), by rw [hu, show N - (i + 1) = N - 1 - i by omega, List.drop_eq_getElem_cons hjl, show N - 1 - i + 1 = N - i by omega]⟩
          have HOy : Hid ((vcell y.1 y.2).toArray.all (·.oneCell') = true) := vc_one y.1 (by obtain ⟨_, _, e, _⟩ := HNy.out; rw [e]; rfl)
          have HOu : Hid ((vcell u.1 u.2).toArray.all (·.oneCell') = true) := vc_one u.1 (by obtain ⟨_, _, e, _⟩ := HNu.out; rw [e]; rfl)
          obtain ⟨ys, hys⟩ : ∃ ys, ys = vcell y.1 y.2 := ⟨_, rfl⟩
          obtain ⟨us, hus⟩ : ∃ us, us = vcell u.1 u.2 := ⟨_, rfl⟩
          have HYS : Hid (ys = vcell y.1 y.2 ∧ ys.length = 14) := ⟨hys, by rw [hys]; rfl⟩
          have HUS : Hid (us = vcell u.1 u.2 ∧ us.length = 14) := ⟨hus, by rw [hus]; rfl⟩
          rw [← hys] at HR2 HOy
          rw [← hus] at HR3 HOu
          obtain ⟨cy, hcy⟩ : ∃ cy, cy = (cmdA y.1.c y.2).toList := ⟨_, rfl⟩
          obtain ⟨cu, hcu⟩ : ∃ cu, cu = (cmdA u.1.c u.2).toList := ⟨_, rfl⟩
          have HCY : Hid ((cy = (cmdA y.1.c y.2).toList ∧ cy.length = 12) ∧ (cu = (cmdA u.1.c u.2).toList ∧ cu.length = 12)) := ⟨⟨hcy, by rw [hcy]; rfl⟩, ⟨hcu, by rw [hcu]; rfl⟩⟩
          obtain ⟨d2, hd21, hd22⟩ := dsVo
          obtain ⟨dC, hdC1, hdC2⟩ := dsCmd
          have hwi1 : wrap64 ((N : Int) - 1) = ((N - 1 : Nat) : Int) := by have := HN.out; unfold wrap64; omega
          have hwi2 : wrap64 (((N - 1 : Nat) : Int) - (i : Int)) = ((N - 1 - i : Nat) : Int) := by have := HN.out; unfold wrap64; omega
          have hwi3 : ((N - 1 - i : Nat) : Int) < (N : Int) := by omega
          obtain ⟨J, hJ⟩ : ∃ J, J = N - 1 - i := ⟨_, rfl⟩
          rw [← hJ] at HR3 hwi2 hwi3
          have HWi : Hid (wrap64 ((i : Int) + 1) = ((i + 1 : Nat) : Int)) := by show _ = _; have := HN.out; unfold wrap64; omega
          clear r2 r3 hFi hy hu hym hum hys hus hcy hcu hil hjl hJ
          go_wp2_with (first
            | (refine wpList_load_mid rfl 36 _ rfl b2 (o2 + i * 14) rfl ys d2 HR2.out hd21 hd22 (by rw [szVo, HYS.out.2]) ?_)
            | (refine wpList_store_all rfl 36 _ _ rfl 14 wr1.heap.size (vcell vo0 nil0) ys rfl rfl (by exact Lv.new wr1 _ _) szVo rfl HYS.out.2 HOy.out ?_; intro w4 hl4 k4; have kn4 : Kp (fun _ => False) wr1 w4 := ((Kp.refl (fun _ => False) wr1).alloc _).trans k4 (fun b hb e => by omega); have HL4 : Hid (Lv w4 wr1.heap.size ys) := hl4; have HR34 : Hid (w4.rangeAt b2 (o2 + J * 14) us) := HR3.out w4 kn4; clear hl4 k4)
            | (refine wpList_load_mid rfl 36 _ rfl b2 (o2 + J * 14) rfl us d2 HR34.out hd21 hd22 (by rw [szVo, HUS.out.2]) ?_)
            | (refine wpList_store_all rfl 36 _ _ rfl 14 w4.heap.size (vcell vo0 nil0) us rfl rfl (by exact Lv.new w4 _ _) szVo rfl HUS.out.2 HOu.out ?_; intro w5 hl5 k5; have kn5 : Kp (fun _ => False) w4 w5 := ((Kp.refl (fun _ => False) w4).alloc _).trans k5 (fun b hb e => by omega); have HL5 : Hid (Lv w5 wr1.heap.size ys ∧ Lv w5 w4.heap.size us) := ⟨HL4.out.keep kn5 id, hl5⟩; have s0 : w5.cell? ⟨wr1.heap.size, 0, none⟩ = some (.int .i64 y.1.slot) := HL5.out.1.cell (j := 0) (by rw [HYS.out.1]; rfl); have HRc : Hid (w5.rangeAt wr1.heap.size 2 cy) := (by have h1 := HL5.out.1; rw [HYS.out.1] at h1; rw [HCY.out.1.1]; exact lv_cmd h1); clear hl5 k5)
            | (refine wpList_load_mid rfl 34 _ rfl wr1.heap.size 2 rfl cy dC HRc.out hdC1 hdC2 (by rw [szCmd, HCY.out.1.2]) ?_))
          have kn15 : Kp (fun _ => False) wr1 w5 := kn4.trans kn5 (fun _ _ e => e)
          have hz14 : w4.heap.size < w5.heap.size := HL5.out.2.lt (by rw [HUS.out.2]; omega)
          have HE1 : Hid (Calls _ _ _ w5 _) := clearn_new (HAi.out.keep0 kn15) y.1.slot (by have := HSy.out; omega) y.1.c y.1.nodes y.2 _ (HNy.out.keep kn15 (fun _ _ => id)) (pl_none (by rw [HPl.out.2.2.1]; exact fnd_none HTy.out.1)) (by have := HPl.out.1; have := HN.out; omega)
          have ecy : cmdA y.1.c y.2 = cy.toArray := by rw [HCY.out.1.1]
          rw [ecy] at HE1
          obtain ⟨g1, hg1⟩ : ∃ g, g = wr1.heap.size := ⟨_, rfl⟩
          obtain ⟨g2, hg2⟩ : ∃ g, g = w4.heap.size := ⟨_, rfl⟩
          have HGs : Hid (wt.heap.size ≤ g1 ∧ wt.heap.size ≤ g2 ∧ g1 < w5.heap.size ∧ g2 < w5.heap.size) := by
            show _ ∧ _
            have := HKi.out.size
            have := kn4.size
            have := kn5.size
            omega
          rw [← hg1] at HL5 ⊢
          rw [← hg2] at HL5 ⊢
          have HB5 : Hid (Ch w5 (fun b => b ≠ ta ∧ b ≠ ma ∧ b ≠ tb ∧ b ≠ mb) tb mb qb cb nb Cb) := HBi.out.keep0 kn15
          have HNu5 : Hid (Ni w5 (fun b => b ≠ ta ∧ b ≠ ma ∧ b ≠ tb ∧ b ≠ mb) u.1.nodes u.2) := HNu.out.keep kn15 (fun _ _ => id)
          have HK5 : Hid (Kp (fun b => b = ta ∨ b = ma ∨ b = tb ∨ b = mb) wt w5) := HKi.out.trans kn15 (fun _ _ e => e.elim)
          clear hg1 hg2 s0 HRc HR34 HL4 kn4 kn5 kn15 ecy hz14 HR2 HR3 HOy HOu
          refine HE1.out.mono ?_
          rintro e w6 ⟨rfl, k6, mv6, n6, hC6⟩
          have hz6 := k6.size
          have HA6 : Hid (Ch w6 (fun b => b ≠ ta ∧ b ≠ ma ∧ b ≠ tb ∧ b ≠ mb) ta ma (qa + 1) (ca + 1) n6 (cupd Ca y.1.slot (y.1.c, y.1.nodes, mv6))) := hC6.mono (fun b hb => by
            rcases hb with hb | hb
            · exact hb
            · have h1 := HZt.out; have h2 := HK5.out.size; omega) (fun b hb => ⟨hb.1, hb.2.1⟩)
          have HB6 : Hid (Ch w6 (fun b => b ≠ ta ∧ b ≠ ma ∧ b ≠ tb ∧ b ≠ mb) tb mb qb cb nb Cb) := HB5.out.keep k6 (fun b hb e => by omega) (by have := HZ.out; omega) (by have := HZ.out; omega)
          have HL6 : Hid (w6.cell? ⟨g2, 0, none⟩ = some (.int .i64 u.1.slot) ∧ w6.rangeAt g2 2 cu) := by
            have h1 : Lv w6 g2 us := HL5.out.2.keep k6 (by have := HGs.out; have := HZt.out; omega)
            refine ⟨h1.cell (j := 0) (by rw [HUS.out.1]; rfl), ?_⟩
            rw [HUS.out.1] at h1
            rw [HCY.out.2.1]
            exact lv_cmd h1
          have HNu6 : Hid (Ni w6 (fun b => b ≠ ta ∧ b ≠ ma ∧ b ≠ tb ∧ b ≠ mb) u.1.nodes u.2) := HNu5.out.keep k6 (fun b hb e => by omega)
          have HK6 : Hid (Kp (fun b => b = ta ∨ b = ma ∨ b = tb ∨ b = mb) wt w6) := HK5.out.trans k6 (fun b hb e => by omega)
          have HE2 : Hid (Calls _ _ _ w6 _) := clearn_new HB6.out u.1.slot (by have := HSy.out; omega) u.1.c u.1.nodes u.2 _ HNu6.out (pl_none (by rw [HPl.out.2.2.2]; exact fnd_none HTu.out.1)) (by have := HPl.out.2.1; have := HN.out; omega)
          have ecu : cmdA u.1.c u.2 = cu.toArray := by rw [HCY.out.2.1]
          rw [ecu] at HE2
          have c60 := HL6.out.1
          clear HE1 hC6 k6 hz6 ecu HL5 HB5 HNu5 HK5
          go_wp2_with (refine wpList_ldw (by first | rfl | go_simp) 34 _ rfl g2 2 rfl cu dC HL6.out.2 hdC1 hdC2 (by rw [szCmd, HCY.out.2.2]) ?_)
          refine HE2.out.mono ?_
          rintro e w7 ⟨rfl, k7, mv7, n7, hC7⟩
          have HB7 : Hid (Ch w7 (fun b => b ≠ ta ∧ b ≠ ma ∧ b ≠ tb ∧ b ≠ mb) tb mb (qb + 1) (cb + 1) n7 (cupd Cb u.1.slot (u.1.c, u.1.nodes, mv7))) := hC7.mono (fun b hb => by
            rcases hb with hb | hb
            · exact hb
            · have h1 := HZt.out; have h2 := HK6.out.size; omega) (fun b hb => ⟨hb.2.2.1, hb.2.2.2⟩)
          have HA7 : Hid (Ch w7 (fun b => b ≠ ta ∧ b ≠ ma ∧ b ≠ tb ∧ b ≠ mb) ta ma (qa + 1) (ca + 1) n6 (cupd Ca y.1.slot (y.1.c, y.1.nodes, mv6))) := HA6.out.keep k7 (fun b hb e => by omega) (by have := HZ.out; omega) (by have := HZ.out; omega)
          have HK7 : Hid (Kp (fun b => b = ta ∨ b = ma ∨ b = tb ∨ b = mb) wt w7) := HK6.out.trans k7 (fun b hb e => by omega)
          clear hC7 k7 HE2
          go_wp2
          go_roundg (N - (i + 1))
          case rel =>
            refine ⟨i + 1, _, _, _, _, _, _, _, _, by omega, rfl, by rw [HWi.out], HK7, HA7, HB7, ⟨by have := HPl.out.1; omega, by have := HPl.out.2.1; omega, fun z => ?_, fun z => ?_⟩⟩
            · rw [pl_upd, HTy.out.2, fnd_snoc y _ z HTy.out.1, HPl.out.2.2.1]
            · rw [pl_upd, HTu.out.2, fnd_cons, HPl.out.2.2.2]
          case measure => omega
        · obtain rfl : i = N := by omega
          have HPE : Hid (∀ z, pl Ca z = pl Cb z) := fun z => by
            rw [HPl.out.2.2.1, HPl.out.2.2.2, Nat.sub_self, List.drop_zero, List.take_of_length_le (by have := HN.out; omega)]
          have hnn : nb = na := (HBi.out.fs).uniq (fst_pl HPE.out HAi.out.fs)
          subst hnn
          have HKe : Hid (Kp (fun _ => False) w wr1) := HKt.out.trans HKi.out (fun b hb e => by have := HZ.out; omega)
          have hrg := HAi.out.rng
          have hge : nb ≥ 1 := hrg.1
          have HX1 : Hid (Calls _ _ _ wr1 _) := cnext_ok HAi.out
          have HX2 : Hid (Calls _ _ _ wr1 _) := cnext_ok HBi.out
          have hb12 : ∀ z, (Ca z).isSome = true → z ≤ 12 := fun z hz => by
            have h1 : pl Ca z ≠ none := by unfold pl; intro h; cases hc : Ca z with
              | none => rw [hc] at hz; cases hz
              | some x => rw [hc] at h; cases h
            rw [HPl.out.2.2.1] at h1
            unfold fnd at h1
            cases hfd : (sl.take i).find? (fun x => x.1.slot == z) with
            | none => rw [hfd] at h1; exact absurd rfl h1
            | some x =>
              have h2 := List.find?_some hfd
              have h3 := HD.out.r x (List.mem_of_mem_take (List.mem_of_find?_eq_some hfd))
              have h4 : x.1.slot = z := by simpa using h2
              omega
          have HFa : Hid (Calls _ _ _ wr1 _) := cfrom_ok HAi.out 1 99 (by omega) 12 ⟨by omega, fun j hj => by have := hb12 _ hj; omega⟩
          have HFb : Hid (∀ u, Kp (fun _ => False) wr1 u → Calls _ _ _ u _) := fun u ku => cfrom_ok (HBi.out.keep0 ku) 1 99 (by omega) 12 ⟨by omega, fun j hj => by rw [← pl_some (HPE.out _)] at hj; have := hb12 _ hj; omega⟩
          clear hrg hb12
          go_wp2_with fail
          refine HX1.out.mono ?_
          rintro e x1 ⟨rfl, hx1⟩
          obtain rfl := hx1
          go_wp2_with fail
          refine HX2.out.mono ?_
          rintro e x2 ⟨rfl, hx2⟩
          obtain rfl := hx2
          go_wp2_with fail
          refine HX1.out.mono ?_
          rintro e x3 ⟨rfl, hx3⟩
          obtain rfl := hx3
          go_wp2_with fail
          refine HFa.out.mono ?_
          rintro e x4 ⟨v4, rfl, out4, m4, hR4, hM4, hO4⟩
          obtain ⟨q4, c4, hv4, hfl4⟩ := own_fl hR4.o
          subst hv4
          have HFl4 : Hid (Fl x4 _ q4 (cflat out4)) := hfl4
          have HR4 : Hid (∀ y ∈ out4, Ni x4 _ y.2.1 y.2.2) := hR4.n
          have HK4 : Hid (Kp (fun _ => False) x3 x4) := hR4.k
          obtain ⟨n4, hn4⟩ : ∃ n, n = out4.length := ⟨_, rfl⟩
          rw [← hn4]
          have HN4 : Hid (n4 = out4.length) := hn4
          clear hfl4 hR4 hn4
          go_wp2_with fail
          refine (HFb.out _ HK4.out).mono ?_
          rintro e x5 ⟨v5, rfl, out5, m5, hR5, hM5, hO5⟩
          obtain ⟨q5, c5, hv5, hfl5⟩ := own_fl hR5.o
          subst hv5
          have hm45 : m4 = m5 := (mny_pl HPE.out hM4).uniq hM5
          have hmap : out4.map (fun x => (x.1, x.2.1)) = out5.map (fun x => (x.1, x.2.1)) := by rw [hO4, hO5, hm45, frm_pl _ _ HPE.out]
          have hl4 : out4.length ≤ 99 := by
            have h1 := congrArg List.length hO4
            rw [List.length_map, frm_len] at h1
            have := hM4.le
            omega
          have HEq : Hid (Calls _ _ _ x5 _) := eqf_cmds _ _ q4 q5 c4 c5 out4 out5 x5 hmap (HFl4.out.keep hR5.k (fun _ _ => id)) hfl5 (fun y hy => ((HR4.out y hy).keep hR5.k (fun _ _ => id)).mono (fun b hb => ⟨hb.1, hb.2.1⟩)) (fun y hy => (hR5.n y hy).mono (fun b hb => ⟨hb.1, hb.2.1⟩)) (by show _ ≤ _; omega)
          have HK5 : Hid (Kp (fun _ => False) w x5) := (HKe.out.trans HK4.out (fun _ _ e => e)).trans hR5.k (fun _ _ e => e)
          obtain ⟨n5, hn5⟩ : ∃ n, n = out5.length := ⟨_, rfl⟩
          rw [← hn5]
          rw [← HN4.out, ← hn5] at HEq
          clear hfl5 hR5 hM4 hM5 hO4 hO5 hm45 hmap hl4 hn5
          go_wp2_with fail
          refine HEq.out.mono ?_
          rintro e x6 ⟨rfl, k6⟩
          go_wp2
          go_ret
          exact ⟨rfl, HK5.out.trans k6 (fun _ _ e => e)⟩
end Go.Proofs.Ytjbgpbafgpdciaa
