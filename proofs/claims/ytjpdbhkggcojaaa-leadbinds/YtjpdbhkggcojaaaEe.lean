/- A promise is heard; who leads. -/
import Derived.Test.YtjpdbhkggcojaaaEd
namespace Go.Proofs.Ytjpdbhkggcojaaa
set_option linter.unusedVariables false
open Go.RowKit Go.Deep Go.Maps

theorem wpList_ldw {ops : Array Oper} {rest : List Oper} {op : Oper} {a : Act} {w : World} {Q : Exit → Act → World → Prop} (hw : Region.wanted op (yielded ops a.tmps) = true) (ty : TypeId) (x : Operand) (ho : op.op = .load ty x)
    (b o : Nat) (hx : a.eval x = .pointer (some ⟨b, o, none⟩)) (cs : List Value) (d : TypeDesc) (hc : w.rangeAt b o cs)
    (hu : Try.prog.underlying ty = some d) (hd : d.isRow = true) (hi : (Try.prog.info? ty).map (·.size) = some cs.length)
    (h : wpList Try.prog ops Q rest (a.put op.dst (.agg cs.toArray)) w) : wpList Try.prog ops Q (op :: rest) a w :=
  wpList_step fun K hK => by simp only [hw, if_true]; exact wp_load_mid ty x ho b o hx cs d hc hu hd hi (hK _ _ h)
theorem Fl.here {Z : Nat → Prop} {w : World} {p : Option Addr} {cells : List Value} (h : Fl w Z p cells) : Fl w (· < w.heap.size) p cells := fun j u hu => by
  obtain ⟨b, o, e, hz, hc⟩ := h j u hu
  exact ⟨b, o, e, World.block_lt_of_cell? w _ hc, hc⟩
theorem Ni.here {Z : Nat → Prop} {w : World} {zs : List Int} {nv : Value} (h : Ni w Z zs nv) : Ni w (· < w.heap.size) zs nv := by
  obtain ⟨p, cap, e, hf, hn⟩ := h
  exact ⟨p, cap, e, hf.here, hn⟩
theorem fl_range {Z : Nat → Prop} {w : World} {b o : Nat} {cells : List Value} (h : Fl w Z (some ⟨b, o, none⟩) cells) (i n : Nat) : w.rangeAt b (o + i) ((cells.drop i).take n) := fun j v hv => by
  have hj : j < n := by
    have := (List.getElem?_eq_some_iff.1 hv).1
    rw [List.length_take] at this
    omega
  rw [List.getElem?_take_of_lt hj, List.getElem?_drop] at hv
  obtain ⟨b', o', e, _, hc⟩ := h (i + j) v hv
  cases e
  rwa [Nat.add_assoc]
theorem vflat_nth : ∀ (l : List (Vo × Value)) (k : Nat) (h : k < l.length), ((vflat l).drop (k * 14)).take 14 = vcell l[k].1 l[k].2
  | [], k, h => absurd h (Nat.not_lt_zero _)
  | x :: l, 0, _ => by rfl
  | x :: l, k + 1, h => by
    have := vflat_nth l k (by simpa using h)
    show ((vcell x.1 x.2 ++ vflat l).drop ((k + 1) * 14)).take 14 = _
    rw [List.drop_append, List.drop_of_length_le (by simp; omega), List.nil_append]
    have e : (k + 1) * 14 - (vcell x.1 x.2).length = k * 14 := by simp; omega
    rw [e, this]
    rfl

section
variable {bal frm nxt : Int} {pr : List Bool} {mb mp : Nat}
theorem tc_nodes (hp : pr.length = 16) : ((tcells bal frm nxt pr mb mp).drop 3).take 16 = bools pr := by
  show (bools pr ++ [Value.map (some mb), Value.map (some mp)]).take 16 = _
  rw [List.take_append_of_le_length (by simp [hp]), List.take_of_length_le (by simp [hp])]
theorem tc_set (hp : pr.length = 16) (k : Nat) (hk : k < 16) : (tcells bal frm nxt pr mb mp).take (3 + k) ++ [.bool true] ++ (tcells bal frm nxt pr mb mp).drop (3 + k + 1) = tcells bal frm nxt (pr.set k true) mb mp := by
  have hl : 3 + k < (tcells bal frm nxt pr mb mp).length := by simp [hp]; omega
  have hset := List.set_eq_take_append_cons_drop (l := tcells bal frm nxt pr mb mp) (i := 3 + k) (a := Value.bool true)
  rw [if_pos hl] at hset
  rw [List.append_assoc, List.singleton_append, ← hset]
  rw [show 3 + k = k + 1 + 1 + 1 by omega]
  show Value.int .i64 bal :: Value.int .i64 frm :: Value.int .i64 nxt :: ((bools pr ++ [Value.map (some mb), Value.map (some mp)]).set k (.bool true)) = _
  rw [List.set_append_left _ _ (by simp [hp]; exact hk)]
  show _ = Value.int .i64 bal :: Value.int .i64 frm :: Value.int .i64 nxt :: (bools (pr.set k true) ++ _)
  rw [show bools (pr.set k true) = (bools pr).set k (.bool true) from List.map_set]
theorem tc_at (hp : pr.length = 16) (k : Nat) (hk : k < 16) : (tcells bal frm nxt pr mb mp)[3 + k]? = some (.bool (hasN pr k)) := by
  rw [show 3 + k = k + 1 + 1 + 1 by omega]
  show (bools pr ++ [Value.map (some mb), Value.map (some mp)])[k]? = _
  rw [List.getElem?_append_left (by simp [hp]; exact hk), List.getElem?_map, List.getElem?_eq_getElem (by omega)]
  unfold hasN
  rw [decide_eq_true (by omega), Int.toNat_natCast, List.getD_eq_getElem?_getD, List.getElem?_eq_getElem (by omega)]
  rfl
end

set_option maxRecDepth 100000 in
set_option maxHeartbeats 1600000 in
theorem tleads_ok {w : World} {t mb mp qb qp cb cp : Nat} {bal frm nxt : Int} {pr : List Bool} {B : Int → Option (Vo × Value)} {O : Int → Option (Pq × Value)} (h : Tr w t mb mp qb qp cb cp bal frm nxt pr B O) (p : Option Addr) (cap : Nat) (zs : List Int) (hI : Fl w (· < w.heap.size) p (zs.map encI)) (hreach : zs.length * 8 ≤ 140737488355328) :
    Calls Try.prog 22 #[.pointer (some ⟨t, 0, none⟩), .slice p zs.length cap] w fun e w' => e = .returned (.bool (maj pr zs)) ∧ Kp (fun _ => False) w w' := by
  have H1 : Hid (Calls _ _ _ w _) := tmade_ok h
  have H2 : Hid (Calls _ _ _ w _) := majority_ok pr h.len p cap zs w hI hreach
  have hr : w.rangeAt t 3 (bools pr) := fun j v hv => by
    have hj : j < 16 := by have := (List.getElem?_eq_some_iff.1 hv).1; simpa [h.len] using this
    have := h.lv.cell (tc_at h.len j hj)
    rw [this]
    rw [List.getElem?_map, List.getElem?_eq_getElem (by rw [h.len]; exact hj)] at hv
    injection hv with hv
    rw [← hv]
    unfold hasN
    rw [decide_eq_true (by omega), Int.toNat_natCast, List.getD_eq_getElem?_getD, List.getElem?_eq_getElem (by rw [h.len]; exact hj)]
    rfl
  have HR : Hid (w.rangeAt t 3 (bools pr)) := hr
  have HB : Hid ((bools pr).length = 16) := by show _ = _; simp [h.len]
  obtain ⟨d, hd1, hd2⟩ := dsNd
  obtain ⟨L, hL⟩ : ∃ L, L = zs.length := ⟨_, rfl⟩
  rw [← hL] at H2 ⊢
  clear h hr hI hreach hL
  go_enter Try.func22, Try.ntmps22
  go_wp2_with (first
    | (go_at_call 33; refine H1.out.mono ?_; rintro e w' ⟨rfl, hw'⟩; obtain rfl := hw'.symm; clear hw')
    | (refine wpList_ldw (by first | rfl | go_simp) 61 _ rfl t 3 rfl (bools pr) d HR.out hd1 hd2 (by rw [szNd, HB.out]) ?_)
    | (go_at_call 41; refine H2.out.mono ?_; rintro e w2 ⟨rfl, k2⟩))
  go_ret
  exact ⟨rfl, k2⟩

/-- the votes that count, one behind the other: what binds; the next slot -/
def cnts (frm : Int) : (Int → Option Vo) → Int → List Vo → (Int → Option Vo) × Int
  | b, n, [] => (b, n)
  | b, n, v :: l => if frm ≤ v.slot then cnts frm (cntV b v) (cntN b n v) l else cnts frm b n l
theorem cnts_snoc (frm : Int) : ∀ (l : List Vo) (b : Int → Option Vo) (n : Int) (v : Vo), cnts frm b n (l ++ [v]) = if frm ≤ v.slot then (cntV (cnts frm b n l).1 v, cntN (cnts frm b n l).1 (cnts frm b n l).2 v) else cnts frm b n l
  | [], b, n, v => by simp only [List.nil_append, cnts]
  | x :: l, b, n, v => by
    simp only [List.cons_append, cnts]
    by_cases hx : frm ≤ x.slot
    · rw [if_pos hx, if_pos hx]; exact cnts_snoc frm l _ _ v
    · rw [if_neg hx, if_neg hx]; exact cnts_snoc frm l _ _ v
/-- behind a promise that counted -/
def Pn1 (w' : World) (t mb mp qb qp cp : Nat) (bal frm nxt : Int) (pr : List Bool) (B : Int → Option (Vo × Value)) (O : Int → Option (Pq × Value)) (l : List Vo) : Prop :=
  ∃ nxt' B' qb' cb', Tr w' t mb mp qb' qp cb' cp bal frm nxt' pr B' O ∧ qb' ≤ qb + l.length ∧ (plainB B', nxt') = cnts frm (plainB B) nxt l

set_option maxRecDepth 100000 in
set_option maxHeartbeats 1600000 in
theorem tpromise_arg {w : World} {t mb mp qb qp cb cp : Nat} {bal frm nxt : Int} {pr : List Bool} {B : Int → Option (Vo × Value)} {O : Int → Option (Pq × Value)} (h : Tr w t mb mp qb qp cb cp bal frm nxt pr B O) (n : Int) (hn : ¬ (0 ≤ n ∧ n < 16)) (p : Option Addr) (L cap : Nat) :
    Calls Try.prog 11 #[.pointer (some ⟨t, 0, none⟩), .int .i64 n, .slice p L cap] w fun e w' => e = .returned (.int .i64 1) ∧ w' = w := by
  have H1 : Hid (Calls _ _ _ w _) := tmade_ok h
  have H2 : Hid (Calls _ _ _ w _) := isNode_ok n w
  have e0 : (decide (0 ≤ n) && decide (n < 16)) = false := by
    by_cases h0 : 0 ≤ n
    · rw [decide_eq_false (p := n < 16) (by omega), Bool.and_false]
    · rw [decide_eq_false h0]; rfl
  rw [e0] at H2
  clear h e0 hn
  go_enter Try.func11, Try.ntmps11
  go_wp2_with (first
    | (go_at_call 33; refine H1.out.mono ?_; rintro e w' ⟨rfl, hw'⟩; obtain rfl := hw'.symm; clear hw')
    | (go_at_call 34; refine H2.out.mono ?_; rintro e w' ⟨rfl, hw'⟩; obtain rfl := hw'.symm; clear hw'))
  go_ret
  exact ⟨rfl, rfl⟩

set_option maxRecDepth 100000 in
set_option maxHeartbeats 1600000 in
theorem tpromise_old {w : World} {t mb mp qb qp cb cp : Nat} {bal frm nxt : Int} {pr : List Bool} {B : Int → Option (Vo × Value)} {O : Int → Option (Pq × Value)} (h : Tr w t mb mp qb qp cb cp bal frm nxt pr B O) (n : Int) (hn : 0 ≤ n ∧ n < 16) (hh : hasN pr n = true) (p : Option Addr) (L cap : Nat) :
    Calls Try.prog 11 #[.pointer (some ⟨t, 0, none⟩), .int .i64 n, .slice p L cap] w fun e w' => e = .returned (.int .i64 0) ∧ Kp (fun _ => False) w w' := by
  have H1 : Hid (Calls _ _ _ w _) := tmade_ok h
  have H2 : Hid (Calls _ _ _ w _) := isNode_ok n w
  have H3 : Hid (Calls _ _ _ w _) := nhas_ok pr h.len n w
  have HLv : Hid (Lv w t (tcells bal frm nxt pr mb mp)) := h.lv
  have HL21 : Hid ((tcells bal frm nxt pr mb mp).length = 21) := h.len21
  have HTN : Hid ((((tcells bal frm nxt pr mb mp).drop 3).take 16).toArray = (bools pr).toArray) := by show _ = _; rw [tc_nodes h.len]
  rw [decide_eq_true hn.1, decide_eq_true hn.2] at H2
  rw [hh] at H3
  obtain ⟨bl, hbl⟩ : ∃ bl, bl = (bools pr).toArray := ⟨_, rfl⟩
  rw [← hbl] at H3 HTN
  obtain ⟨cs, hcs⟩ : ∃ cs, cs = tcells bal frm nxt pr mb mp := ⟨_, rfl⟩
  rw [← hcs] at HTN HLv HL21
  clear h hn hh hbl hcs
  go_enter Try.func11, Try.ntmps11
  go_wp2_with (first
    | (go_at_call 33; refine H1.out.mono ?_; rintro e w' ⟨rfl, hw'⟩; obtain rfl := hw'.symm; clear hw')
    | (go_at_call 34; refine H2.out.mono ?_; rintro e w' ⟨rfl, hw'⟩; obtain rfl := hw'.symm; clear hw')
    | (refine wpList_load_lv rfl 61 _ rfl t 3 16 cs _ HLv.out rfl Try.underlying61 rfl szNd (by rw [HL21.out]; omega) ?_; rw [HTN.out])
    | (go_at_call 35; refine H3.out.mono ?_; rintro e w2 ⟨rfl, k2⟩))
  go_ret
  exact ⟨rfl, k2⟩

set_option maxRecDepth 100000 in
set_option maxHeartbeats 4000000 in
theorem tpromise_new {w : World} {t mb mp qb qp cb cp : Nat} {bal frm nxt : Int} {pr : List Bool} {B : Int → Option (Vo × Value)} {O : Int → Option (Pq × Value)} (h : Tr w t mb mp qb qp cb cp bal frm nxt pr B O) (n : Nat) (hn : n < 16) (hh : hasN pr n = false) (p : Option Addr) (cap : Nat) (l : List (Vo × Value)) (Z : Nat → Prop) (hZ : ∀ b, Z b → b ≠ t ∧ b ≠ mb)
    (hF : Fl w Z p (vflat l)) (hV : Vn w Z l) (hL : l.length * 136 ≤ 140737488355328) (hS : ∀ x ∈ l, -9223372036854775808 ≤ x.1.slot ∧ x.1.slot ≤ 9223372036854775807) (hq : qb + l.length < 4611686018427387904) :
    Calls Try.prog 11 #[.pointer (some ⟨t, 0, none⟩), .int .i64 (n : Int), .slice p l.length cap] w fun e w' => e = .returned (.int .i64 0) ∧ Kp (fun b => b = t ∨ b = mb) w w' ∧ Pn1 w' t mb mp qb qp cp bal frm nxt (pr.set n true) B O (l.map (·.1)) := by
  have H1 : Hid (Calls _ _ _ w _) := tmade_ok h
  have H2 : Hid (Calls _ _ _ w _) := isNode_ok n w
  have H3 : Hid (Calls _ _ _ w _) := nhas_ok pr h.len n w
  have HT : Hid (Tr w t mb mp qb qp cb cp bal frm nxt pr B O) := h
  have HLv : Hid (Lv w t (tcells bal frm nxt pr mb mp)) := h.lv
  have HL21 : Hid ((tcells bal frm nxt pr mb mp).length = 21) := h.len21
  have HTN : Hid ((((tcells bal frm nxt pr mb mp).drop 3).take 16).toArray = (bools pr).toArray) := by show _ = _; rw [tc_nodes h.len]
  rw [decide_eq_true (show (0 : Int) ≤ n by omega), decide_eq_true (show (n : Int) < 16 by omega)] at H2
  rw [hh] at H3
  obtain ⟨bl, hbl⟩ : ∃ bl, bl = (bools pr).toArray := ⟨_, rfl⟩
  rw [← hbl] at H3 HTN
  obtain ⟨cs, hcs⟩ : ∃ cs, cs = tcells bal frm nxt pr mb mp := ⟨_, rfl⟩
  have HSt : Hid (∀ u, Lv u t cs → Lv (u.setCell ⟨t, 3 + n, none⟩ (.bool true)) t (tcells bal frm nxt (pr.set n true) mb mp)) := fun u hu => by
    rw [hcs] at hu
    have := hu.set1 (3 + n) (.bool true) (by rw [h.len21]; omega)
    rwa [tc_set h.len n hn] at this
  have HCt : Hid (∀ u, Lv u t cs → u.cell? ⟨t, 3 + n, none⟩ = some (.bool false) ∧ u.frozen? ⟨t, 3 + n, none⟩ = false) := fun u hu => by
    rw [hcs] at hu
    exact ⟨by rw [hu.cell (tc_at h.len n hn), hh], hu.fz (by rw [h.len21]; omega)⟩
  rw [← hcs] at HTN HLv HL21
  have HZ : Hid (∀ b, Z b → b ≠ t ∧ b ≠ mb) := hZ
  have HF : Hid (Fl w Z p (vflat l)) := hF
  have HV : Hid (Vn w Z l) := hV
  have HS : Hid (∀ x ∈ l, -9223372036854775808 ≤ x.1.slot ∧ x.1.slot ≤ 9223372036854775807) := hS
  have HQ : Hid (qb + l.length < 4611686018427387904) := hq
  have hn16 : (n : Int) < 16 := by omega
  have hLL : (l.length : Int) ≤ 1034834473200 := by omega
  obtain ⟨N, hN⟩ : ∃ N, N = l.length := ⟨_, rfl⟩
  have HN : Hid (N = l.length) := hN
  rw [← hN] at hLL ⊢
  clear h hn hh hbl hcs hZ hF hV hL hS hq hN
  go_enter Try.func11, Try.ntmps11
  go_wp2_with (first
    | (go_at_call 33; refine H1.out.mono ?_; rintro e w' ⟨rfl, hw'⟩; obtain rfl := hw'.symm; clear hw')
    | (go_at_call 34; refine H2.out.mono ?_; rintro e w' ⟨rfl, hw'⟩; obtain rfl := hw'.symm; clear hw')
    | (refine wpList_load_lv rfl 61 _ rfl t 3 16 cs _ HLv.out rfl Try.underlying61 rfl szNd (by rw [HL21.out]; omega) ?_; rw [HTN.out])
    | (go_at_call 35; refine H3.out.mono ?_; rintro e w2 ⟨rfl, k2⟩; have HL2 : Hid (Lv w2 t cs) := HLv.out.keep k2 id; have cn := (HCt.out w2 HL2.out).1; have fn := (HCt.out w2 HL2.out).2))
  obtain ⟨w3, hw3⟩ : ∃ x, x = w2.setCell ⟨t, 3 + n, none⟩ (.bool true) := ⟨_, rfl⟩
  rw [← hw3]
  have ks3 : Kp (fun b => b = t) w2 w3 := by rw [hw3]; exact (Kp.refl (fun b => b = t) w2).setCell (fun _ => rfl) _
  have HT3 : Hid (Tr w3 t mb mp qb qp cb cp bal frm nxt (pr.set n true) B O) := (HT.out.keep k2).own ks3 (by rw [hw3]; exact HSt.out w2 HL2.out) (by rw [List.length_set]; exact HT.out.len)
  have HK3 : Hid (Kp (fun b => b = t ∨ b = mb) w w3) := (k2.mono (fun _ _ e => e.elim)).trans ks3 (fun _ _ e => Or.inl e)
  obtain ⟨pr', hpr'⟩ : ∃ x, x = pr.set n true := ⟨_, rfl⟩
  rw [← hpr'] at HT3
  have HPr : Hid (pr' = pr.set n true) := hpr'
  clear hw3 ks3 cn fn hpr' HSt HCt HLv HL2 k2 H1 H2 H3 HTN HL21
  go_loopg [28] N (fun gk iv wr => ∃ k : Nat, k ≤ N ∧ gk = N - k ∧ iv = .int .i64 k ∧ Hid (Kp (fun b => b = t ∨ b = mb) w wr) ∧ Hid (∃ nxt' B' qb' cb', Tr wr t mb mp qb' qp cb' cp bal frm nxt' pr' B' O ∧ qb' ≤ qb + k ∧ (plainB B', nxt') = cnts frm (plainB B) nxt ((l.take k).map (·.1))))
  case atStart => exact ⟨0, by omega, rfl, rfl, HK3, ⟨nxt, B, qb, cb, HT3.out, by omega, rfl⟩⟩
  case round =>
    obtain ⟨k, hk, rfl, rfl, HKr, HTr⟩ := hrel
    obtain ⟨wr0, rfl⟩ : ∃ x, x = wr := ⟨_, rfl⟩
    by_cases hlt : (k : Int) < (N : Int)
    · obtain ⟨nx, Bk, qk, ck, hTk, hqk, hck⟩ := HTr.out
      have hkl : k < l.length := by rw [← HN.out]; omega
      obtain ⟨x, hx⟩ : ∃ x, x = l[k] := ⟨_, rfl⟩
      have hxm : x ∈ l := by rw [hx]; exact List.getElem_mem hkl
      obtain ⟨b, off, rfl, hzz, hcc⟩ := HF.out (k * 14) (.int .i64 l[k].1.slot) (by
        have h1 := vflat_nth l k hkl
        have h2 : (((vflat l).drop (k * 14)).take 14)[0]? = some (.int .i64 l[k].1.slot) := by rw [h1]; rfl
        rw [List.getElem?_take_of_lt (by omega), List.getElem?_drop] at h2
        simpa using h2)
      have hFk := HF.out.keep HKr.out (fun b hb e => by have := HZ.out b hb; omega)
      have hr := fl_range hFk (k * 14) 14
      rw [vflat_nth l k hkl, ← hx] at hr
      have HR : Hid (wr0.rangeAt b (off + k * 14) (vcell x.1 x.2)) := hr
      have HNi : Hid (Ni wr0 Z x.1.nodes x.2) := (HV.out.keep HKr.out (fun b hb e => by have := HZ.out b hb; omega)) x hxm
      have HSx : Hid (-9223372036854775808 ≤ x.1.slot ∧ x.1.slot ≤ 9223372036854775807) := HS.out x hxm
      have HOx : Hid ((vcell x.1 x.2).toArray.all (·.oneCell') = true) := vc_one x.1 (by obtain ⟨_, _, e, _⟩ := HNi.out; rw [e]; rfl)
      have HTx : Hid ((l.take (k + 1)).map (·.1) = (l.take k).map (·.1) ++ [x.1]) := by
        show _ = _
        rw [List.take_add_one, List.getElem?_eq_getElem hkl, ← hx, Option.toList_some, List.map_append]
        rfl
      have HTk : Hid (Tr wr0 t mb mp qk qp ck cp bal frm nx pr' Bk O) := hTk
      have HQk : Hid (qk ≤ qb + k ∧ qk < 4611686018427387904) := ⟨hqk, by have := HQ.out; omega⟩
      have HCk : Hid ((plainB Bk, nx) = cnts frm (plainB B) nxt ((l.take k).map (·.1))) := hck
      obtain ⟨xs, hxs⟩ : ∃ xs, xs = vcell x.1 x.2 := ⟨_, rfl⟩
      rw [← hxs] at HR HOx
      have HXS : Hid (xs = vcell x.1 x.2 ∧ xs.length = 14) := ⟨hxs, by rw [hxs]; rfl⟩
      obtain ⟨dv, hdv1, hdv2⟩ := dsVo
      clear hxs hTk hqk hck hr hFk hxm hzz hcc hx hkl
      go_wp2_with (first
        | (refine wpList_load_mid rfl 55 _ rfl b (off + k * 14) rfl xs dv HR.out hdv1 hdv2 (by rw [szVo, HXS.out.2]) ?_)
        | (refine wpList_store_all rfl 55 _ _ rfl 14 wr0.heap.size (vcell vo0 nil0) xs rfl rfl (by exact Lv.new wr0 _ _) szVo rfl HXS.out.2 HOx.out ?_; intro w4 hl4 k4))
      have kn4 : Kp (fun _ => False) wr0 w4 := ((Kp.refl (fun _ => False) wr0).alloc _).trans k4 (fun b hb e => by omega)
      have HL4 : Hid (Lv w4 wr0.heap.size xs) := hl4
      have HT4 : Hid (Tr w4 t mb mp qk qp ck cp bal frm nx pr' Bk O) := HTk.out.keep kn4
      have HK4 : Hid (Kp (fun b => b = t ∨ b = mb) w w4) := HKr.out.trans kn4 (fun _ _ e => e.elim)
      have HN4 : Hid (Ni w4 Z x.1.nodes x.2) := HNi.out.keep kn4 (fun _ _ => id)
      have c1 := HT4.out.c1
      have s0 : w4.cell? ⟨wr0.heap.size, 0, none⟩ = some (.int .i64 x.1.slot) := HL4.out.cell (j := 0) (by rw [HXS.out.1]; rfl)
      obtain ⟨g, hg⟩ : ∃ g, g = wr0.heap.size := ⟨_, rfl⟩
      rw [← hg] at HL4 s0 ⊢
      clear hg hl4 k4 kn4 HR HNi HTk HKr
      refine wp_region_still_lit (by kernel_rfl) (by kernel_rfl) ?_
      obtain ⟨wd, hwd⟩ : ∃ y : World, y = { w4 with drawn := w4.drawn + 1 } := ⟨_, rfl⟩
      have kd : Kp (fun _ => False) w4 wd := by rw [hwd]; exact (Kp.refl _ _).drew
      rw [← hwd]
      have c1d := kd.cellv c1 id
      have s0d := kd.cellv s0 id
      have HL5 : Hid (Lv wd g xs) := HL4.out.keep kd id
      have HT5 : Hid (Tr wd t mb mp qk qp ck cp bal frm nx pr' Bk O) := HT4.out.keep kd
      have HK5 : Hid (Kp (fun b => b = t ∨ b = mb) w wd) := HK4.out.trans kd (fun _ _ e => e.elim)
      have HN5 : Hid (Ni wd Z x.1.nodes x.2) := HN4.out.keep kd (fun _ _ => id)
      clear hwd kd c1 s0 HL4 HT4 HK4 HN4
      repeat still_step
      refine wpStill_nil ?_
      by_cases hfr : frm ≤ x.1.slot
      · have HC : Hid (Calls _ _ _ wd _) := tcount_ok HT5.out x.1 x.2 HN5.out.here HSx.out HQk.out.2
        rw [← HXS.out.1] at HC
        go_wp2_with (first
          | (refine wpList_load_all rfl 55 _ rfl 14 g xs rfl HL5.out dsVo szVo HXS.out.2 ?_)
          | (go_at_call 36; refine HC.out.mono ?_; rintro e w6 ⟨rfl, k6, hcn⟩))
        go_roundg (N - (k + 1))
        case rel =>
          obtain ⟨nx', B', qb', cb', hT', hq', hB', hnx'⟩ := hcn
          refine ⟨k + 1, by omega, rfl, by go_num, HK5.out.trans k6 (fun _ _ e => e), ⟨nx', B', qb', cb', hT', by have := HQk.out.1; omega, ?_⟩⟩
          rw [HTx.out, cnts_snoc, if_pos hfr, ← HCk.out, hB', hnx']
        case measure => omega
      · go_wp2
        go_roundg (N - (k + 1))
        case rel =>
          refine ⟨k + 1, by omega, rfl, by go_num, HK5, ⟨nx, Bk, qk, ck, HT5.out, by have := HQk.out.1; omega, ?_⟩⟩
          rw [HTx.out, cnts_snoc, if_neg (by omega), ← HCk.out]
        case measure => omega
    · obtain rfl : k = N := by omega
      go_wp2
      go_ret
      obtain ⟨nx, Bk, qk, ck, hTk, hqk, hck⟩ := HTr.out
      rw [List.take_of_length_le (by have := HN.out; omega)] at hck
      exact ⟨rfl, HKr.out, nx, Bk, qk, ck, by rw [← HPr.out]; exact hTk, by rw [List.length_map, ← HN.out]; exact hqk, hck⟩
end Go.Proofs.Ytjpdbhkggcojaaa
