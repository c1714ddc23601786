/- The document's chain: a row of links; Get (out of Er). -/
import Derived.Test.YtjbgpbafgpdciaaCl
import Derived.Test.YtjbgpbafgpdciaaCg
import Derived.Test.YtjbgpbafgpdciaaQj
namespace Go.Proofs.Ytjbgpbafgpdciaa
set_option linter.unusedVariables false
set_option linter.unusedSimpArgs false
open Go.RowKit Go.Deep Go.Maps

/-- a link: a slot, and its command -/
structure Xk where
  (slot : Int) (c : Cs0) (nodes : List Int)
abbrev xkcell (o : Xk) (nv : Value) : List Value := .int .i64 o.slot :: (cmdA o.c nv).toList
def xcv (o : Xk) : Cv := (o.c, o.nodes, nil0)
def kflat : List (Xk × Value) → List Value
  | [] => []
  | x :: l => xkcell x.1 x.2 ++ kflat l
theorem kflat_append : ∀ l m : List (Xk × Value), kflat (l ++ m) = kflat l ++ kflat m
  | [], m => rfl
  | x :: l, m => by show xkcell x.1 x.2 ++ kflat (l ++ m) = _; rw [kflat_append l m, ← List.append_assoc]; rfl
theorem kflat_len : ∀ l : List (Xk × Value), (kflat l).length = l.length * 13
  | [] => rfl
  | x :: l => by show (xkcell x.1 x.2 ++ kflat l).length = _; rw [List.length_append, kflat_len l]; simp; omega
theorem kflat_nth : ∀ (l : List (Xk × Value)) (k : Nat) (h : k < l.length), ((kflat l).drop (k * 13)).take 13 = xkcell l[k].1 l[k].2
  | [], k, h => absurd h (Nat.not_lt_zero _)
  | x :: l, 0, _ => by rfl
  | x :: l, k + 1, h => by
    have := kflat_nth l k (by simpa using h)
    show ((xkcell x.1 x.2 ++ kflat l).drop ((k + 1) * 13)).take 13 = _
    rw [List.drop_append, List.drop_of_length_le (by simp; omega), List.nil_append]
    have e : (k + 1) * 13 - (xkcell x.1 x.2).length = k * 13 := by simp; omega
    rw [e, this]
    rfl
theorem szXk : (Try.prog.info? 62).map (·.size) = some 13 := by kernel_rfl
theorem dsXk : ∃ d, Try.prog.underlying 62 = some d ∧ d.isRow = true := ⟨_, Try.underlying62, rfl⟩
theorem xk_one (o : Xk) {nv : Value} (hv : nv.oneCell' = true) : (xkcell o nv).toArray.all (·.oneCell') = true := all_oneCell_toArray (fun x hx => by
  simp at hx
  rcases hx with rfl | rfl | rfl | rfl | rfl | rfl | rfl | rfl | rfl | rfl | rfl | rfl | rfl <;> first | rfl | assumption)
def xk00 : Xk := ⟨0, cs00, []⟩
/-- the links, in memory -/
structure Xg (w : World) (Z : Nat → Prop) (p : Option Addr) (l : List (Xk × Value)) : Prop where
  f : Fl w Z p (kflat l)
  n : ∀ y ∈ l, Ni w Z y.1.nodes y.2
  z : l.length * 136 ≤ 140737488355328
theorem Xg.keep {S Z : Nat → Prop} {w w' : World} {p : Option Addr} {l : List (Xk × Value)} (h : Xg w Z p l) (k : Kp S w w') (hS : ∀ b, Z b → ¬ S b) : Xg w' Z p l :=
  ⟨h.f.keep k hS, fun y hy => (h.n y hy).keep k hS, h.z⟩
theorem ni_nilX (w : World) (Z : Nat → Prop) : Ni w Z [] nil0 := ⟨none, 0, rfl, (fun j u hu => by simp at hu), by simp⟩
/-- a slot's -/
def xat (l : List Xk) (s : Int) : Option Xk := l.find? (fun o => o.slot == s)

set_option maxRecDepth 100000 in
set_option maxHeartbeats 1600000 in
theorem xcget_ok {w : World} {x : Nat} (Z : Nat → Prop) (po : Option Addr) (co L : Nat) (l : List (Xk × Value)) (hx : Lv w x [.slice po L co]) (hLl : L = l.length) (hW : Xg w Z po l) (s : Int) :
    Calls Try.prog 15 #[.pointer (some ⟨x, 0, none⟩), .int .i64 s] w fun e w' => ∃ v, e = .returned (.tuple #[v, .bool (xat (l.map (·.1)) s).isSome]) ∧ Kp (fun _ => False) w w' ∧ Told w w' (xcv ((xat (l.map (·.1)) s).getD xk00)) v := by
  have HX : Hid (Lv w x [.slice po L co]) := hx
  have HW : Hid (Xg w Z po l) := hW
  have HL : Hid (L = l.length) := hLl
  have hL9 : (L : Int) ≤ 2000000000000 := by have := hW.z; omega
  obtain ⟨r, hrr⟩ : ∃ r, r = xat (l.map (·.1)) s := ⟨_, rfl⟩
  have HRR : Hid (r = xat (l.map (·.1)) s) := hrr
  rw [← hrr]
  have k0 : Kp (fun _ => False) w (w.alloc (.cells zeroC 34)) := (Kp.refl _ _).alloc _
  have HLg : Hid (Lv (w.alloc (.cells zeroC 34)) w.heap.size zeroC.toList) := Lv.new w zeroC 34
  have c4 : (w.alloc (.cells zeroC 34)).cell? ⟨x, 0, none⟩ = some (.slice po L co) := k0.cellv (hx.cell rfl) id
  have HK0 : Hid (Kp (fun _ => False) w (w.alloc (.cells zeroC 34))) := k0
  clear hx hLl hW hrr k0
  go_enter Try.func15, Try.ntmps15
  go_wp2
  obtain ⟨u, hu⟩ : ∃ u, u = w.alloc (.cells zeroC 34) := ⟨_, rfl⟩
  rw [← hu] at c4 HLg HK0
  have e0 : w.alloc (.cells zeroC 34) = u := hu.symm
  simp only [zeroC] at e0
  rw [e0]
  clear e0 hu
  obtain ⟨g, hg⟩ : ∃ g, g = w.heap.size := ⟨_, rfl⟩
  rw [← hg] at HLg ⊢
  have HG : Hid (g = w.heap.size ∧ g < u.heap.size) := ⟨hg, HLg.out.lt (by decide)⟩
  clear hg c4
  go_loopg [13] L (fun gk iv wr => ∃ k : Nat, k ≤ L ∧ gk = L - k ∧ iv = .int .i64 k ∧ Hid (Kp (fun _ => False) u wr) ∧ Hid (∀ j, (hj : j < l.length) → j < k → l[j].1.slot ≠ s))
  case atStart => exact ⟨0, by omega, rfl, rfl, Kp.refl _ _, fun j _ hj => absurd hj (Nat.not_lt_zero _)⟩
  case round =>
    obtain ⟨k, hk, rfl, rfl, HK, HJ⟩ := hrel
    obtain ⟨wr0, rfl⟩ : ∃ x, x = wr := ⟨_, rfl⟩
    have HK1 : Hid (Kp (fun _ => False) w wr0) := HK0.out.trans HK.out (fun _ _ e => e)
    by_cases hlt : (k : Int) < (L : Int)
    · have hkl : k < l.length := by rw [← HL.out]; omega
      obtain ⟨y, hy⟩ : ∃ y, y = l[k] := ⟨_, rfl⟩
      have hym : y ∈ l := by rw [hy]; exact List.getElem_mem hkl
      obtain ⟨b, off, rfl, hzz, hcc⟩ := HW.out.f (k * 13) (.int .i64 l[k].1.slot) (by
        have h1 := kflat_nth l k hkl
        have h2 : (((kflat l).drop (k * 13)).take 13)[0]? = some (.int .i64 l[k].1.slot) := by rw [h1]; rfl
        rw [List.getElem?_take_of_lt (by omega), List.getElem?_drop] at h2
        simpa using h2)
      have hFk := HW.out.f.keep HK1.out (fun _ _ => id)
      have hr := fl_range hFk (k * 13) 13
      rw [kflat_nth l k hkl, ← hy] at hr
      have HR : Hid (wr0.rangeAt b (off + k * 13) (xkcell y.1 y.2)) := hr
      obtain ⟨q, d, en, hfn, hzn⟩ := HW.out.n y hym
      obtain ⟨n, hnn⟩ : ∃ n, n = y.1.nodes.length := ⟨_, rfl⟩
      have HNn : Hid (n = y.1.nodes.length ∧ y.1.nodes.length * 8 ≤ 140737488355328) := ⟨hnn, hzn⟩
      have HC : Hid (∀ v, Kp (fun _ => False) w v → Calls _ _ _ v _) := fun v kv => copy_cmd y.1.c Z q d y.1.nodes v (hfn.keep kv (fun _ _ => id)) hzn
      rw [← hnn] at HC en
      have HOx : Hid ((xkcell y.1 y.2).toArray.all (·.oneCell') = true) := xk_one y.1 (by rw [en]; rfl)
      obtain ⟨xs, hxs⟩ : ∃ xs, xs = xkcell y.1 y.2 := ⟨_, rfl⟩
      rw [← hxs] at HR HOx
      have HXS : Hid (xs[0]? = some (.int .i64 y.1.slot) ∧ xs.length = 13 ∧ (xs.drop 1).take 12 = (cmdA y.1.c (.slice q n d)).toList) := ⟨by rw [hxs]; rfl, by rw [hxs]; rfl, by rw [hxs, en]; rfl⟩
      obtain ⟨dv, hdv1, hdv2⟩ := dsXk
      have HY : Hid (∃ hk : k < l.length, y = l[k]) := ⟨hkl, hy⟩
      clear hxs hr hFk hym hzz hcc hy en hfn hzn hkl hnn
      by_cases he : y.1.slot = s
      · have heq : (y.1.slot == s) = true := by simpa using he
        have HRt : Hid (r = some y.1) := by
          show _ = _
          rw [HRR.out]
          obtain ⟨hk', hy⟩ := HY.out
          show (l.map (·.1)).find? (fun o => o.slot == s) = some y.1
          rw [List.find?_eq_some_iff_getElem]
          refine ⟨heq, k, by simpa using hk', by simp [hy], fun j hj => ?_⟩
          have := HJ.out j (by omega) hj
          simpa using this
        clear he HY HJ
        go_wp2_with (first
          | (refine wpList_load_mid rfl 62 _ rfl b (off + k * 13) rfl xs dv HR.out hdv1 hdv2 (by rw [szXk, HXS.out.2.1]) ?_)
          | (refine wpList_store_all rfl 62 _ _ rfl 13 wr0.heap.size (xkcell xk00 nil0) xs rfl rfl (by exact Lv.new wr0 _ _) szXk rfl HXS.out.2.1 HOx.out ?_; intro w4 hl4 k4; have kn4 : Kp (fun _ => False) wr0 w4 := ((Kp.refl (fun _ => False) wr0).alloc _).trans k4 (fun b hb e => by omega); have HK4 : Hid (Kp (fun _ => False) u w4) := HK.out.trans kn4 (fun _ _ e => e); have HL4 : Hid (Lv w4 wr0.heap.size xs) := hl4; have s0 : w4.cell? ⟨wr0.heap.size, 0, none⟩ = some (.int .i64 y.1.slot) := hl4.cell (j := 0) HXS.out.1; clear hl4 k4 kn4)
          | (refine wpList_load_lv rfl 34 _ rfl wr0.heap.size 1 12 xs _ HL4.out rfl Try.underlying34 rfl szCmd (by rw [HXS.out.2.1]; omega) ?_; rw [HXS.out.2.2])
          | (go_at_call 27; refine (HC.out w4 (HK0.out.trans HK4.out (fun _ _ e => e))).mono ?_; rintro e w5 ⟨q2, cq, rfl, k5, hfl⟩; have HFl : Hid (Fl w5 (fun b => w4.heap.size ≤ b ∧ b < w5.heap.size) q2 (y.1.nodes.map encI)) := hfl; have HK5 : Hid (Kp (fun _ => False) w4 w5) := k5; have HLg5 : Hid (Lv w5 g zeroC.toList) := (HLg.out.keep HK4.out id).keep k5 id; have HO5 : Hid ((cmdA y.1.c (.slice q2 n cq)).toList.toArray.all (·.oneCell') = true) := cmd_one y.1.c rfl; clear hfl k5)
          | (refine wpList_store_all rfl 34 _ _ rfl 12 g zeroC.toList (cmdA y.1.c (.slice q2 n cq)).toList rfl rfl HLg5.out szCmd rfl rfl HO5.out ?_; intro w6 hl6 k6))
        have hld := hl6.load dsCmd szCmd rfl
        refine bodyPost_ret (res_cell_tmp Try.results15 _ _ g _ rfl hld) rfl ?_
        have k06 : Kp (fun _ => False) w w6 := ((HK0.out.trans HK4.out (fun _ _ e => e)).trans HK5.out (fun _ _ e => e)).trans k6 (fun b hb e => by have := HG.out; omega)
        rw [HRt.out]
        refine ⟨_, rfl, k06, .slice q2 n cq, rfl, q2, cq, by rw [HNn.out.1]; rfl, ?_, HNn.out.2⟩
        have hgu := HG.out
        have hk4 := HK4.out.size
        have hk0 := HK0.out.size
        exact (HFl.out.keep k6 (fun b hb e => by omega)).mono (fun b hb => by have := k6.size; omega)
      · have heq : (y.1.slot == s) = false := by simpa using he
        have HJn : Hid (∀ j, (hj : j < l.length) → j < k + 1 → l[j].1.slot ≠ s) := fun j hj hjk => by
          by_cases e : j = k
          · subst e
            obtain ⟨hk', hy⟩ := HY.out
            rw [← hy]; exact he
          · exact HJ.out j hj (by omega)
        clear he HY HJ
        go_wp2_with (first
          | (refine wpList_load_mid rfl 62 _ rfl b (off + k * 13) rfl xs dv HR.out hdv1 hdv2 (by rw [szXk, HXS.out.2.1]) ?_)
          | (refine wpList_store_all rfl 62 _ _ rfl 13 wr0.heap.size (xkcell xk00 nil0) xs rfl rfl (by exact Lv.new wr0 _ _) szXk rfl HXS.out.2.1 HOx.out ?_; intro w4 hl4 k4; have kn4 : Kp (fun _ => False) wr0 w4 := ((Kp.refl (fun _ => False) wr0).alloc _).trans k4 (fun b hb e => by omega); have HK4 : Hid (Kp (fun _ => False) u w4) := HK.out.trans kn4 (fun _ _ e => e); have s0 : w4.cell? ⟨wr0.heap.size, 0, none⟩ = some (.int .i64 y.1.slot) := hl4.cell (j := 0) HXS.out.1; clear hl4 k4 kn4))
        go_roundg (L - (k + 1))
        case rel => exact ⟨k + 1, by omega, rfl, by go_num, HK4, HJn⟩
        case measure => omega
    · have HRf : Hid (r = none) := by
        show _ = _
        rw [HRR.out]
        show (l.map (·.1)).find? (fun o => o.slot == s) = none
        rw [List.find?_eq_none]
        intro o ho
        obtain ⟨y, hy, rfl⟩ := List.mem_map.1 ho
        obtain ⟨j, hj, e⟩ := List.getElem_of_mem hy
        have := HJ.out j hj (by have := HL.out; omega)
        rw [e] at this
        simpa using this
      have HLg2 : Hid (Lv wr0 g zeroC.toList) := HLg.out.keep HK.out id
      clear HJ
      go_wp2_with (refine wpList_store_all rfl 34 _ _ rfl 12 g zeroC.toList zeroC.toList rfl rfl HLg2.out szCmd rfl rfl (cmd_one cs00 rfl) ?_; intro w6 hl6 k6)
      have hld := hl6.load dsCmd szCmd rfl
      refine bodyPost_ret (res_cell_tmp Try.results15 _ _ g _ rfl hld) rfl ?_
      rw [HRf.out]
      exact ⟨_, rfl, HK1.out.trans k6 (fun b hb e => by have := HG.out; omega), nil0, rfl, ni_nilX _ _⟩
end Go.Proofs.Ytjbgpbafgpdciaa
