/- Rows of events; events that are the same. -/
import Derived.Test.YtbbgplnenbkfeaaUp
import Derived.BigRegion
namespace Go.Proofs.Ytbbgplnenbkfeaa
set_option linter.unusedVariables false
set_option linter.unusedSimpArgs false
open Go.RowKit Go.Deep Go.Maps

section
variable {P : Program} (w : World)
theorem run_app2 (base : Nat) (t tx ty e : TypeId) (i : TypeInfo) (z : Value) (size bytes : Nat) (ht : P.underlying t = some (.slice e)) (hi : P.info? e = some i) (hz : i.zero = some z)
    (hsize : i.size = size) (hby : i.bytes = bytes) (hzs : z.cells.size = size) (hsz : 0 < size)
    (v : Value) (n : Nat) (xs : List Value) (hown : w.ownsRow base e size v n xs)
    (x : Value) (m : Nat) (news : List Value) (hs : Src P size tx x m news w)
    (h63 : n + m ≤ maxLen) (hbytes : (n + m) * bytes ≤ 140737488355328) (hbase : base ≤ w.heap.size) :
    ∃ v' w', (Builtin.append_ #[t, tx] ty #[v, x]).run P w = .ok v' w' ∧ w'.ownsRow base e size v' (n + m) (xs ++ news) ∧ ((w.grownBy w' v.ownBlock ∧ v'.ownBlock = v.ownBlock) ∨ w.grownBy w' none) := by
  subst hsize
  subst hby
  have hl := hs.newsLen
  have h1 := hs.one
  have hsmall : n + m ≤ 9223372036854775807 := by simp only [maxLen] at h63; omega
  have hlen : (xs ++ news).length = (n + m) * i.size := by rw [List.length_append, hown.1, hl, Nat.add_mul]
  have grown : ∀ (old : Nat), old < n + m → ∀ (row : Option Nat),
      (w.drew.alloc (.cells ((xs ++ news).toArray ++ Builtin.zeroCells z.cells (grownCap w (n + m) old e - (n + m))) e)).ownsRow base e i.size
        (.slice (some ⟨w.heap.size, 0, none⟩) (n + m) (grownCap w (n + m) old e)) (n + m) (xs ++ news) ∧
      w.grownBy (w.drew.alloc (.cells ((xs ++ news).toArray ++ Builtin.zeroCells z.cells (grownCap w (n + m) old e - (n + m))) e)) row := by
    intro old ho row
    have hge := grownCap_ge w (n + m) old e
    have hcm : grownCap w (n + m) old e ≤ maxLen := grownCap_le_maxLen w (n + m) old e h63
    refine ⟨⟨hlen, .inr ⟨w.heap.size, _, _, rfl, hbase, heap_alloc_new w.drew _, hge, hcm, ?_, ?_⟩⟩, ⟨rfl, rfl, rfl, by simp, fun k hk _ => heap_alloc_old w.drew _ hk⟩⟩
    · simp only [Array.size_append, List.size_toArray, size_zeroCells, hzs, hlen, ← Nat.add_mul]
      congr 1
      omega
    · simp only [Array.toList_append]
      rw [← hlen]
      exact List.take_left
  rcases hown.2 with ⟨rfl, rfl⟩ | ⟨g, cap, cur, rfl, hbg, hg, hnc, hcm, hcs, htake⟩
  · have hx : xs = [] := List.eq_nil_of_length_eq_zero (by simpa using hown.1)
    subst hx
    by_cases hm : m = 0
    · subst hm
      have hn : news = [] := List.eq_nil_of_length_eq_zero (by simpa using hl)
      subst hn
      refine ⟨.slice none 0 0, w, ?_, World.ownsRow_nil w base e i.size, Or.inr ⟨rfl, rfl, rfl, Nat.le_refl _, fun _ _ _ => rfl⟩⟩
      rcases hs.kind with ⟨e', hk⟩ | hk <;> simp [Builtin.append_, run_underlying ht, run_underlying hk, sizeOf, typeInfo, hi, hs.len, hs.cells]
    · have hr := run_append_grow_src (P := P) w t tx ty e i z ht hi hz none 0 0 [] (run_firstCells_none w.drew i.size 0 0 0) x m news hs (by omega) (by omega) (growslice_fits (by omega) hbytes)
      have hgr := grown 0 (by omega) none
      exact ⟨_, _, hr, hgr.1, Or.inr hgr.2⟩
  · by_cases hroom : n + m ≤ cap
    · have hfit : n * i.size + news.length ≤ cur.size := by rw [hl, hcs, ← Nat.add_mul]; exact Nat.mul_le_mul_right _ hroom
      have hst := run_storeCells_at P g (n * i.size) e news 0 cur w hg (by simpa using hfit) h1
      simp only [Nat.add_zero] at hst
      have hr : (Builtin.append_ #[t, tx] ty #[.slice (some ⟨g, 0, none⟩) n cap, x]).run P w =
          .ok (.slice (some ⟨g, 0, none⟩) (n + m) cap) (w.setRow g (cur.toList.take (n * i.size) ++ news ++ cur.toList.drop (n * i.size + news.length)).toArray) := by
        rcases hs.kind with ⟨e', hk⟩ | hk <;> simp [Builtin.append_, run_underlying ht, run_underlying hk, sizeOf, typeInfo, hi, hs.len, hs.cells, hroom, Addr.add_lit, hst]
      refine ⟨_, _, hr, ⟨hlen, .inr ⟨g, cap, _, rfl, hbg, setRow_heap w g cur _ e _ hg, hroom, hcm, ?_, ?_⟩⟩, Or.inl ⟨⟨rfl, rfl, rfl, by simp, fun k _ hk => setRow_other w g k _ (fun e => hk (by simp [Value.ownBlock, e]))⟩, rfl⟩⟩
      · simp only [List.size_toArray, List.length_append, List.length_take, List.length_drop, Array.length_toList]
        omega
      · rw [htake, ← hlen]
        exact List.take_left
    · have holds : ∀ j u, xs[j]? = some u → w.drew.cell? ((⟨g, 0, none⟩ : Addr).add j) = some u := by simpa using hown.cells (g := g) rfl
      have hr := run_append_grow_src (P := P) w t tx ty e i z ht hi hz (some ⟨g, 0, none⟩) n cap xs (run_firstCells_some w.drew i.size n ⟨g, 0, none⟩ n cap xs hown.1 holds) x m news hs (by omega) (by omega) (growslice_fits (by omega) hbytes)
      have hgr := grown cap (by omega) none
      exact ⟨_, _, hr, hgr.1, Or.inr hgr.2⟩
end

theorem infoEv0 : (Try.prog.info? 29).map (fun i => (i.zero.map (·.cells.size), i.size, i.bytes)) = some (some 5, 5, 64) := by kernel_rfl
theorem infoEv : ∃ i z, Try.prog.info? 29 = some i ∧ i.zero = some z ∧ i.size = 5 ∧ i.bytes = 64 ∧ z.cells.size = 5 := by
  obtain ⟨i, hi, he⟩ := Option.map_eq_some_iff.1 infoEv0
  simp only [Prod.mk.injEq] at he
  obtain ⟨h1, h2, h3⟩ := he
  obtain ⟨z, hz, h4⟩ := Option.map_eq_some_iff.1 h1
  exact ⟨i, z, hi, hz, h2, h3, h4⟩
theorem Ev.ok.one {w : World} {e : Ev} (h : e.ok w) : ∀ u ∈ ecell e, u.oneCell' = true := by
  have := ec_one e h.b.one
  intro u hu
  exact (Array.all_eq_true_iff_forall_mem.1 this) u (by simpa using hu)
theorem eflat_one1 : ∀ {es : List Ev} {w : World}, (∀ e ∈ es, e.ok w) → ∀ u ∈ eflat es, u.oneCell' = true
  | [], _, _, u, hu => by cases hu
  | e :: es, w, h, u, hu => by
    rcases List.mem_append.1 (show u ∈ ecell e ++ eflat es from hu) with h1 | h1
    · exact (h e (by simp)).one u h1
    · exact eflat_one1 (fun x hx => h x (List.mem_cons_of_mem _ hx)) u h1
/-- append of events, onto a row of one's own: the same block, or nothing old has changed -/
theorem wpList_app_es {ops : Array Oper} {rest : List Oper} {o : Oper} {a : Act} {Q : Exit → Act → World → Prop} (w : World) (hgd : o.guard = none) (s y : Operand)
    (ho : o.op = .call { callee := .builtin .append, args := #[s, y], argTypes := #[22, 22] })
    (base : Nat) (v : Value) (n : Nat) (xs : List Value) (hs : a.eval s = v) (hown : w.ownsRow base 29 5 v n xs) (x : Value) (m : Nat) (news : List Value) (hx : a.eval y = x) (hsrc : Src Try.prog 5 22 x m news w)
    (hb : n + m ≤ 1000) (hbase : base ≤ w.heap.size)
    (h : ∀ v' w', w'.ownsRow base 29 5 v' (n + m) (xs ++ news) → ((w.grownBy w' v.ownBlock ∧ v'.ownBlock = v.ownBlock) ∨ w.grownBy w' none) → wpList Try.prog ops Q rest (a.put o.dst v') w') :
    wpList Try.prog ops Q (o :: rest) a w := by
  refine wpList_plain hgd fun K hK => ?_
  obtain ⟨ti, tz, hi0, hz0, hz1, hz2, hz3⟩ := infoEv
  obtain ⟨v', w', hr, h2, h3⟩ := run_app2 (P := Try.prog) w base 22 22 o.type 29 ti tz 5 64 Try.underlying22 hi0 hz0 hz1 hz2 hz3 (by decide) v n xs hown x m news hsrc (by unfold maxLen; omega) (by omega) hbase
  unfold Oper.wp execOp
  simp only [ho, resolve, invoke, builtin, Sem.run_bind, Sem.run_pure, Result.andThen_ok, List.map_toArray, List.map_cons, List.map_nil, hs, hx, hr]
  exact hK _ _ (h v' w' h2 h3)

set_option maxRecDepth 100000 in
set_option maxHeartbeats 3200000 in
theorem samee_ok (e : Ev) (w : World) (h : e.b.ok w) :
    Calls Try.prog 25 #[.agg (ecell e).toArray, .agg (ecell e).toArray] w fun r w' => r = .returned (.bool true) ∧ Kp (fun _ => False) w w' := by
  obtain ⟨xa, hxa⟩ : ∃ xa, xa = (ecell e).toArray := ⟨_, rfl⟩
  rw [← hxa]
  obtain ⟨w1, hw1⟩ : ∃ x, x = w.alloc (.cells xa 29) := ⟨_, rfl⟩
  obtain ⟨w2, hw2⟩ : ∃ x, x = w1.alloc (.cells xa 29) := ⟨_, rfl⟩
  have k1 : Kp (fun _ => False) w w1 := by rw [hw1]; exact (Kp.refl _ _).alloc _
  have k2 : Kp (fun _ => False) w1 w2 := by rw [hw2]; exact (Kp.refl _ _).alloc _
  have l1 : Lv w2 w.heap.size xa.toList := by rw [hw1] at k2; exact (show Lv (w.alloc (.cells xa 29)) w.heap.size xa.toList from Lv.new w _ _).keep k2 id
  have z1 : w1.heap.size = w.heap.size + 1 := by rw [hw1]; simp
  have l2 : Lv w2 (w.heap.size + 1) xa.toList := by rw [← z1, hw2]; exact Lv.new w1 _ _
  have a0 : w2.cell? ⟨w.heap.size, 0, none⟩ = some (.bool e.ans) := l1.cell (j := 0) (by rw [hxa]; rfl)
  have a1 : w2.cell? ⟨w.heap.size, 1, none⟩ = some (.int .i64 e.id) := l1.cell (j := 1) (by rw [hxa]; rfl)
  have a2 : w2.cell? ⟨w.heap.size, 2, none⟩ = some (.int .i64 e.kind) := l1.cell (j := 2) (by rw [hxa]; rfl)
  have a3 : w2.cell? ⟨w.heap.size, 3, none⟩ = some (.string e.key) := l1.cell (j := 3) (by rw [hxa]; rfl)
  have a4 : w2.cell? ⟨w.heap.size, 4, none⟩ = some e.b.v := l1.cell (j := 4) (by rw [hxa]; rfl)
  have b0 : w2.cell? ⟨w.heap.size + 1, 0, none⟩ = some (.bool e.ans) := l2.cell (j := 0) (by rw [hxa]; rfl)
  have b1 : w2.cell? ⟨w.heap.size + 1, 1, none⟩ = some (.int .i64 e.id) := l2.cell (j := 1) (by rw [hxa]; rfl)
  have b2 : w2.cell? ⟨w.heap.size + 1, 2, none⟩ = some (.int .i64 e.kind) := l2.cell (j := 2) (by rw [hxa]; rfl)
  have b3 : w2.cell? ⟨w.heap.size + 1, 3, none⟩ = some (.string e.key) := l2.cell (j := 3) (by rw [hxa]; rfl)
  have b4 : w2.cell? ⟨w.heap.size + 1, 4, none⟩ = some e.b.v := l2.cell (j := 4) (by rw [hxa]; rfl)
  have HK : Hid (Kp (fun _ => False) w w2) := k1.trans k2 (fun _ _ e => e)
  have HE : Hid (Calls Try.prog 26 #[e.b.v, e.b.v] w2 fun e w' => e = .returned (.bool true) ∧ w' = w2) := by
    have := bytesEq_ok e.b e.b w2 (h.keep HK.out) (h.keep HK.out)
    simp only [decide_true] at this
    exact this
  have hw : w2 = (w.alloc (.cells xa 29)).alloc (.cells xa 29) := by rw [hw2, hw1]
  subst hw
  clear hxa k1 k2 l1 l2 z1 h hw1 hw2
  go_enter Try.func25, Try.ntmps25
  go_wp2_with (go_at_call 26; refine HE.out.mono ?_; rintro e9 w9 ⟨rfl, hw9⟩; subst hw9)
  go_ret
  exact ⟨rfl, HK.out⟩

set_option maxRecDepth 100000 in
set_option maxHeartbeats 3200000 in
theorem eqf_ev (Z1 Z2 : Nat → Prop) (p1 p2 : Option Addr) (c1 c2 : Nat) (es : List Ev) (w : World) (h1 : Fl w Z1 p1 (eflat es)) (h2 : Fl w Z2 p2 (eflat es)) (hok : ∀ e ∈ es, e.ok w) (hl : es.length ≤ 900) :
    Calls Try.prog 24 #[.slice p1 es.length c1, .slice p2 es.length c2, .func (.func 25) #[] #[]] w fun e w' => e = .returned (.bool true) ∧ Kp (fun _ => False) w w' := by
  obtain ⟨L, hL⟩ : ∃ L, L = es.length := ⟨_, rfl⟩
  have HL : Hid (L = es.length ∧ L ≤ 900) := ⟨hL, by omega⟩
  rw [← hL]
  have hL9 : (L : Int) ≤ 900 := by have := HL.out; omega
  have H1 : Hid (Fl w Z1 p1 (eflat es)) := h1
  have H2 : Hid (Fl w Z2 p2 (eflat es)) := h2
  have HO : Hid (∀ e ∈ es, e.ok w) := hok
  clear h1 h2 hok hl hL
  go_enter Try.func24, Try.ntmps24
  go_wp2
  go_loopg [17] L (fun gk i wr => ∃ k : Nat, k ≤ L ∧ gk = L - k ∧ i = .int .i64 k ∧ Hid (Kp (fun _ => False) w wr))
  case atStart => exact ⟨0, Nat.zero_le _, rfl, rfl, Kp.refl _ _⟩
  case round =>
    obtain ⟨k, hk, rfl, rfl, HK⟩ := hrel
    by_cases hlt : (k : Int) < (L : Int)
    · have hk1 : k < es.length := by have := HL.out; omega
      obtain ⟨x1, o1, rfl, _, r1⟩ := fl_e (H1.out.keep HK.out (fun _ _ => id)) hk1
      obtain ⟨x2, o2, rfl, _, r2⟩ := fl_e (H2.out.keep HK.out (fun _ _ => id)) hk1
      obtain ⟨e, hx⟩ : ∃ x, x = es[k] := ⟨_, rfl⟩
      rw [← hx] at r1 r2
      have hek : e.ok w := by rw [hx]; exact HO.out _ (List.getElem_mem hk1)
      have HSv : Hid (∀ u, Kp (fun _ => False) wr u → Calls _ _ _ u _) := fun u ku => samee_ok e u ((hek.b.keep HK.out).keep ku)
      have HR1 : Hid (wr.rangeAt x1 (o1 + k * 5) (ecell e)) := r1
      have HR2 : Hid (∀ u, Kp (fun _ => False) wr u → u.rangeAt x2 (o2 + k * 5) (ecell e)) := fun u ku j v hv => ku.cellv (r2 j v hv) id
      have HO1 : Hid ((ecell e).toArray.all (·.oneCell') = true) := ec_one e hek.b.one
      have HK1 : Hid (wrap64 ((k : Int) + 1) = ((k + 1 : Nat) : Int)) := wrapK (by have := HL.out; omega)
      obtain ⟨xs, hxs⟩ : ∃ xs, xs = ecell e := ⟨_, rfl⟩
      have HXl : Hid (xs.length = 5) := by show _ = _; rw [hxs]; rfl
      rw [← hxs] at HR1 HO1 HR2 HSv
      obtain ⟨d, hd1, hd2⟩ := dsEv
      clear r1 r2 hx hxs hk1 hek
      go_wp2_with (first
        | (refine wpList_load_mid rfl 29 _ rfl x1 (o1 + k * 5) rfl xs d HR1.out hd1 hd2 (by rw [szEv, HXl.out]) ?_)
        | (refine wpList_store_all rfl 29 _ _ rfl 5 wr.heap.size (ecell ev0) xs rfl rfl (by exact Lv.new wr _ _) szEv rfl HXl.out HO1.out ?_; intro u2 hl2 k2; have ku2 : Kp (fun _ => False) wr u2 := ((Kp.refl (fun _ => False) wr).alloc _).trans k2 (fun b hb e => by omega); have HR2' : Hid (u2.rangeAt x2 (o2 + k * 5) xs) := HR2.out u2 ku2; have HL2 : Hid (Lv u2 wr.heap.size xs) := hl2; clear hl2 k2)
        | (refine wpList_load_mid rfl 29 _ rfl x2 (o2 + k * 5) rfl xs d HR2'.out hd1 hd2 (by rw [szEv, HXl.out]) ?_)
        | (refine wpList_store_all rfl 29 _ _ rfl 5 u2.heap.size (ecell ev0) xs rfl rfl (by exact Lv.new u2 _ _) szEv rfl HXl.out HO1.out ?_; intro u3 hl3 k3; have ku3 : Kp (fun _ => False) u2 u3 := ((Kp.refl (fun _ => False) u2).alloc _).trans k3 (fun b hb e => by omega); have HL3 : Hid (Lv u3 u2.heap.size xs) := hl3; have HL2' : Hid (Lv u3 wr.heap.size xs) := HL2.out.keep ku3 id; have kw3 := ku2.trans ku3 (fun _ _ e => e); clear hl3 k3)
        | (refine wpList_load_all rfl 29 _ rfl 5 wr.heap.size xs rfl HL2'.out dsEv szEv HXl.out ?_)
        | (refine wpList_load_all rfl 29 _ rfl 5 u2.heap.size xs rfl HL3.out dsEv szEv HXl.out ?_)
        | (go_at_call 25; refine (HSv.out _ kw3).mono ?_; rintro e u4 ⟨rfl, k4⟩))
      go_roundg (L - (k + 1))
      case rel => exact ⟨k + 1, by omega, rfl, by first | rw [HK1.out] | rfl | go_num, (HK.out.trans kw3 (fun _ _ e => e)).trans k4 (fun _ _ e => e)⟩
      case measure => omega
    · go_wp2
      go_ret
      exact ⟨rfl, HK.out⟩

set_option maxRecDepth 100000 in
theorem sameEvs_ok (Z1 Z2 : Nat → Prop) (p1 p2 : Option Addr) (c1 c2 : Nat) (es : List Ev) (w : World) (h1 : Fl w Z1 p1 (eflat es)) (h2 : Fl w Z2 p2 (eflat es)) (hok : ∀ e ∈ es, e.ok w) (hl : es.length ≤ 900) :
    Calls Try.prog 16 #[.slice p1 es.length c1, .slice p2 es.length c2] w fun e w' => e = .returned (.bool true) ∧ Kp (fun _ => False) w w' := by
  have H : Hid (Calls _ _ _ w _) := eqf_ev Z1 Z2 p1 p2 c1 c2 es w h1 h2 hok hl
  obtain ⟨L, hL⟩ : ∃ L, L = es.length := ⟨_, rfl⟩
  rw [← hL] at H ⊢
  clear h1 h2 hok hl hL
  go_enter Try.func16, Try.ntmps16
  go_wp2_with (go_at_call 24; refine H.out.mono ?_; rintro e u4 ⟨rfl, k4⟩)
  go_ret
  exact ⟨rfl, k4⟩
end Go.Proofs.Ytbbgplnenbkfeaa
