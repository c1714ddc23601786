/- Texts of this proof, joined: Qs, Ac. -/
import Derived.Test.YtblaabjjcanifaaGreatDoorMgAA
import Derived.Deep.WholeRow
import Derived.Deep.MidRow
import Derived.Test.YtblaabjjcanifaaGreatDoorMgAB
import Derived.BigRegion
/- Structs in blocks of their own: the variables of a function. -/
namespace Go.Proofs.YtblaabjjcanifaaGreatDoor
set_option linter.unusedVariables false
open Go.RowKit Go.Deep

/-- block g holds the cells cs, from its beginning on, and they may be written -/
structure Lv (u : World) (g : Nat) (cs : List Value) : Prop where
  r : u.rangeAt g 0 cs
  t : u.there g 0 cs.length
theorem Lv.cell {u : World} {g : Nat} {cs : List Value} (h : Lv u g cs) {j : Nat} {v : Value} (hv : cs[j]? = some v) : u.cell? ⟨g, j, none⟩ = some v := by
  have := h.r j v hv
  rwa [Nat.zero_add] at this
theorem Lv.new (w : World) (cs : Array Value) (t : TypeId) : Lv (w.alloc (.cells cs t)) w.heap.size cs.toList := by
  have hh := heap_alloc_new w (.cells cs t)
  refine ⟨fun j v hv => ?_, fun j hj => ⟨?_, ?_⟩⟩
  · rw [Nat.zero_add, cell_of_row _ _ j cs _ (0, 0) hh]
    simpa using hv
  · rw [Nat.zero_add, cell_of_row _ _ j cs _ (0, 0) hh]
    simp at hj
    simp [hj]
  · exact frozen_of_row _ _ _ cs _ hh
theorem Lv.keep {S : Nat → Prop} {u u' : World} {g : Nat} {cs : List Value} (h : Lv u g cs) (k : Kp S u u') (hS : ¬ S g) : Lv u' g cs := by
  refine ⟨fun j v hv => k.cellv (h.r j v hv) hS, fun j hj => ?_⟩
  obtain ⟨h1, h2⟩ := h.t j hj
  obtain ⟨v, hv⟩ := Option.isSome_iff_exists.1 h1
  have hlt := World.block_lt_of_cell? _ _ hv
  exact ⟨by rw [k.cellv hv hS]; rfl, by rw [World.frozen?_of_block (w := u) (k.block g hlt hS)]; exact h2⟩
theorem Lv.lt {u : World} {g : Nat} {cs : List Value} (h : Lv u g cs) (h0 : 0 < cs.length) : g < u.heap.size := by
  obtain ⟨h1, _⟩ := h.t 0 h0
  obtain ⟨v, hv⟩ := Option.isSome_iff_exists.1 h1
  exact World.block_lt_of_cell? _ _ hv
theorem kp_setCells (g : Nat) : ∀ (vs : List Value) (o : Nat) (w : World), Kp (fun b => b = g) w (w.setCells g o vs)
  | [], _, w => Kp.refl _ _
  | v :: vs, o, w => by
    show Kp _ w ((w.setCell ⟨g, o, none⟩ v).setCells g (o + 1) vs)
    exact ((Kp.refl (fun b => b = g) w).setCell (fun _ => rfl) v).trans (kp_setCells g vs (o + 1) _) (fun _ _ e => e)
theorem Lv.set {w : World} {g : Nat} {cs : List Value} (h : Lv w g cs) (o : Nat) (vs : List Value) (hle : o + vs.length ≤ cs.length) : Lv (w.setCells g o vs) g (cs.take o ++ vs ++ cs.drop (o + vs.length)) := by
  have hlen : (cs.take o ++ vs ++ cs.drop (o + vs.length)).length = cs.length := by
    simp only [List.length_append, List.length_take, List.length_drop]; omega
  have ho : w.there g o vs.length := fun j hj => by have := h.t (o + j) (by omega); simpa using this
  refine ⟨fun j v hv => ?_, by rw [hlen]; exact World.there_setCells h.t g o vs⟩
  rw [Nat.zero_add]
  by_cases h1 : j < o
  · have hv' : cs[j]? = some v := by
      rw [List.append_assoc, List.getElem?_append_left (by rw [List.length_take]; omega), List.getElem?_take_of_lt h1] at hv
      exact hv
    have hr : w.rangeAt g j [v] := fun i u hu => by
      have hi0 : i = 0 := by have := (List.getElem?_eq_some_iff.1 hu).1; simp at this; exact this
      subst hi0
      simp at hu
      subst hu
      exact h.cell hv'
    have := World.rangeAt_setCells_apart hr g o vs (Or.inr (Or.inl (by simp; omega))) 0 v rfl
    simpa using this
  · by_cases h2 : j < o + vs.length
    · have hv' : vs[j - o]? = some v := by
        rw [List.getElem?_append_left (by simp; omega), List.getElem?_append_right (by simp; omega)] at hv
        rw [List.length_take, Nat.min_eq_left (by omega)] at hv
        exact hv
      have := World.rangeAt_setCells_same w g o vs ho (j - o) v hv'
      rwa [show o + (j - o) = j by omega] at this
    · have hv' : cs[j]? = some v := by
        rw [List.getElem?_append_right (by simp; omega), List.getElem?_drop] at hv
        simp only [List.length_append, List.length_take] at hv
        rw [Nat.min_eq_left (by omega), show o + vs.length + (j - (o + vs.length)) = j by omega] at hv
        exact hv
      have hr : w.rangeAt g j [v] := fun i u hu => by
        have hi0 : i = 0 := by have := (List.getElem?_eq_some_iff.1 hu).1; simp at this; exact this
        subst hi0
        simp at hu
        subst hu
        exact h.cell hv'
      have := World.rangeAt_setCells_apart hr g o vs (Or.inr (Or.inr (by omega))) 0 v rfl
      simpa using this
theorem wpList_store_lv {ops : Array Oper} {rest : List Oper} {op : Oper} {a : Act} {w : World} {Q : Exit → Act → World → Prop} (hgd : op.guard = none) (ty : TypeId) (x y : Operand) (ho : op.op = .store ty x y)
    (g o : Nat) (cs : List Value) (cells : Array Value) (hL : Lv w g cs) (hx : a.eval x = .pointer (some ⟨g, o, none⟩)) (hy : a.eval y = .agg cells)
    (hi : (Tryz.prog.info? ty).map (·.size) = some cells.size) (hle : o + cells.size ≤ cs.length) (h1 : cells.all (·.oneCell') = true)
    (h : ∀ w', Lv w' g (cs.take o ++ cells.toList ++ cs.drop (o + cells.size)) → Kp (fun b => b = g) w w' → wpList Tryz.prog ops Q rest (a.put op.dst undef) w') : wpList Tryz.prog ops Q (op :: rest) a w := by
  have ht : w.there g o cells.size := fun j hj => by have := hL.t (o + j) (by omega); simpa using this
  refine wpList_store_mid hgd ty x y ho g o cells hx hy ht hi h1 (h _ ?_ (kp_setCells g _ _ _))
  have := hL.set o cells.toList (by simpa using hle)
  simpa using this
theorem wpList_load_lv {ops : Array Oper} {rest : List Oper} {op : Oper} {a : Act} {w : World} {Q : Exit → Act → World → Prop} (hgd : op.guard = none) (ty : TypeId) (x : Operand) (ho : op.op = .load ty x)
    (g o n : Nat) (cs : List Value) (d : TypeDesc) (hL : Lv w g cs) (hx : a.eval x = .pointer (some ⟨g, o, none⟩)) (hu : Tryz.prog.underlying ty = some d) (hd : d.isRow = true)
    (hi : (Tryz.prog.info? ty).map (·.size) = some n) (hle : o + n ≤ cs.length)
    (h : wpList Tryz.prog ops Q rest (a.put op.dst (.agg ((cs.drop o).take n).toArray)) w) : wpList Tryz.prog ops Q (op :: rest) a w := by
  have hr : w.rangeAt g o ((cs.drop o).take n) := fun j v hv => by
    have hj : j < n := by
      have := (List.getElem?_eq_some_iff.1 hv).1
      rw [List.length_take] at this
      omega
    rw [List.getElem?_take_of_lt hj, List.getElem?_drop] at hv
    have := hL.r (o + j) v hv
    rwa [Nat.zero_add] at this
  exact wpList_load_mid hgd ty x ho g o hx _ d hr hu hd (by rw [hi, List.length_take, List.length_drop, Nat.min_eq_left (by omega)]) h
theorem wpList_store_all {ops : Array Oper} {rest : List Oper} {op : Oper} {a : Act} {w : World} {Q : Exit → Act → World → Prop} (hgd : op.guard = none) (ty : TypeId) (x y : Operand) (ho : op.op = .store ty x y)
    (n g : Nat) (cs : List Value) (cells : List Value) (hx : a.eval x = .pointer (some ⟨g, 0, none⟩)) (hy : a.eval y = .agg cells.toArray) (hL : Lv w g cs)
    (hi : (Tryz.prog.info? ty).map (·.size) = some n) (hn : cs.length = n) (hl : cells.length = n) (h1 : cells.toArray.all (·.oneCell') = true)
    (h : ∀ w', Lv w' g cells → Kp (fun b => b = g) w w' → wpList Tryz.prog ops Q rest (a.put op.dst undef) w') : wpList Tryz.prog ops Q (op :: rest) a w := by
  refine wpList_store_lv hgd ty x y ho g 0 cs cells.toArray hL hx hy (by rw [hi, List.size_toArray, hl]) (by rw [List.size_toArray, hl, hn]; omega) h1 (fun w' hL' k => h w' ?_ k)
  have e : cs.take 0 ++ cells.toArray.toList ++ cs.drop (0 + cells.toArray.size) = cells := by
    rw [List.size_toArray, hl, Nat.zero_add, ← hn]
    simp
  rw [e] at hL'
  exact hL'
theorem wpList_store_sub {ops : Array Oper} {rest : List Oper} {op : Oper} {a : Act} {w : World} {Q : Exit → Act → World → Prop} (hgd : op.guard = none) (ty : TypeId) (x y : Operand) (ho : op.op = .store ty x y)
    (n g o : Nat) (cs cells cs' : List Value) (hx : a.eval x = .pointer (some ⟨g, o, none⟩)) (hy : a.eval y = .agg cells.toArray) (hL : Lv w g cs)
    (hi : (Tryz.prog.info? ty).map (·.size) = some n) (hl : cells.length = n) (hle : o + n ≤ cs.length) (h1 : cells.toArray.all (·.oneCell') = true) (he : cs.take o ++ cells ++ cs.drop (o + n) = cs')
    (h : ∀ w', Lv w' g cs' → Kp (fun b => b = g) w w' → wpList Tryz.prog ops Q rest (a.put op.dst undef) w') : wpList Tryz.prog ops Q (op :: rest) a w := by
  refine wpList_store_lv hgd ty x y ho g o cs cells.toArray hL hx hy (by rw [hi, List.size_toArray, hl]) (by rw [List.size_toArray, hl]; exact hle) h1 (fun w' hL' k => h w' ?_ k)
  rw [List.size_toArray, hl] at hL'
  rw [← he]
  exact hL'
theorem wpList_load_all {ops : Array Oper} {rest : List Oper} {op : Oper} {a : Act} {w : World} {Q : Exit → Act → World → Prop} (hgd : op.guard = none) (ty : TypeId) (x : Operand) (ho : op.op = .load ty x)
    (n g : Nat) (cs : List Value) (hx : a.eval x = .pointer (some ⟨g, 0, none⟩)) (hL : Lv w g cs) (hd : ∃ d, Tryz.prog.underlying ty = some d ∧ d.isRow = true)
    (hi : (Tryz.prog.info? ty).map (·.size) = some n) (hn : cs.length = n)
    (h : wpList Tryz.prog ops Q rest (a.put op.dst (.agg cs.toArray)) w) : wpList Tryz.prog ops Q (op :: rest) a w := by
  obtain ⟨d, hd1, hd2⟩ := hd
  refine wpList_load_lv hgd ty x ho g 0 n cs d hL hx hd1 hd2 hi (by omega) ?_
  rw [List.drop_zero, ← hn, List.take_length]
  exact h
theorem Lv.load {u : World} {g : Nat} {cs : List Value} (h : Lv u g cs) {ty : TypeId} {n : Nat} (hd : ∃ d, Tryz.prog.underlying ty = some d ∧ d.isRow = true) (hi : (Tryz.prog.info? ty).map (·.size) = some n) (hn : cs.length = n) : (loadVar ty ⟨g, 0, none⟩).run Tryz.prog u = .ok (.agg cs.toArray) u := by
  obtain ⟨d, hd1, hd2⟩ := hd
  exact run_loadVar_mid u g 0 ty cs d h.r hd1 hd2 (by rw [hi, hn])
theorem Lv.set1 {w : World} {g : Nat} {cs : List Value} (h : Lv w g cs) (o : Nat) (v : Value) (ho : o < cs.length) : Lv (w.setCell ⟨g, o, none⟩ v) g (cs.take o ++ [v] ++ cs.drop (o + 1)) := h.set o [v] (by simp; omega)
theorem Lv.fz {u : World} {g : Nat} {cs : List Value} (h : Lv u g cs) {j : Nat} (hj : j < cs.length) : u.frozen? ⟨g, j, none⟩ = false := by
  have := (h.t j hj).2
  rwa [Nat.zero_add] at this
theorem res_cell {fn : Func} {t : Tmp} {ty : TypeId} (h : fn.results = #[.cell t ty]) (tmps : Array Value) (w : World) (g : Nat) (v : Value) (ht : tmps.getD t undef = .pointer (some ⟨g, 0, none⟩)) (hl : (loadVar ty ⟨g, 0, none⟩).run Tryz.prog w = .ok v w) :
    (results fn tmps).run Tryz.prog w = .ok v w := by
  have ht' : tmps[t]?.getD undef = .pointer (some ⟨g, 0, none⟩) := by simpa using ht
  simp [results, h, ht', asAddr, hl]
theorem res_cell_tmp {fn : Func} {t t2 : Tmp} {ty : TypeId} (h : fn.results = #[.cell t ty, .tmp t2]) (tmps : Array Value) (w : World) (g : Nat) (v : Value) (ht : tmps.getD t undef = .pointer (some ⟨g, 0, none⟩)) (hl : (loadVar ty ⟨g, 0, none⟩).run Tryz.prog w = .ok v w) :
    (results fn tmps).run Tryz.prog w = .ok (.tuple #[v, tmps.getD t2 undef]) w := by
  have ht' : tmps[t]?.getD undef = .pointer (some ⟨g, 0, none⟩) := by simpa using ht
  simp [results, h, ht', asAddr, hl]
end Go.Proofs.YtblaabjjcanifaaGreatDoor

/- A heap of numbers in memory: its list stands in a cell of a struct; Len, Less, Swap. -/
namespace Go.Proofs.YtblaabjjcanifaaGreatDoor
set_option linter.unusedVariables false
set_option linter.unusedSimpArgs false
open Go.RowKit Go.Deep

def nls (l : List Nat) : List Value := l.map fun x => Value.int .i64 ((x : Nat) : Int)
theorem nls_len (l : List Nat) : (nls l).length = l.length := by simp [nls]
theorem nls_append (l m : List Nat) : nls (l ++ m) = nls l ++ nls m := by simp [nls]
theorem nls_take (l : List Nat) (n : Nat) : (nls l).take n = nls (l.take n) := by simp [nls, List.map_take]
theorem nls_set (l : List Nat) (j x : Nat) : nls (l.set j x) = (nls l).set j (.int .i64 ((x : Nat) : Int)) := by simp [nls, List.map_set]
theorem nls_get (l : List Nat) (j : Nat) (h : j < l.length) : (nls l)[j]? = some (.int .i64 ((l.getD j 0 : Nat) : Int)) := by
  unfold nls
  rw [List.getElem?_map, List.getElem?_eq_getElem h, Option.map_some, List.getD_eq_getElem?_getD, List.getElem?_eq_getElem h]; rfl
theorem own_setI {w : World} {base g n cap sz : Nat} {e : TypeId} {xs : List Value} (h : w.ownsRow base e sz (.slice (some ⟨g, 0, none⟩) n cap) n xs) (j : Nat) (u : Value) (hj : j < xs.length) : (w.setCell ⟨g, j, none⟩ u).ownsRow base e sz (.slice (some ⟨g, 0, none⟩) n cap) n (xs.set j u) := by
  obtain ⟨h1, h2⟩ := h
  rcases h2 with ⟨h0, _⟩ | ⟨g', cap', cur, hv, hg, hh, hn, hcap, hsz, htake⟩
  · cases h0
  · cases hv
    refine ⟨by rw [List.length_set]; exact h1, .inr ⟨g, cap, cur.setIfInBounds j u, rfl, hg, ?_, hn, hcap, by simpa using hsz, ?_⟩⟩
    · exact heap_setCell_same w g j cur e u hh
    · rw [Array.toList_setIfInBounds, List.take_set, htake]
theorem own_subI {w : World} {base g n cap sz k : Nat} {e : TypeId} {xs : List Value} (h : w.ownsRow base e sz (.slice (some ⟨g, 0, none⟩) n cap) n xs) (hk : k ≤ n) : w.ownsRow base e sz (.slice (some ⟨g, 0, none⟩) k cap) k (xs.take (k * sz)) := by
  obtain ⟨h1, h2⟩ := h
  rcases h2 with ⟨h0, _⟩ | ⟨g', cap', cur, hv, hg, hh, hn, hcap, hsz, htake⟩
  · cases h0
  · cases hv
    have hm := Nat.mul_le_mul_right sz hk
    refine ⟨by rw [List.length_take, h1]; omega, .inr ⟨g, cap, cur, rfl, hg, hh, by omega, hcap, hsz, ?_⟩⟩
    rw [← htake, List.take_take, Nat.min_eq_left hm]
theorem own_frzI {w : World} {base g n cap sz : Nat} {e : TypeId} {xs : List Value} (h : w.ownsRow base e sz (.slice (some ⟨g, 0, none⟩) n cap) n xs) (j : Nat) : w.frozen? ⟨g, j, none⟩ = false := by
  obtain ⟨h1, h2⟩ := h
  rcases h2 with ⟨h0, _⟩ | ⟨g', cap', cur, hv, hg, hh, hn, hcap, hsz, htake⟩
  · cases h0
  · cases hv
    exact frozen_of_row _ _ _ cur _ hh
theorem mid_get (pre post : List Value) (v : Value) : (pre ++ v :: post)[pre.length]? = some v := by simp
theorem mid_set (pre post : List Value) (v u : Value) : (pre ++ v :: post).take pre.length ++ [u] ++ (pre ++ v :: post).drop (pre.length + 1) = pre ++ u :: post := by
  simp [List.drop_append]
/-- a heap of the numbers l: its list stands at cell o of the struct at block h, its row at block g -/
structure Ip (w : World) (h o g cap : Nat) (pre post : List Value) (l : List Nat) : Prop where
  lv : Lv w h (pre ++ .slice (some ⟨g, 0, none⟩) l.length cap :: post)
  ol : pre.length = o
  ow : w.ownsRow 0 3 1 (.slice (some ⟨g, 0, none⟩) l.length cap) l.length (nls l)
  ne : g ≠ h
section
variable {w : World} {h o g cap : Nat} {pre post : List Value} {l : List Nat}
theorem Ip.hb (x : Ip w h o g cap pre post l) : h < w.heap.size := x.lv.lt (by simp; omega)
theorem Ip.gb (x : Ip w h o g cap pre post l) : g < w.heap.size := (ownBlock_lt x.ow (g := g) rfl).2
theorem Ip.keep {S : Nat → Prop} {w' : World} (x : Ip w h o g cap pre post l) (k : Kp S w w') (hh : ¬ S h) (hg : ¬ S g) : Ip w' h o g cap pre post l :=
  ⟨x.lv.keep k hh, x.ol, ownsRow_keep x.ow k (fun g' e => by have e' : some g = some g' := e; injection e' with e'; subst e'; exact hg), x.ne⟩
theorem Ip.keep0 {w' : World} (x : Ip w h o g cap pre post l) (k : Kp (fun _ => False) w w') : Ip w' h o g cap pre post l := x.keep k id id
theorem Ip.c0 (x : Ip w h o g cap pre post l) : w.cell? ⟨h, o, none⟩ = some (.slice (some ⟨g, 0, none⟩) l.length cap) := by
  have := x.lv.cell (j := o) (by rw [← x.ol]; exact mid_get _ _ _)
  exact this
theorem Ip.fz (x : Ip w h o g cap pre post l) : w.frozen? ⟨h, o, none⟩ = false := x.lv.fz (by rw [← x.ol]; simp)
theorem Ip.cn (x : Ip w h o g cap pre post l) {j : Nat} (hj : j < l.length) : w.cell? ⟨g, j, none⟩ = some (.int .i64 ((l.getD j 0 : Nat) : Int)) := by
  have h1 := x.ow.cells (g := g) rfl j _ (nls_get l j hj)
  rw [Addr.add_mid, Nat.zero_add] at h1
  exact h1
theorem Ip.capLe (x : Ip w h o g cap pre post l) : l.length ≤ cap := by
  obtain ⟨_, h2⟩ := x.ow
  rcases h2 with ⟨h0, _⟩ | ⟨g', cap', cur, hv, hg, hh, hnn, hcap, hsz, htake⟩
  · cases h0
  · cases hv; omega
/-- another list in the same cell -/
theorem Ip.lset (x : Ip w h o g cap pre post l) (u : Value) : Lv (w.setCell ⟨h, o, none⟩ u) h (pre ++ u :: post) := by
  have h1 := x.lv.set1 o u (by rw [← x.ol]; simp)
  rw [← x.ol, mid_set] at h1
  rw [← x.ol]
  exact h1
end

theorem ilv {w : World} {a : Addr} {v : Value} (hc : w.cell? a = some v) : (loadVar 82 a).run Tryz.prog w = .ok v w := by
  simp [loadVar, hc]
theorem iwrap (a : Addr) (s m : String) (w : World) : (Builtin.ssaWrapNilChk_ #[155] 155 #[.pointer (some a), strVal s, strVal m]).run Tryz.prog w = .ok (.pointer (some a)) w := rfl
theorem imeth (k : Nat) (nm : String) (f : Nat) (hm : ((Tryz.prog.info? 155).bind (fun i => i.methods.find? (·.name == nm))).map (fun m => (m.path, m.func)) = some (#[], some (f, false))) (a : Addr) (w : World) (v : Value) (hc : (loadVar 82 a).run Tryz.prog w = .ok v w) : (method (k + 1) 155 (.pointer (some a)) nm).run Tryz.prog w = .ok (f, v) w := by
  obtain ⟨m, hm1, hm2⟩ := Option.map_eq_some_iff.1 hm
  obtain ⟨i, hi, hf⟩ := Option.bind_eq_some_iff.1 hm1
  simp only [Prod.mk.injEq] at hm2
  have hu : Tryz.prog.underlying 155 = some (.pointer 82) := Tryz.underlying155
  simp [method, typeInfo, hi, hf, hm2.1, hm2.2, follow, receiverAt, run_underlying hu, Place.get, iwrap, asAddr, hc]
theorem mPushI (v : Value) (w : World) : (method 339 155 v "Push").run Tryz.prog w = .ok (167, v) w := by kernel_rfl
theorem mPopI (v : Value) (w : World) : (method 339 155 v "Pop").run Tryz.prog w = .ok (166, v) w := by kernel_rfl
theorem mLenI {a : Addr} {v : Value} {w : World} (hc : w.cell? a = some v) : (method 339 155 (.pointer (some a)) "Len").run Tryz.prog w = .ok (101, v) w := imeth 338 "Len" _ (by kernel_rfl) _ w v (ilv hc)
theorem mLessI {a : Addr} {v : Value} {w : World} (hc : w.cell? a = some v) : (method 339 155 (.pointer (some a)) "Less").run Tryz.prog w = .ok (149, v) w := imeth 338 "Less" _ (by kernel_rfl) _ w v (ilv hc)
theorem mSwapI {a : Addr} {v : Value} {w : World} (hc : w.cell? a = some v) : (method 339 155 (.pointer (some a)) "Swap").run Tryz.prog w = .ok (150, v) w := imeth 338 "Swap" _ (by kernel_rfl) _ w v (ilv hc)

set_option maxRecDepth 100000 in
theorem ilen (p : Option Addr) (n c : Nat) (w : World) : Calls Tryz.prog 101 #[.slice p n c] w fun e w' => e = .returned (.int .i64 n) ∧ w' = w := by
  go_enter Tryz.func101, Tryz.ntmps101
  go_wp2
  go_ret
  exact ⟨rfl, rfl⟩

set_option maxRecDepth 100000 in
set_option maxHeartbeats 800000 in
theorem iless {w : World} {h o g cap : Nat} {pre post : List Value} {l : List Nat} (x : Ip w h o g cap pre post l) (i j : Nat) (hi : i < l.length) (hj : j < l.length) :
    Calls Tryz.prog 149 #[.slice (some ⟨g, 0, none⟩) l.length cap, .int .i64 i, .int .i64 j] w fun e w' => e = .returned (.bool (decide (l.getD i 0 < l.getD j 0))) ∧ Kp (fun _ => False) w w' := by
  have ci := x.cn hi
  have cj := x.cn hj
  obtain ⟨a, ha⟩ : ∃ a, a = l.getD i 0 := ⟨_, rfl⟩
  obtain ⟨b, hb⟩ : ∃ b, b = l.getD j 0 := ⟨_, rfl⟩
  rw [← ha] at ci ⊢
  rw [← hb] at cj ⊢
  obtain ⟨n, hn⟩ : ∃ n, n = l.length := ⟨_, rfl⟩
  rw [← hn] at hi hj ⊢
  have hi2 : (i : Int) < (n : Int) := by omega
  have hj2 : (j : Int) < (n : Int) := by omega
  have hd : decide ((a : Int) < (b : Int)) = decide (a < b) := by simp
  clear x ha hb hn
  go_enter Tryz.func149, Tryz.ntmps149
  go_wp2
  go_region
  go_wp2
  go_ret
  exact ⟨by simp, (Kp.refl _ _).drew⟩

set_option maxRecDepth 100000 in
set_option maxHeartbeats 3200000 in
theorem iswap {w : World} {h o g cap : Nat} {pre post : List Value} {l : List Nat} (x : Ip w h o g cap pre post l) (i j : Nat) (hi : i < l.length) (hj : j < l.length) :
    Calls Tryz.prog 150 #[.slice (some ⟨g, 0, none⟩) l.length cap, .int .i64 i, .int .i64 j] w fun e w' => e = .returned (.tuple #[]) ∧ Kp (fun b => b = g) w w' ∧ Ip w' h o g cap pre post (swI l i j) := by
  have ci := x.cn hi
  have cj := x.cn hj
  obtain ⟨ai, hai⟩ : ∃ a, a = l.getD i 0 := ⟨_, rfl⟩
  obtain ⟨aj, haj⟩ : ∃ a, a = l.getD j 0 := ⟨_, rfl⟩
  rw [← hai] at ci
  rw [← haj] at cj
  have fz : ∀ k, w.frozen? ⟨g, k, none⟩ = false := fun k => own_frzI x.ow k
  obtain ⟨n, hn⟩ : ∃ n, n = l.length := ⟨_, rfl⟩
  obtain ⟨wf, hwf⟩ : ∃ y, y = (w.setCell ⟨g, i, none⟩ (.int .i64 (aj : Int))).setCell ⟨g, j, none⟩ (.int .i64 (ai : Int)) := ⟨_, rfl⟩
  have hK : Kp (fun b => b = g) w wf := by rw [hwf]; exact ((Kp.refl (fun b => b = g) w).setCell (fun _ => rfl) _).setCell (fun _ => rfl) _
  have hH : Ip wf h o g cap pre post (swI l i j) := by
    refine ⟨?_, x.ol, ?_, x.ne⟩
    · rw [swI_len]; exact x.lv.keep hK (fun e => x.ne e.symm)
    · have hml := nls_len l
      have o1 := own_setI x.ow i (.int .i64 (aj : Int)) (by rw [hml]; omega)
      have o2 := own_setI o1 j (.int .i64 (ai : Int)) (by rw [List.length_set, hml]; omega)
      rw [← hwf] at o2
      have e2 : nls (swI l i j) = ((nls l).set i (.int .i64 (aj : Int))).set j (.int .i64 (ai : Int)) := by
        unfold swI
        rw [nls_set, nls_set, hai, haj]
      rw [swI_len, e2]
      exact o2
  have HF : Hid (∀ y : World, y = wf.drew → Kp (fun b => b = g) w y ∧ Ip y h o g cap pre post (swI l i j)) := fun y hy => by
    rw [hy]
    exact ⟨hK.drew, hH.keep0 ((Kp.refl _ _).drew)⟩
  have HW : Hid (wf = (w.setCell ⟨g, i, none⟩ (.int .i64 (aj : Int))).setCell ⟨g, j, none⟩ (.int .i64 (ai : Int))) := hwf
  rw [← hn] at hi hj ⊢
  have hi2 : (i : Int) < (n : Int) := by omega
  have hj2 : (j : Int) < (n : Int) := by omega
  by_cases hij : i = j
  · subst hij
    obtain rfl : ai = aj := by rw [hai, haj]
    have e1 : (w.setCell ⟨g, i, none⟩ (.int .i64 (ai : Int))).cell? ⟨g, i, none⟩ = some (.int .i64 (ai : Int)) := World.cell?_setCell_same _ _ _ ci
    clear x hn hai haj hK hH hwf
    go_enter Tryz.func150, Tryz.ntmps150
    go_wp2
    go_region
    go_end0
    exact ⟨rfl, HF.out _ (by rw [HW.out])⟩
  · have n1 : (⟨g, i, none⟩ : Addr) ≠ ⟨g, j, none⟩ := fun e => by injection e with _ e; omega
    have e1 : (w.setCell ⟨g, i, none⟩ (.int .i64 (aj : Int))).cell? ⟨g, j, none⟩ = some (.int .i64 (aj : Int)) := by rw [World.cell?_setCell_other _ _ _ _ n1]; exact cj
    clear x hn hai haj hK hH hwf n1
    go_enter Tryz.func150, Tryz.ntmps150
    go_wp2
    go_region
    go_end0
    exact ⟨rfl, HF.out _ (by rw [HW.out])⟩
end Go.Proofs.YtblaabjjcanifaaGreatDoor
