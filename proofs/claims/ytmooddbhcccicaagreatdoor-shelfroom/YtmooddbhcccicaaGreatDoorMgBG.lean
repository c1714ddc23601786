/- Texts of this proof, joined: Fy, Bq, Br. -/
import Derived.Test.YtmooddbhcccicaaGreatDoorMgBF
import Derived.Deep.Slices
import Derived.Test.YtmooddbhcccicaaGreatDoorMgAW
/- Texts, as lists of lists of bytes: how they lie; how they come in. -/
namespace Go.Proofs.YtmooddbhcccicaaGreatDoor
open Go.ChangeShapes Go.WideShapes Go.ChangeAt Go.RowKit Go.Deep

/-- The value v reads as the texts ls. -/
structure Tb (w : World) (v : Value) (ls : List (List Nat)) : Prop where
  form : ∃ (g : Option Addr) (gb go cap : Nat) (A : Nat → Option Addr) (C : Nat → Nat), v = .slice g ls.length cap ∧ ls.length ≤ cap ∧ (0 < ls.length → g = some ⟨gb, go, none⟩) ∧
    ∀ r, r < ls.length → w.cell? ⟨gb, go + r, none⟩ = some (.slice (A r) (ls.getD r []).length (C r)) ∧ Rb w (A r) (ls.getD r []).length (ls.getD r []) ∧ (ls.getD r []).length ≤ C r ∧ (ls.getD r []).length ≤ 140737488355328
  many : ls.length * 24 ≤ 140737488355328

theorem weights_in {H : Type} {P : Program} {e : TypeId} {d : DataW H} : ∀ {l : List (DataW H)}, d ∈ l → ∀ n, n ∈ d.weights P e → n ∈ DataW.weightsAll P e l
  | [], h, _, _ => by cases h
  | x :: r, h, n, hn => by
    simp only [DataW.weightsAll, List.mem_append]
    rcases List.mem_cons.1 h with e | h
    · rw [← e]; exact Or.inl hn
    · exact Or.inr (weights_in h n hn)
/-- what the rows' sizes say of a parameter that is texts -/
theorem sized_texts {H : Type} {ts : List TypeId} {ds : List (DataW H)} {j : Nat} {elems spare : List (DataW H)} (h : (DataW.weightsEach Tryz.prog ts ds).all (· ≤ reachBytes) = true) (ht : ts[j]? = some 22) (hd : ds[j]? = some (.slice elems spare)) :
    (elems.length + spare.length) * 24 ≤ 140737488355328 ∧ ∀ e' s', DataW.slice e' s' ∈ elems → e'.length + s'.length ≤ 140737488355328 := by
  have hr : reachBytes ≤ 140737488355328 := by have := reachBytes_lt; omega
  have b1 : Tryz.prog.bytesOf 34 = 24 := by kernel_rfl
  have b2 : Tryz.prog.bytesOf 5 = 1 := by kernel_rfl
  refine ⟨?_, fun e' s' hx => ?_⟩
  · have := sized_slice h ht hd Tryz.underlying22
    rw [b1] at this; omega
  · have h2 := List.all_eq_true.1 h _ (DataW.weights_mem_each ht hd ((e'.length + s'.length) * Tryz.prog.bytesOf 5) (by
      simp only [DataW.weights, Tryz.underlying22, List.mem_cons, List.mem_append]
      exact Or.inr (Or.inl (weights_in hx _ (by simp [DataW.weights, Tryz.underlying34])))))
    have h3 := of_decide_eq_true h2
    rw [b2] at h3; omega

theorem texts_of_trod {H : Type} {enc : TypeId × Value → H} {W : World} {a : Option Addr} {len cap : Nat} {d : DataW H} {p : List MemPlace}
    (h : DataW.Trod enc Tryz.prog W 0 (fun _ => true) true 22 (.slice a len cap) d p)
    (hw : ∀ elems spare, d = .slice elems spare → (elems.length + spare.length) * 24 ≤ 140737488355328 ∧ ∀ e' s', DataW.slice e' s' ∈ elems → e'.length + s'.length ≤ 140737488355328) : ∃ ls, Tb W (.slice a len cap) ls := by
  obtain ⟨fuel, hf⟩ := h
  rcases open_slice1 Tryz.underlying22 (by kernel_rfl) hf with ⟨hcs, _⟩ | ⟨x, l, c, m, n, V, D, Pl, hcs, _, hl, hm, hmm, hx, hel⟩
  · simp [Value.cells] at hcs
    obtain ⟨rfl, rfl, rfl⟩ := hcs
    exact ⟨[], ⟨none, 0, 0, 0, fun _ => none, fun _ => 0, rfl, Nat.le_refl _, fun h => absurd h (Nat.lt_irrefl _), fun r h => absurd h (Nat.not_lt_zero _)⟩, by simp⟩
  · simp [Value.cells] at hcs
    obtain ⟨rfl, rfl, rfl⟩ := hcs
    have hmc : m = cap := by simpa using hmm
    obtain ⟨hd, _⟩ := Prod.mk.inj hx
    obtain ⟨w1, w2⟩ := hw _ _ hd
    simp only [List.length_map, List.length_range] at w1
    obtain ⟨F, hF⟩ := choose_lt (α := Option Addr × Nat × List Nat) (n := len) (p := fun i t => V i = .slice t.1 t.2.2.length t.2.1 ∧ Rb W t.1 t.2.2.length t.2.2 ∧ t.2.2.length ≤ t.2.1 ∧ t.2.2.length ≤ 140737488355328) (fun i hi => by
      obtain ⟨_, ht⟩ := hel i (by omega)
      rcases open_ints Tryz.underlying34 Tryz.underlying5 (by kernel_rfl) ht with ⟨hv, _⟩ | ⟨y, l', c', zs, hv, hxx, hl', _, hz, hDx, hcell, hwz⟩
      · have hv' : V i = .slice none 0 0 := by simpa using hv
        exact ⟨(none, 0, []), hv', Rb.nil _ _, Nat.le_refl _, by simp⟩
      · have hv' : V i = .slice (some y) l' c' := by simpa using hv
        have htr : DataW.Trod enc Tryz.prog W 0 (fun _ => true) true 34 (.slice (some y) l' c') (D i) (Pl i) := ⟨n, by rw [hv] at ht; simpa [Value.cells] using ht⟩
        obtain ⟨xs, hr, hlc, hsz⟩ := rb_of_trod htr (fun elems spare hd' => w2 elems spare (by
          refine List.mem_map.2 ⟨i, List.mem_range.2 hi, ?_⟩
          exact hd'))
        have hlen := hr.len
        subst hlen
        exact ⟨(some y, c', xs), hv', hr, hlc, hsz.out⟩)
    obtain ⟨b, off, spot⟩ := x
    have hget : ∀ r, r < len → ((List.range len).map fun i => (F i).2.2).getD r [] = (F r).2.2 := fun r hr => by
      rw [List.getD_eq_getElem?_getD, List.getElem?_map, List.getElem?_range hr]; rfl
    by_cases h0 : len = 0
    · subst h0
      exact ⟨[], ⟨some ⟨b, off, spot⟩, 0, 0, cap, fun _ => none, fun _ => 0, rfl, Nat.zero_le _, fun h => absurd h (Nat.lt_irrefl _), fun r h => absurd h (Nat.not_lt_zero _)⟩, by simp⟩
    · have hc0 := (hel 0 (by omega)).1
      have hspot : spot = none := by simpa [Addr.add] using World.cell?_spot hc0
      subst hspot
      refine ⟨(List.range len).map fun i => (F i).2.2, ⟨some ⟨b, off, none⟩, b, off, cap, fun i => (F i).1, fun i => (F i).2.1, by simp, by simpa using hl, fun _ => rfl, fun r hr => ?_⟩, by rw [List.length_map, List.length_range]; omega⟩
      rw [List.length_map, List.length_range] at hr
      rw [hget r hr]
      obtain ⟨e1, e2, e3, e4⟩ := hF r hr
      refine ⟨?_, e2, e3, e4⟩
      have := (hel r (by omega)).1
      rw [show (⟨b, off, none⟩ : Addr).add r = ⟨b, off + r, none⟩ from by by_cases e : r = 0 <;> simp [Addr.add, e]] at this
      rw [this, e1]
end Go.Proofs.YtmooddbhcccicaaGreatDoor

/- Records in the place of all others (plain); a record that is put. -/
namespace Go.Proofs.YtmooddbhcccicaaGreatDoor
set_option linter.unusedVariables false
set_option linter.unusedSimpArgs false
open Go.RowKit Go.Deep

theorem RingW.suffix {rd : Nat → List Nat} {s : Nat} : ∀ {c e : Nat} {l1 l2 : List (List Nat)}, RingW rd s c e (l1 ++ l2) → RingW rd s (c + totW l1) (e + l1.length) l2
  | c, e, [], l2, h => h
  | c, e, ys :: l1, l2, ⟨_, h⟩ => by
    have := RingW.suffix h
    show RingW rd s (c + (needW ys + totW l1)) (e + (l1.length + 1)) l2
    rw [← Nat.add_assoc, show e + (l1.length + 1) = e + 1 + l1.length by omega]
    exact this
theorem RingW.shift {rd : Nat → List Nat} {s : Nat} : ∀ {c c' e : Nat} {l : List (List Nat)}, (∀ t, (c + t) % s = (c' + t) % s) → RingW rd s c e l → RingW rd s c' e l
  | c, c', e, [], hc, h => trivial
  | c, c', e, ys :: l, hc, ⟨h1, h2⟩ => ⟨fun j hj => by rw [← hc j]; exact h1 j hj, RingW.shift (fun t => by rw [Nat.add_assoc, Nat.add_assoc]; exact hc _) h2⟩
/-- records in the place of all others: X is the plate behind the new head, now it behind cleaning -/
theorem LogN.replaced {dur : List Nat} {now1 now : Nat → List Nat} {s a b c e : Nat} {recs l : List (List Nat)} (h : LogN now1 s a b c e (recs ++ l)) (ha : 1 ≤ a ∧ a < 1152921504606846976) (hb : 1 ≤ b ∧ b ≤ 1152921504606846976) (hc : c < s) (hs : s ≤ 8192) (he : 1 ≤ e ∧ e ≤ 1152921504606846976) (hX : ∀ i, i < 2 + s → nowOf dur (fun _ => none) i = if i = (a + 1) % 2 then hdB (a + 1) b ((c + totW recs) % s) (e + recs.length) else now1 i) (hn : Cln dur (fun _ => none) s ((c + totW recs) % s + totW l) (s - totW l) (2 + s) now) : LogN now s (a + 1) b ((c + totW recs) % s) (e + recs.length) l := by
  have hft := h.fits
  rw [totW_app] at hft
  obtain ⟨C, hC⟩ : ∃ C, C = (c + totW recs) % s := ⟨_, rfl⟩
  have hmod : ∀ t, (C + t) % s = (c + totW recs + t) % s := fun t => by rw [hC, Nat.mod_add_mod]
  rw [← hC] at hX hn ⊢
  have hlt : ∀ t, 2 + (C + t) % s < 2 + s := fun t => by have := Nat.mod_lt (C + t) (show 0 < s by omega); omega
  have hhd : ∀ i, i < 2 → now i = nowOf dur (fun _ => none) i := fun i hi => (hn i (by omega)).2.2 (fun t ht => by omega)
  refine ⟨by rw [hhd _ (by omega), hX _ (by omega), if_pos rfl], fun i hi hne hok => ?_, ?_, by omega, fun t h1 h2 => ?_, fun ys hy => h.fine ys (List.mem_append_right _ hy)⟩
  · have hia : i = a % 2 := by omega
    have : now i = hdB a b c e := by rw [hhd i hi, hX i (by omega), if_neg hne, hia]; exact h.hd
    rw [this, sayH_hdB (by omega) (by omega) (by omega) (by omega)]
    show (a : Int) < ((a + 1 : Nat) : Int)
    omega
  · have hr := h.ring.suffix
    refine RingW.congr (RingW.shift (c' := C) (fun t => (hmod t).symm) hr) fun t ht => ?_
    have := (hn _ (hlt t)).2.2 (fun t' ht' heq => by
      have h9 := mod_inj (s := s) (e := C) (i := t) (j := totW l + t') (by omega) (by omega) (by rw [← Nat.add_assoc]; omega)
      omega)
    rw [this, hX _ (hlt t), if_neg (by omega)]
  · refine (hn _ (hlt t)).2.1 ⟨t - totW l, by omega, ?_⟩
    rw [show C + totW l + (t - totW l) = C + t by omega]

theorem Lg.putted {w w' : World} {g bp d m gf s q a b c e lt y : Nat} {recs : List (List Nat)} {dur : List Nat} {T : Nat → Option (List Nat)} (h : Lg w g bp d m gf s q a b c e lt y recs dur T) {ys : List Nat} (hfit : 1 ≤ ys.length ∧ ys.length ≤ 2000 ∧ ∀ x ∈ ys, x < 256) (hroom : totW recs + needW ys ≤ s) (p' : Pt w' bp d m (2 + s) (q + needW ys) dur (wrT T s (c + totW recs) (lt + 1) ys (needW ys) (needW ys))) (l' : Wl w' g bp s gf ⟨a, b, c, e⟩ ((lt + 1 : Nat) : Int) (c + totW recs + needW ys) (s - totW recs - needW ys)) : Lg w' g bp d m gf s (q + needW ys) a b c e (lt + 1) y (recs ++ [ys]) dur (wrT T s (c + totW recs) (lt + 1) ys (needW ys) (needW ys)) := by
  have hen : lt + 1 = e + recs.length := h.hl
  have hs1 := h.s1
  have hq := h.hq
  have hy := h.yl
  have hput := h.lg.put (ys := ys) (by omega) hfit hroom
  have hdw := h.dw.put (ys := ys) h.lg (by omega) hroom
  rw [← hen] at hput hdw
  refine ⟨p', ?_, hput, hdw, ?_, ?_, h.s1, h.cs, h.a1, h.b1, h.e1, h.lp, ?_, ?_⟩
  · rw [totW_app, totW_one, ← Nat.add_assoc, ← Nat.sub_sub]
    exact l'
  · rw [totW_app, totW_one]; omega
  · rw [List.length_append]; show lt + 1 + 1 = e + (recs.length + 1); omega
  · rw [List.length_append]; omega
  · intro t ht'
    rw [List.take_append_of_le_length hy] at ht'
    have := totW_take recs y
    rw [(wrT_at (needW ys) (by omega)).2 _ (fun j hj he => by
      have := mod_inj (s := s) (e := c) (i := t) (j := totW recs + j) (by omega) (by omega) (by rw [← Nat.add_assoc]; omega)
      omega)]
    exact h.ys t ht'
theorem lg_put {w : World} {g bp d m gf s q a b c e lt y : Nat} {recs : List (List Nat)} {dur : List Nat} {T : Nat → Option (List Nat)} (h : Lg w g bp d m gf s q a b c e lt y recs dur T) (p : Option Addr) (n cap : Nat) (ys : List Nat) (hr : Rb w p n ys) (hn : 1 ≤ n ∧ n ≤ 2000) (hc : n ≤ cap) (hroom : totW recs + needW ys ≤ s) (hb : ∀ z, p = some z → 1 ≤ n → ¬ z.block = m ∧ ¬ z.block = g ∧ ¬ z.block = gf) (ht : Turns w) :
    Calls Tryz.prog 128 #[.pointer (some ⟨g, 0, none⟩), .slice p n cap] w fun e9 w' => e9 = .returned .nilIface ∧ Kp (fun x => x = m ∨ x = g ∨ x = gf) w w' ∧ ∃ q' T', Lg w' g bp d m gf s q' a b c e (lt + 1) y (recs ++ [ys]) dur T' := by
  obtain ⟨z1, z2, z3, z4, z5⟩ := h.bounds
  have hlen := hr.len
  have hcs := h.cs
  have hs1 := h.s1
  obtain ⟨bb, o, rfl, _⟩ := hr.pt (by omega)
  obtain ⟨hb1, hb2, hb3⟩ := hb _ rfl hn.1
  refine (put_ok (K := needW ys) h.pt (by omega) ⟨rfl, by omega⟩ h.wl (by omega) ⟨by unfold needW; rw [hlen], hn.2, hc⟩ hn.1 hr (by omega) (by omega) (by omega) ⟨h.lp.gd, h.lp.gm, h.lp.bg, h.lp.fd, h.lp.fm, h.lp.bf, hb1, hb2, hb3, fun e => h.lp.tg e.symm, fun e => h.lp.tf e.symm, fun e => h.lp.tm e.symm⟩ ht).mono ?_
  rintro e9 w' ⟨rfl, k, p', l'⟩
  exact ⟨rfl, k, _, _, h.putted ⟨by omega, by omega, hr.byte⟩ hroom p' l'⟩

/-- texts that lie apart from F -/
def Txs (F : Nat → Prop) (w : World) (p : Option Addr) (ls : List (List Nat)) : Prop := ∀ r, r < ls.length → ∃ b o, p = some ⟨b, o, none⟩ ∧ ¬ F b ∧ ∃ pp c, w.cell? ⟨b, o + r, none⟩ = some (.slice pp (ls.getD r []).length c) ∧ Rb w pp (ls.getD r []).length (ls.getD r []) ∧ (ls.getD r []).length ≤ c ∧ ∀ z, pp = some z → 0 < (ls.getD r []).length → ¬ F z.block
theorem Txs.keep {F : Nat → Prop} {w w' : World} {p : Option Addr} {ls : List (List Nat)} (h : Txs F w p ls) (k : Kp F w w') : Txs F w' p ls := fun r hr => by
  obtain ⟨b, o, h1, h2, pp, c, h3, h4, h5, h6⟩ := h r hr
  refine ⟨b, o, h1, h2, pp, c, k.cellv h3 h2, ?_, h5, h6⟩
  by_cases h0 : (ls.getD r []).length = 0
  · exact ⟨h4.len, h4.byte, fun j hj => by omega⟩
  · exact h4.keep k (fun a ha _ => h6 a ha (by omega))
theorem Txs.mono {F F' : Nat → Prop} {w : World} {p : Option Addr} {ls : List (List Nat)} (h : Txs F w p ls) (hf : ∀ b, F' b → F b) : Txs F' w p ls := fun r hr => by
  obtain ⟨b, o, h1, h2, pp, c, h3, h4, h5, h6⟩ := h r hr
  exact ⟨b, o, h1, fun e => h2 (hf b e), pp, c, h3, h4, h5, fun z hz h0 e => h6 z hz h0 (hf _ e)⟩
theorem Txs.len {F : Nat → Prop} {w : World} {p : Option Addr} {ls : List (List Nat)} (h : Txs F w p ls) {r : Nat} (hr : r < ls.length) : ∃ b o, p = some ⟨b, o, none⟩ := by
  obtain ⟨b, o, h1, _⟩ := h r hr
  exact ⟨b, o, h1⟩
theorem Tb.txs {w : World} {v : Value} {ls : List (List Nat)} (h : Tb w v ls) : ∃ p c, v = .slice p ls.length c ∧ Txs (fun b => w.heap.size ≤ b) w p ls := by
  obtain ⟨g, gb, go, cap, A, C, hv, hc, hg, hr⟩ := h.form
  refine ⟨g, cap, hv, fun r hr' => ⟨gb, go, hg (by omega), ?_, A r, C r, (hr r hr').1, (hr r hr').2.1, (hr r hr').2.2.1, fun z hz h0 => ?_⟩⟩
  · have := World.block_lt_of_cell? _ _ (hr r hr').1
    show ¬ w.heap.size ≤ gb
    have e : gb < w.heap.size := this
    omega
  · obtain ⟨b', o', e', hc'⟩ := (hr r hr').2.1.cell 0 h0
    rw [hz] at e'
    cases e'
    have := World.block_lt_of_cell? _ _ hc'
    have e : b' < w.heap.size := this
    show ¬ w.heap.size ≤ b'
    omega
end Go.Proofs.YtmooddbhcccicaaGreatDoor

/- Where the next record stands: end. -/
namespace Go.Proofs.YtmooddbhcccicaaGreatDoor
set_option linter.unusedVariables false
set_option linter.unusedSimpArgs false
open Go.RowKit Go.Deep

theorem wrapCS {c s S : Nat} (h : S = c + s) (h2 : S ≤ 100000) : wrap64 ((c : Int) + (s : Int)) = (S : Int) := by unfold wrap64; omega
theorem wrapSK {S k E : Nat} (h : E = S - k) (h1 : k ≤ S) (h2 : S ≤ 100000) : wrap64 ((S : Int) - (k : Int)) = (E : Int) := by unfold wrap64; omega
theorem wrapMod {E s m : Nat} (h : m = E % s) (hs : 1 ≤ s) (hs2 : s ≤ 100000) : (E : Int).tmod (s : Int) = (m : Int) ∧ wrap64 (m : Int) = (m : Int) := by
  refine ⟨by rw [h, Int.tmod_eq_emod_of_nonneg (by omega)]; norm_cast, ?_⟩
  have := Nat.mod_lt E (show 0 < s by omega)
  unfold wrap64
  omega

set_option maxRecDepth 100000 in
set_option maxHeartbeats 1600000 in
theorem end_ok {w : World} {g bp s gf : Nat} {a b c e : Nat} {last : Int} {f k tt : Nat} (h : Wl w g bp s gf ⟨a, b, c, e⟩ last f k) (hs : 1 ≤ s ∧ s ≤ 8190) (hc : c < s) (hk : k = s - tt ∧ tt ≤ s) :
    Calls Tryz.prog 161 #[.pointer (some ⟨g, 0, none⟩)] w fun e9 w' => e9 = .returned (.int .i64 (((c + tt) % s : Nat) : Int)) ∧ Kp (fun _ => False) w w' := by
  obtain ⟨S, hS⟩ : ∃ S, S = c + s := ⟨_, rfl⟩
  obtain ⟨E, hE⟩ : ∃ E, E = S - k := ⟨_, rfl⟩
  obtain ⟨M, hM⟩ : ∃ M, M = E % s := ⟨_, rfl⟩
  have hEt : E = c + tt := by omega
  rw [← hEt, ← hM]
  have hs0 : ((s : Int) == 0) = false := by rw [beq_eq_false_iff_ne]; omega
  have hs1 : ¬ (s : Int) = 0 := by omega
  have o1 : S ≤ 100000 := by omega
  have o2 : k ≤ S := by omega
  have o3 : s ≤ 100000 := by omega
  have i1 := wrapI (wrapCS hS o1)
  have i2 := wrapI (wrapSK hE o2 o1)
  have w3 := (wrapMod hM hs.1 o3).1
  have w5 : (E : Int) % (s : Int) = (M : Int) := by rw [hM]; norm_cast
  have hsn : ¬ s = 0 := by omega
  have i4 := wrapI (wrapMod hM hs.1 o3).2
  clear o1 o2 o3
  obtain ⟨cap, l, hl, ho, hf⟩ := h.hp
  have v1 : w.cell? ⟨g, 1, none⟩ = some (.int .i64 (s : Int)) := hl.cell (j := 1) rfl
  have v4 : w.cell? ⟨g, 4, none⟩ = some (.int .i64 (c : Int)) := hl.cell (j := 4) rfl
  have HSS : Hid (∀ z, Kp (fun _ => False) w z → Kp (fun _ => False) w z ∧ z.cell? ⟨g, 1, none⟩ = some (.int .i64 (s : Int)) ∧ z.cell? ⟨g, 4, none⟩ = some (.int .i64 (c : Int))) := fun z kz => ⟨kz, kz.cellv v1 id, kz.cellv v4 id⟩
  have HR : Hid (∀ u, Kp (fun _ => False) w u → Calls Tryz.prog 82 #[.pointer (some ⟨g, 0, none⟩)] u fun e9 w' => e9 = .returned (.int .i64 (k : Int)) ∧ w' = u) := fun u ku => room_ok (h.keep ku id id)
  clear h hs hc hk hS hE hM hEt hl ho hf v1 v4
  go_enter Tryz.func161, Tryz.ntmps161
  go_upto_region 1 with fail
  have kd : Kp (fun _ => False) w w.drew := (Kp.refl _ _).drew
  go_region_held3 (fun z => Kp (fun _ => False) w z ∧ z.cell? ⟨g, 1, none⟩ = some (.int .i64 (s : Int)) ∧ z.cell? ⟨g, 4, none⟩ = some (.int .i64 (c : Int)))
    (first
      | exact HSS.out _ kd)
    (first
      | (go_at_call 82; refine (HR.out _ kd).mono ?_; rintro e9 w9 ⟨rfl, rfl⟩))
  all_goals
    have HKd : Hid (Kp (fun _ => False) w w.drew) := kd
    clear HSS HR kd
    go_simp
    go_wp2
    go_ret
    exact ⟨rfl, HKd.out⟩
end Go.Proofs.YtmooddbhcccicaaGreatDoor
