/- Records in the place of all others (plain); a record that is put. -/
import Derived.Test.YtippipeebkkghaaGreatDoorBm
import Derived.Test.YtippipeebkkghaaGreatDoorFy
namespace Go.Proofs.YtippipeebkkghaaGreatDoor
set_option linter.unusedVariables false
set_option linter.unusedSimpArgs false
open Go.RowKit Go.Deep

theorem RingW.suffix {rd : Nat → List Nat} {s : Nat} : ∀ {c e : Nat} {l1 l2 : List (List Nat)}, RingW rd s c e (l1 ++ l2) → RingW rd s (c + totW l1) (e + l1.length) l2
  | c, e, [], l2, h => h
  | c, e, ys :: l1, l2, ⟨_, h⟩ => by
    have := RingW.suffix h
    show RingW rd s (c + (needW ys + totW l1)) (e + (l1.length + 1)) l2
    rw [← Nat.add_assoc, show e + (l1.length + 1) = e + 1 + l1.length by omega]
    exact this
theorem RingW.shift {rd : Nat → List Nat} {s : Nat} : ∀ {c c' e : Nat} {l : List (List Nat)}, (∀ t, (c + t) % s = (c' + t) % s) → RingW rd s c e l → RingW rd s c' e l
  | c, c', e, [], hc, h => trivial
  | c, c', e, ys :: l, hc, ⟨h1, h2⟩ => ⟨fun j hj => by rw [← hc j]; exact h1 j hj, RingW.shift (fun t => by rw [Nat.add_assoc, Nat.add_assoc]; exact hc _) h2⟩
/-- records in the place of all others: X is the plate behind the new head, now it behind cleaning -/
theorem LogN.replaced {dur : List Nat} {now1 now : Nat → List Nat} {s a b c e : Nat} {recs l : List (List Nat)} (h : LogN now1 s a b c e (recs ++ l)) (ha : 1 ≤ a ∧ a < 1152921504606846976) (hb : 1 ≤ b ∧ b ≤ 1152921504606846976) (hc : c < s) (hs : s ≤ 8192) (he : 1 ≤ e ∧ e ≤ 1152921504606846976) (hX : ∀ i, i < 2 + s → nowOf dur (fun _ => none) i = if i = (a + 1) % 2 then hdB (a + 1) b ((c + totW recs) % s) (e + recs.length) else now1 i) (hn : Cln dur (fun _ => none) s ((c + totW recs) % s + totW l) (s - totW l) (2 + s) now) : LogN now s (a + 1) b ((c + totW recs) % s) (e + recs.length) l := by
  have hft := h.fits
  rw [totW_app] at hft
  obtain ⟨C, hC⟩ : ∃ C, C = (c + totW recs) % s := ⟨_, rfl⟩
  have hmod : ∀ t, (C + t) % s = (c + totW recs + t) % s := fun t => by rw [hC, Nat.mod_add_mod]
  rw [← hC] at hX hn ⊢
  have hlt : ∀ t, 2 + (C + t) % s < 2 + s := fun t => by have := Nat.mod_lt (C + t) (show 0 < s by omega); omega
  have hhd : ∀ i, i < 2 → now i = nowOf dur (fun _ => none) i := fun i hi => (hn i (by omega)).2.2 (fun t ht => by omega)
  refine ⟨by rw [hhd _ (by omega), hX _ (by omega), if_pos rfl], fun i hi hne hok => ?_, ?_, by omega, fun t h1 h2 => ?_, fun ys hy => h.fine ys (List.mem_append_right _ hy)⟩
  · have hia : i = a % 2 := by omega
    have : now i = hdB a b c e := by rw [hhd i hi, hX i (by omega), if_neg hne, hia]; exact h.hd
    rw [this, sayH_hdB (by omega) (by omega) (by omega) (by omega)]
    show (a : Int) < ((a + 1 : Nat) : Int)
    omega
  · have hr := h.ring.suffix
    refine RingW.congr (RingW.shift (c' := C) (fun t => (hmod t).symm) hr) fun t ht => ?_
    have := (hn _ (hlt t)).2.2 (fun t' ht' heq => by
      have h9 := mod_inj (s := s) (e := C) (i := t) (j := totW l + t') (by omega) (by omega) (by rw [← Nat.add_assoc]; omega)
      omega)
    rw [this, hX _ (hlt t), if_neg (by omega)]
  · refine (hn _ (hlt t)).2.1 ⟨t - totW l, by omega, ?_⟩
    rw [show C + totW l + (t - totW l) = C + t by omega]

theorem Lg.putted {w w' : World} {g bp d m gf s q a b c e lt y : Nat} {recs : List (List Nat)} {dur : List Nat} {T : Nat → Option (List Nat)} (h : Lg w g bp d m gf s q a b c e lt y recs dur T) {ys : List Nat} (hfit : 1 ≤ ys.length ∧ ys.length ≤ 2000 ∧ ∀ x ∈ ys, x < 256) (hroom : totW recs + needW ys ≤ s) (p' : Pt w' bp d m (2 + s) (q + needW ys) dur (wrT T s (c + totW recs) (lt + 1) ys (needW ys) (needW ys))) (l' : Wl w' g bp s gf ⟨a, b, c, e⟩ ((lt + 1 : Nat) : Int) (c + totW recs + needW ys) (s - totW recs - needW ys)) : Lg w' g bp d m gf s (q + needW ys) a b c e (lt + 1) y (recs ++ [ys]) dur (wrT T s (c + totW recs) (lt + 1) ys (needW ys) (needW ys)) := by
  have hen : lt + 1 = e + recs.length := h.hl
  have hs1 := h.s1
  have hq := h.hq
  have hy := h.yl
  have hput := h.lg.put (ys := ys) (by omega) hfit hroom
  have hdw := h.dw.put (ys := ys) h.lg (by omega) hroom
  rw [← hen] at hput hdw
  refine ⟨p', ?_, hput, hdw, ?_, ?_, h.s1, h.cs, h.a1, h.b1, h.e1, h.lp, ?_, ?_⟩
  · rw [totW_app, totW_one, ← Nat.add_assoc, ← Nat.sub_sub]
    exact l'
  · rw [totW_app, totW_one]; omega
  · rw [List.length_append]; show lt + 1 + 1 = e + (recs.length + 1); omega
  · rw [List.length_append]; omega
  · intro t ht'
    rw [List.take_append_of_le_length hy] at ht'
    have := totW_take recs y
    rw [(wrT_at (needW ys) (by omega)).2 _ (fun j hj he => by
      have := mod_inj (s := s) (e := c) (i := t) (j := totW recs + j) (by omega) (by omega) (by rw [← Nat.add_assoc]; omega)
      omega)]
    exact h.ys t ht'
theorem lg_put {w : World} {g bp d m gf s q a b c e lt y : Nat} {recs : List (List Nat)} {dur : List Nat} {T : Nat → Option (List Nat)} (h : Lg w g bp d m gf s q a b c e lt y recs dur T) (p : Option Addr) (n cap : Nat) (ys : List Nat) (hr : Rb w p n ys) (hn : 1 ≤ n ∧ n ≤ 2000) (hc : n ≤ cap) (hroom : totW recs + needW ys ≤ s) (hb : ∀ z, p = some z → 1 ≤ n → ¬ z.block = m ∧ ¬ z.block = g ∧ ¬ z.block = gf) (ht : Turns w) :
    Calls Tryz.prog 128 #[.pointer (some ⟨g, 0, none⟩), .slice p n cap] w fun e9 w' => e9 = .returned .nilIface ∧ Kp (fun x => x = m ∨ x = g ∨ x = gf) w w' ∧ ∃ q' T', Lg w' g bp d m gf s q' a b c e (lt + 1) y (recs ++ [ys]) dur T' := by
  obtain ⟨z1, z2, z3, z4, z5⟩ := h.bounds
  have hlen := hr.len
  have hcs := h.cs
  have hs1 := h.s1
  obtain ⟨bb, o, rfl, _⟩ := hr.pt (by omega)
  obtain ⟨hb1, hb2, hb3⟩ := hb _ rfl hn.1
  refine (put_ok (K := needW ys) h.pt (by omega) ⟨rfl, by omega⟩ h.wl (by omega) ⟨by unfold needW; rw [hlen], hn.2, hc⟩ hn.1 hr (by omega) (by omega) (by omega) ⟨h.lp.gd, h.lp.gm, h.lp.bg, h.lp.fd, h.lp.fm, h.lp.bf, hb1, hb2, hb3, fun e => h.lp.tg e.symm, fun e => h.lp.tf e.symm, fun e => h.lp.tm e.symm⟩ ht).mono ?_
  rintro e9 w' ⟨rfl, k, p', l'⟩
  exact ⟨rfl, k, _, _, h.putted ⟨by omega, by omega, hr.byte⟩ hroom p' l'⟩

/-- texts that lie apart from F -/
def Txs (F : Nat → Prop) (w : World) (p : Option Addr) (ls : List (List Nat)) : Prop := ∀ r, r < ls.length → ∃ b o, p = some ⟨b, o, none⟩ ∧ ¬ F b ∧ ∃ pp c, w.cell? ⟨b, o + r, none⟩ = some (.slice pp (ls.getD r []).length c) ∧ Rb w pp (ls.getD r []).length (ls.getD r []) ∧ (ls.getD r []).length ≤ c ∧ ∀ z, pp = some z → 0 < (ls.getD r []).length → ¬ F z.block
theorem Txs.keep {F : Nat → Prop} {w w' : World} {p : Option Addr} {ls : List (List Nat)} (h : Txs F w p ls) (k : Kp F w w') : Txs F w' p ls := fun r hr => by
  obtain ⟨b, o, h1, h2, pp, c, h3, h4, h5, h6⟩ := h r hr
  refine ⟨b, o, h1, h2, pp, c, k.cellv h3 h2, ?_, h5, h6⟩
  by_cases h0 : (ls.getD r []).length = 0
  · exact ⟨h4.len, h4.byte, fun j hj => by omega⟩
  · exact h4.keep k (fun a ha _ => h6 a ha (by omega))
theorem Txs.mono {F F' : Nat → Prop} {w : World} {p : Option Addr} {ls : List (List Nat)} (h : Txs F w p ls) (hf : ∀ b, F' b → F b) : Txs F' w p ls := fun r hr => by
  obtain ⟨b, o, h1, h2, pp, c, h3, h4, h5, h6⟩ := h r hr
  exact ⟨b, o, h1, fun e => h2 (hf b e), pp, c, h3, h4, h5, fun z hz h0 e => h6 z hz h0 (hf _ e)⟩
theorem Txs.len {F : Nat → Prop} {w : World} {p : Option Addr} {ls : List (List Nat)} (h : Txs F w p ls) {r : Nat} (hr : r < ls.length) : ∃ b o, p = some ⟨b, o, none⟩ := by
  obtain ⟨b, o, h1, _⟩ := h r hr
  exact ⟨b, o, h1⟩
theorem Tb.txs {w : World} {v : Value} {ls : List (List Nat)} (h : Tb w v ls) : ∃ p c, v = .slice p ls.length c ∧ Txs (fun b => w.heap.size ≤ b) w p ls := by
  obtain ⟨g, gb, go, cap, A, C, hv, hc, hg, hr⟩ := h.form
  refine ⟨g, cap, hv, fun r hr' => ⟨gb, go, hg (by omega), ?_, A r, C r, (hr r hr').1, (hr r hr').2.1, (hr r hr').2.2.1, fun z hz h0 => ?_⟩⟩
  · have := World.block_lt_of_cell? _ _ (hr r hr').1
    show ¬ w.heap.size ≤ gb
    have e : gb < w.heap.size := this
    omega
  · obtain ⟨b', o', e', hc'⟩ := (hr r hr').2.1.cell 0 h0
    rw [hz] at e'
    cases e'
    have := World.block_lt_of_cell? _ _ hc'
    have e : b' < w.heap.size := this
    show ¬ w.heap.size ≤ b'
    omega
end Go.Proofs.YtippipeebkkghaaGreatDoor
