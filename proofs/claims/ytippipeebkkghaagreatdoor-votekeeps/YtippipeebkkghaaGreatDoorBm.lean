/- A log and its plate as one: what each call does to it. -/
import Derived.Test.YtippipeebkkghaaGreatDoorBl
import Derived.Test.YtippipeebkkghaaGreatDoorBh
import Derived.Test.YtippipeebkkghaaGreatDoorBe
namespace Go.Proofs.YtippipeebkkghaaGreatDoor
set_option linter.unusedVariables false
set_option linter.unusedSimpArgs false
open Go.RowKit Go.Deep

/-- where a log lies: its own blocks are others, and none is the table's -/
structure Lp (g bp d m gf : Nat) : Prop where
  gd : g ≠ d
  gm : g ≠ m
  bg : bp ≠ g
  fd : gf ≠ d
  fm : gf ≠ m
  bf : bp ≠ gf
  tg : ¬ 0 = g
  tf : ¬ 0 = gf
  td : ¬ 0 = d
  tm : ¬ 0 = m
/-- a log with records, of which the first y are durable -/
structure Lg (w : World) (g bp d m gf s q a b c e lt y : Nat) (recs : List (List Nat)) (dur : List Nat) (T : Nat → Option (List Nat)) : Prop where
  pt : Pt w bp d m (2 + s) q dur T
  wl : Wl w g bp s gf ⟨a, b, c, e⟩ lt (c + totW recs) (s - totW recs)
  lg : LogN (nowOf dur T) s a b c e recs
  dw : DirtW dur T
  hq : q ≤ totW recs
  hl : lt + 1 = e + recs.length
  s1 : 4 ≤ s
  cs : c < s
  a1 : 1 ≤ a ∧ a ≤ 1152921504606846976
  b1 : 1 ≤ b ∧ b ≤ 1152921504606846976
  e1 : 1 ≤ e ∧ e + s < 1152921504606846976
  lp : Lp g bp d m gf
  yl : y ≤ recs.length
  ys : ∀ t, t < totW (recs.take y) → T (2 + (c + t) % s) = none
section
variable {w : World} {g bp d m gf s q a b c e lt y : Nat} {recs : List (List Nat)} {dur : List Nat} {T : Nat → Option (List Nat)}
theorem Lg.s2 (h : Lg w g bp d m gf s q a b c e lt y recs dur T) : s ≤ 8190 := by have := h.pt.n2; omega
theorem Lg.keep (h : Lg w g bp d m gf s q a b c e lt y recs dur T) {S : Nat → Prop} {w' : World} (k : Kp S w w') (hg : ¬ S g) (hb : ¬ S bp) (hd : ¬ S d) (hm : ¬ S m) (hf : ¬ S gf) : Lg w' g bp d m gf s q a b c e lt y recs dur T :=
  { h with pt := h.pt.keep k hb hd hm, wl := h.wl.keep k hg hf }
theorem Lg.keep0 (h : Lg w g bp d m gf s q a b c e lt y recs dur T) {w' : World} (k : Kp (fun _ => False) w w') : Lg w' g bp d m gf s q a b c e lt y recs dur T := h.keep k id id id id id
theorem Lg.bounds (h : Lg w g bp d m gf s q a b c e lt y recs dur T) : totW recs ≤ s ∧ s ≤ 8190 ∧ recs.length ≤ totW recs ∧ q ≤ 8190 ∧ lt < 1152921504606846976 := by
  have h1 := h.lg.fits
  have h2 := h.s2
  have h3 := h.lg.fine.len
  have h4 := h.hq
  have h5 := h.hl
  have h6 := h.e1
  exact ⟨h1, h2, h3, by omega, by omega⟩
/-- the blocks of a log -/
theorem Lg.blk (h : Lg w g bp d m gf s q a b c e lt y recs dur T) : g < w.heap.size ∧ bp < w.heap.size ∧ d < w.heap.size ∧ m < w.heap.size ∧ gf < w.heap.size := ⟨h.wl.gl, h.pt.lt, h.pt.row.lt, h.pt.mp.lt, h.wl.fl⟩

/-- what Append answers -/
def ApRes (w w' : World) (g bp d m gf s a b c e lt y : Nat) (recs : List (List Nat)) (dur : List Nat) (ys : List Nat) (e9 : Ending) : Prop :=
  (¬ (1 ≤ ys.length ∧ ys.length ≤ 2000) ∧ e9 = .returned (.tuple #[.int .i64 0, .int .i64 1]) ∧ w' = w) ∨
  ((1 ≤ ys.length ∧ ys.length ≤ 2000) ∧ s < totW recs + needW ys ∧ e9 = .returned (.tuple #[.int .i64 0, .int .i64 4]) ∧ w' = w) ∨
  ((1 ≤ ys.length ∧ ys.length ≤ 2000) ∧ totW recs + needW ys ≤ s ∧ e9 = .returned (.tuple #[.int .i64 ((lt + 1 : Nat) : Int), .int .i64 0]) ∧ Kp (fun x => x = m ∨ x = g ∨ x = gf) w w' ∧ ∃ q' T', Lg w' g bp d m gf s q' a b c e (lt + 1) y (recs ++ [ys]) dur T' ∧ (∀ t, t < totW recs → T' (2 + (c + t) % s) = T (2 + (c + t) % s)) ∧ (∀ j, j < needW ys → ∃ xs, T' (2 + (c + totW recs + j) % s) = some xs))
end

theorem lg_append {w : World} {g bp d m gf s q a b c e lt y : Nat} {recs : List (List Nat)} {dur : List Nat} {T : Nat → Option (List Nat)} (h : Lg w g bp d m gf s q a b c e lt y recs dur T) (p : Option Addr) (n cap : Nat) (ys : List Nat) (hr : Rb w p n ys) (hc : n ≤ cap) (hb : ∀ z, p = some z → 1 ≤ n → ¬ z.block = m ∧ ¬ z.block = g ∧ ¬ z.block = gf) (ht : Turns w) :
    Calls Tryz.prog 86 #[.pointer (some ⟨g, 0, none⟩), .slice p n cap] w fun e9 w' => ApRes (T := T) w w' g bp d m gf s a b c e lt y recs dur ys e9 := by
  obtain ⟨z1, z2, z3, z4, z5⟩ := h.bounds
  have hlen := hr.len
  have hcs := h.cs
  by_cases hfit : 1 ≤ n ∧ n ≤ 2000
  · by_cases hroom : totW recs + needW ys ≤ s
    · obtain ⟨bb, o, rfl, _⟩ := hr.pt (by omega)
      obtain ⟨hb1, hb2, hb3⟩ := hb _ rfl hfit.1
      refine (append_put (K := needW ys) h.pt (by omega) ⟨rfl, by have := h.s1; omega⟩ h.wl (by omega) ⟨by unfold needW; rw [hlen], hfit.2, hc⟩ hfit.1 hr (by omega) (by omega) (by omega) ⟨h.lp.gd, h.lp.gm, h.lp.bg, h.lp.fd, h.lp.fm, h.lp.bf, hb1, hb2, hb3, fun e => h.lp.tg e.symm, fun e => h.lp.tf e.symm, fun e => h.lp.tm e.symm⟩ ht).mono ?_
      rintro e9 w' ⟨rfl, k, p', l'⟩
      have hen : lt + 1 = e + recs.length := h.hl
      have hput := h.lg.put (ys := ys) (by have := h.s1; omega) ⟨by omega, by omega, hr.byte⟩ hroom
      have hdw := h.dw.put (ys := ys) h.lg (by have := h.s1; omega) hroom
      have hat : ∀ t, t < totW recs → wrT T s (c + totW recs) (e + recs.length) ys (needW ys) (needW ys) (2 + (c + t) % s) = T (2 + (c + t) % s) := fun t ht' => (wrT_at (needW ys) (by omega)).2 _ (fun j hj he => by
        have := mod_inj (s := s) (e := c) (i := t) (j := totW recs + j) (by omega) (by omega) (by rw [← Nat.add_assoc]; omega)
        omega)
      rw [hen] at p'
      refine Or.inr (Or.inr ⟨by omega, hroom, rfl, k, _, _, ⟨p', ?_, hput, hdw, ?_, ?_, h.s1, h.cs, h.a1, h.b1, h.e1, h.lp, ?_, ?_⟩, hat, fun j hj => ⟨_, (wrT_at (needW ys) (by omega)).1 j hj⟩⟩)
      · rw [totW_app, totW_one, ← Nat.add_assoc, ← Nat.sub_sub]
        exact l'
      · rw [totW_app, totW_one]; have := h.hq; omega
      · rw [List.length_append]; show lt + 1 + 1 = e + (recs.length + 1); omega
      · rw [List.length_append]; have := h.yl; omega
      · intro t ht'
        have hy := h.yl
        rw [List.take_append_of_le_length hy] at ht'
        have := totW_take recs y
        rw [hat t (by omega)]
        exact h.ys t ht'
    · refine (append_full h.wl p n cap (needW ys) hfit (by unfold needW; rw [hlen]) (by omega)).mono ?_
      rintro e9 w' ⟨rfl, rfl⟩
      exact Or.inr (Or.inl ⟨by omega, by omega, rfl, rfl⟩)
  · refine (append_arg h.wl p n cap hfit).mono ?_
    rintro e9 w' ⟨rfl, rfl⟩
    exact Or.inl ⟨by omega, rfl, rfl⟩

theorem lg_sync {w : World} {g bp d m gf s q a b c e lt y : Nat} {recs : List (List Nat)} {dur : List Nat} {T : Nat → Option (List Nat)} (h : Lg w g bp d m gf s q a b c e lt y recs dur T) :
    Calls Tryz.prog 45 #[.pointer (some ⟨g, 0, none⟩)] w fun e9 w' => e9 = .returned (.int .i64 0) ∧ Kp (fun x => x = d ∨ x = m) w w' ∧ Lg w' g bp d m gf s 0 a b c e lt recs.length recs (durAll dur T (2 + s)) (fun _ => none) := by
  refine (wsync_ok h.pt h.wl ⟨h.lp.gd, h.lp.gm, h.lp.fd, h.lp.fm⟩).mono ?_
  rintro e9 w' ⟨rfl, k, p', l'⟩
  refine ⟨rfl, k, ⟨p', l', h.lg.congr (by have := h.s1; omega) (fun i hi => nowOf_dur h.pt.len h.pt.tlen hi), DirtW.none _, Nat.zero_le _, h.hl, h.s1, h.cs, h.a1, h.b1, h.e1, h.lp, Nat.le_refl _, fun _ _ => rfl⟩⟩

/-- a plate behind a crash, whose log had these records, of which the first y were durable -/
structure Lc (w : World) (bp d m s q a b c e y : Nat) (recs : List (List Nat)) (dur : List Nat) (T : Nat → Option (List Nat)) (rdW : Nat → List Nat) : Prop where
  pt : Pt w bp d m (2 + s) q dur T
  af : Aft (nowOf dur T) rdW s a b c e recs
  hq : q ≤ s
  s1 : 4 ≤ s
  cs : c < s
  a1 : 1 ≤ a ∧ a ≤ 1152921504606846976
  b1 : 1 ≤ b ∧ b ≤ 1152921504606846976
  e1 : 1 ≤ e ∧ e + s < 1152921504606846976
  td : ¬ 0 = d ∧ ¬ 0 = m
  yl : y ≤ recs.length
  ys : ∀ t, t < totW (recs.take y) → nowOf dur T (2 + (c + t) % s) = rdW (2 + (c + t) % s)
theorem Lg.lc {w : World} {g bp d m gf s q a b c e lt y : Nat} {recs : List (List Nat)} {dur : List Nat} {T : Nat → Option (List Nat)} (h : Lg w g bp d m gf s q a b c e lt y recs dur T) : Lc w bp d m s q a b c e recs.length recs dur T (nowOf dur T) :=
  ⟨h.pt, Aft.same h.lg, by have := h.bounds; have := h.hq; omega, h.s1, h.cs, h.a1, h.b1, h.e1, ⟨h.lp.td, h.lp.tm⟩, Nat.le_refl _, fun _ _ => rfl⟩
theorem Lc.keep {w w' : World} {bp d m s q a b c e y : Nat} {recs : List (List Nat)} {dur : List Nat} {T : Nat → Option (List Nat)} {rdW : Nat → List Nat} (h : Lc w bp d m s q a b c e y recs dur T rdW) {S : Nat → Prop} (k : Kp S w w') (hb : ¬ S bp) (hd : ¬ S d) (hm : ¬ S m) : Lc w' bp d m s q a b c e y recs dur T rdW :=
  { h with pt := h.pt.keep k hb hd hm }

theorem lg_crash {w : World} {g bp d m gf s q a b c e lt y : Nat} {recs : List (List Nat)} {dur : List Nat} {T : Nat → Option (List Nat)} (h : Lg w g bp d m gf s q a b c e lt y recs dur T) (p : Option Addr) (cap : Nat) (zs : List Int) (i n : Int) (hz : ∀ w', Kp (fun x => x = d) w w' → Rz w' p zs) (hzw : ∀ z ∈ zs, (Lit.int .i64 z).wf = true) (hw : (Lit.int .i64 i).wf = true) (hl : (zs.length : Int) ≤ 9223372036854775807) :
    Calls Tryz.prog 7 #[.pointer (some ⟨bp, 0, none⟩), .slice p zs.length cap, .int .i64 i, .int .i64 n] w fun e9 w' => e9 = .returned (.int .i64 0) ∧ Kp (fun x => x = d ∨ x = m) w w' ∧ Lc w' bp d m s 0 a b c e y recs (crashD dur T zs i n) (fun _ => none) (nowOf dur T) ∧ (zs = [] → torn64 n ≤ 63 → ∀ j xs, j < 2 + s → T j = some xs → Bad (nowOf (crashD dur T zs i n) (fun _ => none) j)) := by
  refine (crash_ok h.pt p cap zs i n hz hzw hw hl).mono ?_
  rintro e9 w' ⟨rfl, k, p'⟩
  have hs := h.s1
  obtain ⟨h1, h2, h3⟩ := Aft.crash (zs := zs) (i := i) (x := n) h.lg h.dw rfl (by omega) h.pt.len h.pt.tlen
  refine ⟨rfl, k, ⟨p', h1, Nat.zero_le _, h.s1, h.cs, h.a1, h.b1, h.e1, ⟨h.lp.td, h.lp.tm⟩, h.yl, fun t ht => h2 _ ?_ (h.ys t ht)⟩, h3⟩
  have := Nat.mod_lt (c + t) (show 0 < s by omega)
  omega

/-- how many records are told: at least those that were durable -/
theorem lc_open {w : World} {bp d m s q a b c e y : Nat} {recs : List (List Nat)} {dur : List Nat} {T : Nat → Option (List Nat)} {rdW : Nat → List Nat} (h : Lc w bp d m s q a b c e y recs dur T rdW) (ha : a < 1152921504606846976) (hb : b < 1152921504606846976) (ht : Turns w) :
    ∃ k, y ≤ k ∧ k ≤ recs.length ∧ (∀ t, t < totW (recs.take k) → nowOf dur T (2 + (c + t) % s) = rdW (2 + (c + t) % s)) ∧ Calls Tryz.prog 29 #[.pointer (some ⟨bp, 0, none⟩)] w fun e9 w' => ∃ g gf v dur2, e9 = .returned (.tuple #[.pointer (some ⟨g, 0, none⟩), v, .int .i64 0]) ∧ Kp (fun x => x = d ∨ x = m) w w' ∧ w.heap.size ≤ g ∧ w.heap.size ≤ gf ∧ Rw w' w.heap.size v (recs.take k) ∧ Lg w' g bp d m gf s 0 (a + 1) (b + 1) c e (e - 1 + (recs.take k).length) (recs.take k).length (recs.take k) dur2 (fun _ => none) := by
  have hs := h.s1
  have hs2 : s ≤ 8190 := by have := h.pt.n2; omega
  have he := h.e1
  have hcs := h.cs
  have ha1 := h.a1
  have hb1 := h.b1
  have hq := h.hq
  obtain ⟨k, hk, hres, hsame, hmax⟩ := h.af.read (by omega) (by omega)
  refine ⟨k, hmax y h.yl h.ys, hk, hsame, ?_⟩
  have htl : (0 : Nat) < w.heap.size := World.block_lt_of_cell? _ _ (ht 0 (by decide))
  refine (OpenAny_ok h.pt (by omega) rfl (by omega) h.td a b c e (h.af.newest ha1 hb1 hcs (by omega) ⟨by omega, by omega⟩) ⟨by omega, by omega⟩ (by omega) (by omega) ⟨by omega, by omega⟩ ht).mono ?_
  rintro e9 w' ⟨g, gf, v, rfl, k1, hg, hgf, rw1, ⟨dur2, X, p2, hX, hn⟩, l1⟩
  rw [hres] at rw1 hX l1
  have hdl := h.pt.row.lt
  have hml := h.pt.mp.lt
  have hbl := h.pt.lt
  refine ⟨g, gf, v, dur2, rfl, k1, hg, hgf, rw1, ⟨p2, l1, h.af.opened ha1 hb1 hcs (by omega) ⟨by omega, by omega⟩ hk hsame hX hn, DirtW.none _, Nat.zero_le _, by omega, hs, hcs, ⟨by omega, by omega⟩, ⟨by omega, by omega⟩, he, ⟨by omega, by omega, by omega, by omega, by omega, by omega, by omega, by omega, h.td.1, h.td.2⟩, Nat.le_refl _, fun _ _ => rfl⟩⟩
end Go.Proofs.YtippipeebkkghaaGreatDoor
