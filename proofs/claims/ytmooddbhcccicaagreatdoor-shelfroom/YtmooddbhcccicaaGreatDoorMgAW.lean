/- Texts of this proof, joined: Bh, Be, Bm. -/
import Derived.Test.YtmooddbhcccicaaGreatDoorMgAO
import Derived.Test.YtmooddbhcccicaaGreatDoorMgAT
import Derived.Test.YtmooddbhcccicaaGreatDoorMgAV
import Derived.Test.YtmooddbhcccicaaGreatDoorMgAM
import Derived.Test.YtmooddbhcccicaaGreatDoorMgAU
/- A log's plate behind a crash, and behind an opening (plain). -/
namespace Go.Proofs.YtmooddbhcccicaaGreatDoor
set_option linter.unusedVariables false
set_option linter.unusedSimpArgs false
open Go.RowKit Go.Deep

/-- what is read behind a crash: each sector of the ring is as it was written, or is none of a record's -/
structure Aft (rd rdW : Nat → List Nat) (s a b c e : Nat) (recs : List (List Nat)) : Prop where
  log : LogN rdW s a b c e recs
  hds : ∀ i, i < 2 → rd i = rdW i
  ring : ∀ t, t < s → rd (2 + (c + t) % s) = rdW (2 + (c + t) % s) ∨ Bad (rd (2 + (c + t) % s))
theorem Aft.same {rd : Nat → List Nat} {s a b c e : Nat} {recs : List (List Nat)} (h : LogN rd s a b c e recs) : Aft rd rd s a b c e recs := ⟨h, fun _ _ => rfl, fun _ _ => Or.inl rfl⟩
theorem Aft.newest {dur : List Nat} {T : Nat → Option (List Nat)} {rdW : Nat → List Nat} {s a b c e : Nat} {recs : List (List Nat)} (h : Aft (nowOf dur T) rdW s a b c e recs) (ha : 1 ≤ a ∧ a ≤ 1152921504606846976) (hb : 1 ≤ b ∧ b ≤ 1152921504606846976) (hc : c < s) (hs : s ≤ 8192) (he : 1 ≤ e ∧ e ≤ 1152921504606846976) : newH dur T s 2 = ⟨a, b, c, e⟩ :=
  newH_of ha hb hc hs he (by rw [h.hds _ (by omega)]; exact h.log.hd) (fun i hi hne => by rw [h.hds i hi]; exact h.log.oth i hi hne)
theorem Aft.read {rd rdW : Nat → List Nat} {s a b c e : Nat} {recs : List (List Nat)} (h : Aft rd rdW s a b c e recs) (hs : s ≤ 8192) (he : e ≤ 1152921504606846976) : ∃ m, m ≤ recs.length ∧ recsW rd s c e (s + 1) 0 [] = (recs.take m, totW (recs.take m)) ∧ (∀ t, t < totW (recs.take m) → rd (2 + (c + t) % s) = rdW (2 + (c + t) % s)) ∧ ∀ m', m' ≤ recs.length → (∀ t, t < totW (recs.take m') → rd (2 + (c + t) % s) = rdW (2 + (c + t) % s)) → m' ≤ m := by
  have hl := h.log.fine.len
  have hf := h.log.fits
  obtain ⟨m, h1, h2, h4, h3⟩ := recsW_read (rd := rd) (rdW := rdW) (s := s) (c := c) (e := e) recs (s + 1) 0 [] h.log.fine (by rw [Nat.add_zero]; exact h.log.ring) (by omega) (by omega) (by show e + 0 + recs.length < _; omega) (fun t _ ht => h.ring t (by omega)) (fun t ht1 ht2 => by
    rcases h.ring t ht2 with hr | hr
    · rw [hr, h.log.free t (by omega) ht2]; exact bad_nou
    · exact hr)
  refine ⟨m, h1, ?_, fun t ht => h4 t (Nat.zero_le _) (by omega), fun m' hm' hk => h3 m' hm' (fun t _ ht => hk t (by omega))⟩
  rw [h2, List.nil_append, Nat.zero_add]
theorem totW_take (recs : List (List Nat)) (m : Nat) : totW (recs.take m) ≤ totW recs := by
  have := totW_app (recs.take m) (recs.drop m)
  rw [List.take_append_drop] at this
  omega
theorem RingW.take {rd : Nat → List Nat} {s : Nat} : ∀ {c e : Nat} {recs : List (List Nat)} (m : Nat), RingW rd s c e recs → RingW rd s c e (recs.take m)
  | c, e, recs, 0, h => trivial
  | c, e, [], m + 1, h => trivial
  | c, e, ys :: l, m + 1, ⟨h1, h2⟩ => ⟨h1, RingW.take m h2⟩
/-- what the plate has when it was opened: X is its sectors behind cleaning, now those behind the new head -/
theorem Aft.opened {dur : List Nat} {T : Nat → Option (List Nat)} {rdW X now : Nat → List Nat} {s a b c e : Nat} {recs : List (List Nat)} (h : Aft (nowOf dur T) rdW s a b c e recs) (ha : 1 ≤ a ∧ a ≤ 1152921504606846976) (hb : 1 ≤ b ∧ b ≤ 1152921504606846976) (hc : c < s) (hs : s ≤ 8192) (he : 1 ≤ e ∧ e ≤ 1152921504606846976) {m : Nat} (hm : m ≤ recs.length) (hk : ∀ t, t < totW (recs.take m) → nowOf dur T (2 + (c + t) % s) = rdW (2 + (c + t) % s)) (hX : Cln dur T s (c + totW (recs.take m)) (s - totW (recs.take m)) (2 + s) X) (hn : ∀ i, i < 2 + s → now i = if i = (a + 1) % 2 then hdB (a + 1) (b + 1) c e else X i) : LogN now s (a + 1) (b + 1) c e (recs.take m) := by
  have htt := totW_take recs m
  have hft := h.log.fits
  have hX2 : ∀ i, i < 2 → X i = nowOf dur T i := fun i hi => (hX i (by omega)).2.2 (fun t ht => by omega)
  have hlt : ∀ t, 2 + (c + t) % s < 2 + s := fun t => by have := Nat.mod_lt (c + t) (show 0 < s by omega); omega
  have hnr : ∀ t, now (2 + (c + t) % s) = X (2 + (c + t) % s) := fun t => by rw [hn _ (hlt t), if_neg (by omega)]
  refine ⟨by rw [hn _ (by omega), if_pos rfl], fun i hi hne hok => ?_, ?_, by omega, fun t h1 h2 => ?_, fun ys hy => h.log.fine ys (List.mem_of_mem_take hy)⟩
  · have hia : i = a % 2 := by omega
    have : now i = hdB a b c e := by rw [hn i (by omega), if_neg hne, hX2 i hi, h.hds i hi, hia]; exact h.log.hd
    rw [this, sayH_hdB (by omega) (by omega) (by omega) (by omega)]
    show (a : Int) < ((a + 1 : Nat) : Int)
    omega
  · refine (RingW.take m h.log.ring).congr fun t ht => ?_
    rw [hnr t, ← hk t ht]
    refine (hX _ (hlt t)).2.2 fun t' ht' heq => ?_
    have := mod_inj (s := s) (e := c) (i := t) (j := totW (recs.take m) + t') (by omega) (by omega) (by rw [← Nat.add_assoc]; omega)
    omega
  · rw [hnr t]
    refine (hX _ (hlt t)).2.1 ⟨t - totW (recs.take m), by omega, ?_⟩
    rw [show c + totW (recs.take m) + (t - totW (recs.take m)) = c + t by omega]

/-- no sector of a record's is bad -/
theorem RingW.not_bad {rd : Nat → List Nat} {s : Nat} : ∀ {c e : Nat} {recs : List (List Nat)}, RingW rd s c e recs → e + recs.length < 9223372036854775808 → ∀ t, t < totW recs → ¬ Bad (rd (2 + (c + t) % s))
  | c, e, [], h, he, t, ht => absurd ht (Nat.not_lt_zero _)
  | c, e, ys :: l, ⟨h1, h2⟩, he, t, ht => by
    have he' : e + (l.length + 1) < 9223372036854775808 := he
    have ht' : t < needW ys + totW l := ht
    by_cases h : t < needW ys
    · intro hb
      rw [h1 t h] at hb
      have := (secJ_ok (u := e) (by omega) h).1
      rw [hb] at this
      cases this
    · have := RingW.not_bad h2 (by omega) (t - needW ys) (by omega)
      rw [show c + needW ys + (t - needW ys) = c + t by omega] at this
      exact this
/-- what is dirty stands on free sectors, which were noughts -/
def DirtW (dur : List Nat) (T : Nat → Option (List Nat)) : Prop := ∀ j xs, T j = some xs → 2 ≤ j ∧ secOf dur j = nouW 64
theorem DirtW.none (dur : List Nat) : DirtW dur (fun _ => Option.none) := fun j xs h => by cases h
theorem DirtW.put {dur : List Nat} {T : Nat → Option (List Nat)} {s a b c e : Nat} {recs : List (List Nat)} {ys : List Nat} (hD : DirtW dur T) (h : LogN (nowOf dur T) s a b c e recs) (hs : 1 ≤ s) (hf : totW recs + needW ys ≤ s) : DirtW dur (wrT T s (c + totW recs) (e + recs.length) ys (needW ys) (needW ys)) := by
  intro i xs hi
  obtain ⟨h1, h2⟩ := wrT_at (T := T) (s := s) (e := c + totW recs) (u := e + recs.length) (ys := ys) (K := needW ys) (needW ys) (by omega)
  by_cases hj : ∃ j, j < needW ys ∧ i = 2 + (c + totW recs + j) % s
  · obtain ⟨j, hj, rfl⟩ := hj
    refine ⟨by omega, ?_⟩
    cases hT : T (2 + (c + totW recs + j) % s) with
    | some zs => exact (hD _ zs hT).2
    | none =>
      have h9 := h.free (totW recs + j) (by omega) (by omega)
      rw [← Nat.add_assoc] at h9
      unfold nowOf at h9
      rw [hT] at h9
      exact h9
  · rw [h2 i (fun j hj' e => hj ⟨j, hj', e⟩)] at hi
    exact hD i xs hi
/-- behind a crash -/
theorem Aft.crash {dur : List Nat} {T : Nat → Option (List Nat)} {s a b c e n : Nat} {recs : List (List Nat)} {zs : List Int} {i x : Int} (h : LogN (nowOf dur T) s a b c e recs) (hD : DirtW dur T) (hn : n = 2 + s) (hs : 1 ≤ s) (hl : dur.length = n * 64) (hT : ∀ i xs, T i = some xs → xs.length = 64) : Aft (nowOf (crashD dur T zs i x) (fun _ => none)) (nowOf dur T) s a b c e recs ∧ (∀ j, j < n → T j = none → nowOf (crashD dur T zs i x) (fun _ => none) j = nowOf dur T j) ∧ (zs = [] → torn64 x ≤ 63 → ∀ j xs, j < n → T j = some xs → Bad (nowOf (crashD dur T zs i x) (fun _ => none) j)) := by
  have hj : ∀ j, j < n → nowOf (crashD dur T zs i x) (fun _ => none) j = if (j : Int) = i ∧ ¬ (j : Int) ∈ zs then mixS T j (torn64 x) (secOf dur j) else if (j : Int) ∈ zs then nowOf dur T j else secOf dur j := fun j hj => secOf_crash hl hj hT
  have h0 : ∀ j, j < n → T j = none → nowOf (crashD dur T zs i x) (fun _ => none) j = nowOf dur T j := fun j hjn hTj => by
    have e1 : nowOf dur T j = secOf dur j := by unfold nowOf; rw [hTj]; rfl
    rw [hj j hjn, e1]
    unfold mixS
    rw [hTj]
    split
    · rfl
    · split <;> rfl
  refine ⟨⟨h, fun j hj2 => ?_, fun t ht => ?_⟩, h0, fun hz ht j xs hjn hTj => ?_⟩
  · refine h0 j (by omega) ?_
    cases hTj : T j with
    | none => rfl
    | some xs => have := (hD j xs hTj).1; omega
  · have hlt : 2 + (c + t) % s < n := by have := Nat.mod_lt (c + t) (show 0 < s by omega); omega
    obtain ⟨j, hjj⟩ : ∃ j, j = 2 + (c + t) % s := ⟨_, rfl⟩
    rw [← hjj] at hlt ⊢
    cases hTj : T j with
    | none => exact Or.inl (h0 j hlt hTj)
    | some xs =>
      have hx := hT j xs hTj
      obtain ⟨_, hd⟩ := hD j xs hTj
      have e1 : nowOf dur T j = xs := by unfold nowOf; rw [hTj]; rfl
      rw [hj j hlt, e1]
      by_cases c1 : (j : Int) = i ∧ ¬ (j : Int) ∈ zs
      · rw [if_pos c1]
        unfold mixS
        rw [hTj, hd]
        by_cases h64 : torn64 x = 64
        · left
          show xs.take (torn64 x) ++ (nouW 64).drop (torn64 x) = xs
          rw [h64, List.take_of_length_le (by omega), List.drop_of_length_le (Nat.le_of_eq (nouW_len 64)), List.append_nil]
        · right
          exact bad_torn (by have := torn64_le x; omega) hx
      · rw [if_neg c1]
        by_cases c2 : (j : Int) ∈ zs
        · rw [if_pos c2]
          exact Or.inl rfl
        · rw [if_neg c2, hd]
          exact Or.inr bad_nou
  · have hx := hT j xs hTj
    obtain ⟨_, hd⟩ := hD j xs hTj
    rw [hj j hjn, hz]
    by_cases c1 : (j : Int) = i ∧ ¬ (j : Int) ∈ ([] : List Int)
    · rw [if_pos c1]
      unfold mixS
      rw [hTj, hd]
      exact bad_torn ht hx
    · rw [if_neg c1, if_neg (by simp), hd]
      exact bad_nou
end Go.Proofs.YtmooddbhcccicaaGreatDoor

/- Sync of a log. -/
namespace Go.Proofs.YtmooddbhcccicaaGreatDoor
set_option linter.unusedVariables false
set_option linter.unusedSimpArgs false
open Go.RowKit Go.Deep

set_option maxRecDepth 100000 in
set_option maxHeartbeats 800000 in
theorem wsync_ok {w : World} {g bp d m n q s gf e k : Nat} {dur : List Nat} {T : Nat → Option (List Nat)} {A : H4} {last : Int} (hP : Pt w bp d m n q dur T) (hW : Wl w g bp s gf A last e k) (hne : g ≠ d ∧ g ≠ m ∧ gf ≠ d ∧ gf ≠ m) :
    Calls Tryz.prog 50 #[.pointer (some ⟨g, 0, none⟩)] w fun e9 w' => e9 = .returned (.int .i64 0) ∧ Kp (fun x => x = d ∨ x = m) w w' ∧ Pt w' bp d m n 0 (durAll dur T n) (fun _ => none) ∧ Wl w' g bp s gf A last e k := by
  obtain ⟨capz, lz, ipz, frz⟩ := hW.ip
  have v0 : w.cell? ⟨g, 0, none⟩ = some (.pointer (some ⟨bp, 0, none⟩)) := ipz.lv.cell (j := 0) rfl
  have v1 : w.cell? ⟨g, 1, none⟩ = some (.int .i64 (s : Int)) := ipz.lv.cell (j := 1) rfl
  have HM : Hid (Calls _ _ _ w _) := wmade_ok v0
  have HS : Hid (Calls _ _ _ w _) := rsync_ok hP s
  have HW : Hid (Wl w g bp s gf A last e k) := hW
  have HNe : Hid (g ≠ d ∧ g ≠ m ∧ gf ≠ d ∧ gf ≠ m) := hne
  clear ipz frz hW hP hne
  go_enter Tryz.func50, Tryz.ntmps50
  go_wp2_with fail
  refine HM.out.mono ?_
  rintro e9 w9 ⟨rfl, hw9⟩
  have hw8 := hw9.symm
  subst hw8
  clear hw9 HM
  go_wp2_with fail
  refine HS.out.mono ?_
  rintro e9 w2 ⟨rfl, k2, p2⟩
  have HF : Hid (Kp (fun x => x = d ∨ x = m) w w2 ∧ Pt w2 bp d m n 0 (durAll dur T n) (fun _ => none) ∧ Wl w2 g bp s gf A last e k) := ⟨k2, p2, HW.out.keep k2 (fun e => e.elim HNe.out.1 HNe.out.2.1) (fun e => e.elim HNe.out.2.2.1 HNe.out.2.2.2)⟩
  clear k2 p2 HS
  go_wp2_with fail
  refine (number_nil w2).mono ?_
  rintro e9 w9 ⟨rfl, hw9⟩
  have hw8 := hw9.symm
  subst hw8
  clear hw9
  go_wp2
  go_ret
  exact ⟨rfl, HF.out⟩
end Go.Proofs.YtmooddbhcccicaaGreatDoor

/- A log and its plate as one: what each call does to it. -/
namespace Go.Proofs.YtmooddbhcccicaaGreatDoor
set_option linter.unusedVariables false
set_option linter.unusedSimpArgs false
open Go.RowKit Go.Deep

/-- where a log lies: its own blocks are others, and none is the table's -/
structure Lp (g bp d m gf : Nat) : Prop where
  gd : g ≠ d
  gm : g ≠ m
  bg : bp ≠ g
  fd : gf ≠ d
  fm : gf ≠ m
  bf : bp ≠ gf
  tg : ¬ 0 = g
  tf : ¬ 0 = gf
  td : ¬ 0 = d
  tm : ¬ 0 = m
/-- a log with records, of which the first y are durable -/
structure Lg (w : World) (g bp d m gf s q a b c e lt y : Nat) (recs : List (List Nat)) (dur : List Nat) (T : Nat → Option (List Nat)) : Prop where
  pt : Pt w bp d m (2 + s) q dur T
  wl : Wl w g bp s gf ⟨a, b, c, e⟩ lt (c + totW recs) (s - totW recs)
  lg : LogN (nowOf dur T) s a b c e recs
  dw : DirtW dur T
  hq : q ≤ totW recs
  hl : lt + 1 = e + recs.length
  s1 : 4 ≤ s
  cs : c < s
  a1 : 1 ≤ a ∧ a ≤ 1152921504606846976
  b1 : 1 ≤ b ∧ b ≤ 1152921504606846976
  e1 : 1 ≤ e ∧ e + s < 1152921504606846976
  lp : Lp g bp d m gf
  yl : y ≤ recs.length
  ys : ∀ t, t < totW (recs.take y) → T (2 + (c + t) % s) = none
section
variable {w : World} {g bp d m gf s q a b c e lt y : Nat} {recs : List (List Nat)} {dur : List Nat} {T : Nat → Option (List Nat)}
theorem Lg.s2 (h : Lg w g bp d m gf s q a b c e lt y recs dur T) : s ≤ 8190 := by have := h.pt.n2; omega
theorem Lg.keep (h : Lg w g bp d m gf s q a b c e lt y recs dur T) {S : Nat → Prop} {w' : World} (k : Kp S w w') (hg : ¬ S g) (hb : ¬ S bp) (hd : ¬ S d) (hm : ¬ S m) (hf : ¬ S gf) : Lg w' g bp d m gf s q a b c e lt y recs dur T :=
  { h with pt := h.pt.keep k hb hd hm, wl := h.wl.keep k hg hf }
theorem Lg.keep0 (h : Lg w g bp d m gf s q a b c e lt y recs dur T) {w' : World} (k : Kp (fun _ => False) w w') : Lg w' g bp d m gf s q a b c e lt y recs dur T := h.keep k id id id id id
theorem Lg.bounds (h : Lg w g bp d m gf s q a b c e lt y recs dur T) : totW recs ≤ s ∧ s ≤ 8190 ∧ recs.length ≤ totW recs ∧ q ≤ 8190 ∧ lt < 1152921504606846976 := by
  have h1 := h.lg.fits
  have h2 := h.s2
  have h3 := h.lg.fine.len
  have h4 := h.hq
  have h5 := h.hl
  have h6 := h.e1
  exact ⟨h1, h2, h3, by omega, by omega⟩
/-- the blocks of a log -/
theorem Lg.blk (h : Lg w g bp d m gf s q a b c e lt y recs dur T) : g < w.heap.size ∧ bp < w.heap.size ∧ d < w.heap.size ∧ m < w.heap.size ∧ gf < w.heap.size := ⟨h.wl.gl, h.pt.lt, h.pt.row.lt, h.pt.mp.lt, h.wl.fl⟩

/-- what Append answers -/
def ApRes (w w' : World) (g bp d m gf s a b c e lt y : Nat) (recs : List (List Nat)) (dur : List Nat) (ys : List Nat) (e9 : Ending) : Prop :=
  (¬ (1 ≤ ys.length ∧ ys.length ≤ 2000) ∧ e9 = .returned (.tuple #[.int .i64 0, .int .i64 1]) ∧ w' = w) ∨
  ((1 ≤ ys.length ∧ ys.length ≤ 2000) ∧ s < totW recs + needW ys ∧ e9 = .returned (.tuple #[.int .i64 0, .int .i64 4]) ∧ w' = w) ∨
  ((1 ≤ ys.length ∧ ys.length ≤ 2000) ∧ totW recs + needW ys ≤ s ∧ e9 = .returned (.tuple #[.int .i64 ((lt + 1 : Nat) : Int), .int .i64 0]) ∧ Kp (fun x => x = m ∨ x = g ∨ x = gf) w w' ∧ ∃ q' T', Lg w' g bp d m gf s q' a b c e (lt + 1) y (recs ++ [ys]) dur T' ∧ (∀ t, t < totW recs → T' (2 + (c + t) % s) = T (2 + (c + t) % s)) ∧ (∀ j, j < needW ys → ∃ xs, T' (2 + (c + totW recs + j) % s) = some xs))
end
theorem lg_append {w : World} {g bp d m gf s q a b c e lt y : Nat} {recs : List (List Nat)} {dur : List Nat} {T : Nat → Option (List Nat)} (h : Lg w g bp d m gf s q a b c e lt y recs dur T) (p : Option Addr) (n cap : Nat) (ys : List Nat) (hr : Rb w p n ys) (hc : n ≤ cap) (hb : ∀ z, p = some z → 1 ≤ n → ¬ z.block = m ∧ ¬ z.block = g ∧ ¬ z.block = gf) (ht : Turns w) :
    Calls Tryz.prog 85 #[.pointer (some ⟨g, 0, none⟩), .slice p n cap] w fun e9 w' => ApRes (T := T) w w' g bp d m gf s a b c e lt y recs dur ys e9 := by
  obtain ⟨z1, z2, z3, z4, z5⟩ := h.bounds
  have hlen := hr.len
  have hcs := h.cs
  by_cases hfit : 1 ≤ n ∧ n ≤ 2000
  · by_cases hroom : totW recs + needW ys ≤ s
    · obtain ⟨bb, o, rfl, _⟩ := hr.pt (by omega)
      obtain ⟨hb1, hb2, hb3⟩ := hb _ rfl hfit.1
      refine (append_put (K := needW ys) h.pt (by omega) ⟨rfl, by have := h.s1; omega⟩ h.wl (by omega) ⟨by unfold needW; rw [hlen], hfit.2, hc⟩ hfit.1 hr (by omega) (by omega) (by omega) ⟨h.lp.gd, h.lp.gm, h.lp.bg, h.lp.fd, h.lp.fm, h.lp.bf, hb1, hb2, hb3, fun e => h.lp.tg e.symm, fun e => h.lp.tf e.symm, fun e => h.lp.tm e.symm⟩ ht).mono ?_
      rintro e9 w' ⟨rfl, k, p', l'⟩
      have hen : lt + 1 = e + recs.length := h.hl
      have hput := h.lg.put (ys := ys) (by have := h.s1; omega) ⟨by omega, by omega, hr.byte⟩ hroom
      have hdw := h.dw.put (ys := ys) h.lg (by have := h.s1; omega) hroom
      have hat : ∀ t, t < totW recs → wrT T s (c + totW recs) (e + recs.length) ys (needW ys) (needW ys) (2 + (c + t) % s) = T (2 + (c + t) % s) := fun t ht' => (wrT_at (needW ys) (by omega)).2 _ (fun j hj he => by
        have := mod_inj (s := s) (e := c) (i := t) (j := totW recs + j) (by omega) (by omega) (by rw [← Nat.add_assoc]; omega)
        omega)
      rw [hen] at p'
      refine Or.inr (Or.inr ⟨by omega, hroom, rfl, k, _, _, ⟨p', ?_, hput, hdw, ?_, ?_, h.s1, h.cs, h.a1, h.b1, h.e1, h.lp, ?_, ?_⟩, hat, fun j hj => ⟨_, (wrT_at (needW ys) (by omega)).1 j hj⟩⟩)
      · rw [totW_app, totW_one, ← Nat.add_assoc, ← Nat.sub_sub]
        exact l'
      · rw [totW_app, totW_one]; have := h.hq; omega
      · rw [List.length_append]; show lt + 1 + 1 = e + (recs.length + 1); omega
      · rw [List.length_append]; have := h.yl; omega
      · intro t ht'
        have hy := h.yl
        rw [List.take_append_of_le_length hy] at ht'
        have := totW_take recs y
        rw [hat t (by omega)]
        exact h.ys t ht'
    · refine (append_full h.wl p n cap (needW ys) hfit (by unfold needW; rw [hlen]) (by omega)).mono ?_
      rintro e9 w' ⟨rfl, rfl⟩
      exact Or.inr (Or.inl ⟨by omega, by omega, rfl, rfl⟩)
  · refine (append_arg h.wl p n cap hfit).mono ?_
    rintro e9 w' ⟨rfl, rfl⟩
    exact Or.inl ⟨by omega, rfl, rfl⟩
theorem lg_sync {w : World} {g bp d m gf s q a b c e lt y : Nat} {recs : List (List Nat)} {dur : List Nat} {T : Nat → Option (List Nat)} (h : Lg w g bp d m gf s q a b c e lt y recs dur T) :
    Calls Tryz.prog 50 #[.pointer (some ⟨g, 0, none⟩)] w fun e9 w' => e9 = .returned (.int .i64 0) ∧ Kp (fun x => x = d ∨ x = m) w w' ∧ Lg w' g bp d m gf s 0 a b c e lt recs.length recs (durAll dur T (2 + s)) (fun _ => none) := by
  refine (wsync_ok h.pt h.wl ⟨h.lp.gd, h.lp.gm, h.lp.fd, h.lp.fm⟩).mono ?_
  rintro e9 w' ⟨rfl, k, p', l'⟩
  refine ⟨rfl, k, ⟨p', l', h.lg.congr (by have := h.s1; omega) (fun i hi => nowOf_dur h.pt.len h.pt.tlen hi), DirtW.none _, Nat.zero_le _, h.hl, h.s1, h.cs, h.a1, h.b1, h.e1, h.lp, Nat.le_refl _, fun _ _ => rfl⟩⟩
/-- a plate behind a crash, whose log had these records, of which the first y were durable -/
structure Lc (w : World) (bp d m s q a b c e y : Nat) (recs : List (List Nat)) (dur : List Nat) (T : Nat → Option (List Nat)) (rdW : Nat → List Nat) : Prop where
  pt : Pt w bp d m (2 + s) q dur T
  af : Aft (nowOf dur T) rdW s a b c e recs
  hq : q ≤ s
  s1 : 4 ≤ s
  cs : c < s
  a1 : 1 ≤ a ∧ a ≤ 1152921504606846976
  b1 : 1 ≤ b ∧ b ≤ 1152921504606846976
  e1 : 1 ≤ e ∧ e + s < 1152921504606846976
  td : ¬ 0 = d ∧ ¬ 0 = m
  yl : y ≤ recs.length
  ys : ∀ t, t < totW (recs.take y) → nowOf dur T (2 + (c + t) % s) = rdW (2 + (c + t) % s)
theorem Lg.lc {w : World} {g bp d m gf s q a b c e lt y : Nat} {recs : List (List Nat)} {dur : List Nat} {T : Nat → Option (List Nat)} (h : Lg w g bp d m gf s q a b c e lt y recs dur T) : Lc w bp d m s q a b c e recs.length recs dur T (nowOf dur T) :=
  ⟨h.pt, Aft.same h.lg, by have := h.bounds; have := h.hq; omega, h.s1, h.cs, h.a1, h.b1, h.e1, ⟨h.lp.td, h.lp.tm⟩, Nat.le_refl _, fun _ _ => rfl⟩
theorem Lc.keep {w w' : World} {bp d m s q a b c e y : Nat} {recs : List (List Nat)} {dur : List Nat} {T : Nat → Option (List Nat)} {rdW : Nat → List Nat} (h : Lc w bp d m s q a b c e y recs dur T rdW) {S : Nat → Prop} (k : Kp S w w') (hb : ¬ S bp) (hd : ¬ S d) (hm : ¬ S m) : Lc w' bp d m s q a b c e y recs dur T rdW :=
  { h with pt := h.pt.keep k hb hd hm }
theorem lg_crash {w : World} {g bp d m gf s q a b c e lt y : Nat} {recs : List (List Nat)} {dur : List Nat} {T : Nat → Option (List Nat)} (h : Lg w g bp d m gf s q a b c e lt y recs dur T) (p : Option Addr) (cap : Nat) (zs : List Int) (i n : Int) (hz : ∀ w', Kp (fun x => x = d) w w' → Rz w' p zs) (hzw : ∀ z ∈ zs, (Lit.int .i64 z).wf = true) (hw : (Lit.int .i64 i).wf = true) (hl : (zs.length : Int) ≤ 9223372036854775807) :
    Calls Tryz.prog 23 #[.pointer (some ⟨bp, 0, none⟩), .slice p zs.length cap, .int .i64 i, .int .i64 n] w fun e9 w' => e9 = .returned (.int .i64 0) ∧ Kp (fun x => x = d ∨ x = m) w w' ∧ Lc w' bp d m s 0 a b c e y recs (crashD dur T zs i n) (fun _ => none) (nowOf dur T) ∧ (zs = [] → torn64 n ≤ 63 → ∀ j xs, j < 2 + s → T j = some xs → Bad (nowOf (crashD dur T zs i n) (fun _ => none) j)) := by
  refine (crash_ok h.pt p cap zs i n hz hzw hw hl).mono ?_
  rintro e9 w' ⟨rfl, k, p'⟩
  have hs := h.s1
  obtain ⟨h1, h2, h3⟩ := Aft.crash (zs := zs) (i := i) (x := n) h.lg h.dw rfl (by omega) h.pt.len h.pt.tlen
  refine ⟨rfl, k, ⟨p', h1, Nat.zero_le _, h.s1, h.cs, h.a1, h.b1, h.e1, ⟨h.lp.td, h.lp.tm⟩, h.yl, fun t ht => h2 _ ?_ (h.ys t ht)⟩, h3⟩
  have := Nat.mod_lt (c + t) (show 0 < s by omega)
  omega
/-- how many records are told: at least those that were durable -/
theorem lc_open {w : World} {bp d m s q a b c e y : Nat} {recs : List (List Nat)} {dur : List Nat} {T : Nat → Option (List Nat)} {rdW : Nat → List Nat} (h : Lc w bp d m s q a b c e y recs dur T rdW) (ha : a < 1152921504606846976) (hb : b < 1152921504606846976) (ht : Turns w) :
    ∃ k, y ≤ k ∧ k ≤ recs.length ∧ (∀ t, t < totW (recs.take k) → nowOf dur T (2 + (c + t) % s) = rdW (2 + (c + t) % s)) ∧ Calls Tryz.prog 55 #[.pointer (some ⟨bp, 0, none⟩)] w fun e9 w' => ∃ g gf v dur2, e9 = .returned (.tuple #[.pointer (some ⟨g, 0, none⟩), v, .int .i64 0]) ∧ Kp (fun x => x = d ∨ x = m) w w' ∧ w.heap.size ≤ g ∧ w.heap.size ≤ gf ∧ Rw w' w.heap.size v (recs.take k) ∧ Lg w' g bp d m gf s 0 (a + 1) (b + 1) c e (e - 1 + (recs.take k).length) (recs.take k).length (recs.take k) dur2 (fun _ => none) := by
  have hs := h.s1
  have hs2 : s ≤ 8190 := by have := h.pt.n2; omega
  have he := h.e1
  have hcs := h.cs
  have ha1 := h.a1
  have hb1 := h.b1
  have hq := h.hq
  obtain ⟨k, hk, hres, hsame, hmax⟩ := h.af.read (by omega) (by omega)
  refine ⟨k, hmax y h.yl h.ys, hk, hsame, ?_⟩
  have htl : (0 : Nat) < w.heap.size := World.block_lt_of_cell? _ _ (ht 0 (by decide))
  refine (OpenAny_ok h.pt (by omega) rfl (by omega) h.td a b c e (h.af.newest ha1 hb1 hcs (by omega) ⟨by omega, by omega⟩) ⟨by omega, by omega⟩ (by omega) (by omega) ⟨by omega, by omega⟩ ht).mono ?_
  rintro e9 w' ⟨g, gf, v, rfl, k1, hg, hgf, rw1, ⟨dur2, X, p2, hX, hn⟩, l1⟩
  rw [hres] at rw1 hX l1
  have hdl := h.pt.row.lt
  have hml := h.pt.mp.lt
  have hbl := h.pt.lt
  refine ⟨g, gf, v, dur2, rfl, k1, hg, hgf, rw1, ⟨p2, l1, h.af.opened ha1 hb1 hcs (by omega) ⟨by omega, by omega⟩ hk hsame hX hn, DirtW.none _, Nat.zero_le _, by omega, hs, hcs, ⟨by omega, by omega⟩, ⟨by omega, by omega⟩, he, ⟨by omega, by omega, by omega, by omega, by omega, by omega, by omega, by omega, h.td.1, h.td.2⟩, Nat.le_refl _, fun _ _ => rfl⟩⟩
end Go.Proofs.YtmooddbhcccicaaGreatDoor
