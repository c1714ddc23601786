/- Texts of this proof, joined: MgBH, MgBI, MgBJ. -/
import Derived.Test.YtmooddbhcccicaaGreatDoorMgAV
import Derived.Test.YtmooddbhcccicaaGreatDoorMgBD
import Derived.Test.YtmooddbhcccicaaGreatDoorMgBG
import Derived.Test.YtmooddbhcccicaaGreatDoorMgAS
import Derived.Test.YtmooddbhcccicaaGreatDoorMgBF
/- Texts of this proof, joined: Bh, Be. -/
/- A log's plate behind a crash, and behind an opening (plain). -/
namespace Go.Proofs.YtmooddbhcccicaaGreatDoor
set_option linter.unusedVariables false
set_option linter.unusedSimpArgs false
open Go.RowKit Go.Deep

/-- what is read behind a crash: each sector of the ring is as it was written, or is none of a record's -/
structure Aft (rd rdW : Nat → List Nat) (s a b c e : Nat) (recs : List (List Nat)) : Prop where
  log : LogN rdW s a b c e recs
  hds : ∀ i, i < 2 → rd i = rdW i
  ring : ∀ t, t < s → rd (2 + (c + t) % s) = rdW (2 + (c + t) % s) ∨ Bad (rd (2 + (c + t) % s))
theorem Aft.same {rd : Nat → List Nat} {s a b c e : Nat} {recs : List (List Nat)} (h : LogN rd s a b c e recs) : Aft rd rd s a b c e recs := ⟨h, fun _ _ => rfl, fun _ _ => Or.inl rfl⟩
theorem Aft.newest {dur : List Nat} {T : Nat → Option (List Nat)} {rdW : Nat → List Nat} {s a b c e : Nat} {recs : List (List Nat)} (h : Aft (nowOf dur T) rdW s a b c e recs) (ha : 1 ≤ a ∧ a ≤ 1152921504606846976) (hb : 1 ≤ b ∧ b ≤ 1152921504606846976) (hc : c < s) (hs : s ≤ 8192) (he : 1 ≤ e ∧ e ≤ 1152921504606846976) : newH dur T s 2 = ⟨a, b, c, e⟩ :=
  newH_of ha hb hc hs he (by rw [h.hds _ (by omega)]; exact h.log.hd) (fun i hi hne => by rw [h.hds i hi]; exact h.log.oth i hi hne)
theorem Aft.read {rd rdW : Nat → List Nat} {s a b c e : Nat} {recs : List (List Nat)} (h : Aft rd rdW s a b c e recs) (hs : s ≤ 8192) (he : e ≤ 1152921504606846976) : ∃ m, m ≤ recs.length ∧ recsW rd s c e (s + 1) 0 [] = (recs.take m, totW (recs.take m)) ∧ (∀ t, t < totW (recs.take m) → rd (2 + (c + t) % s) = rdW (2 + (c + t) % s)) ∧ ∀ m', m' ≤ recs.length → (∀ t, t < totW (recs.take m') → rd (2 + (c + t) % s) = rdW (2 + (c + t) % s)) → m' ≤ m := by
  have hl := h.log.fine.len
  have hf := h.log.fits
  obtain ⟨m, h1, h2, h4, h3⟩ := recsW_read (rd := rd) (rdW := rdW) (s := s) (c := c) (e := e) recs (s + 1) 0 [] h.log.fine (by rw [Nat.add_zero]; exact h.log.ring) (by omega) (by omega) (by show e + 0 + recs.length < _; omega) (fun t _ ht => h.ring t (by omega)) (fun t ht1 ht2 => by
    rcases h.ring t ht2 with hr | hr
    · rw [hr, h.log.free t (by omega) ht2]; exact bad_nou
    · exact hr)
  refine ⟨m, h1, ?_, fun t ht => h4 t (Nat.zero_le _) (by omega), fun m' hm' hk => h3 m' hm' (fun t _ ht => hk t (by omega))⟩
  rw [h2, List.nil_append, Nat.zero_add]
theorem totW_take (recs : List (List Nat)) (m : Nat) : totW (recs.take m) ≤ totW recs := by
  have := totW_app (recs.take m) (recs.drop m)
  rw [List.take_append_drop] at this
  omega
theorem RingW.take {rd : Nat → List Nat} {s : Nat} : ∀ {c e : Nat} {recs : List (List Nat)} (m : Nat), RingW rd s c e recs → RingW rd s c e (recs.take m)
  | c, e, recs, 0, h => trivial
  | c, e, [], m + 1, h => trivial
  | c, e, ys :: l, m + 1, ⟨h1, h2⟩ => ⟨h1, RingW.take m h2⟩
/-- what the plate has when it was opened: X is its sectors behind cleaning, now those behind the new head -/
theorem Aft.opened {dur : List Nat} {T : Nat → Option (List Nat)} {rdW X now : Nat → List Nat} {s a b c e : Nat} {recs : List (List Nat)} (h : Aft (nowOf dur T) rdW s a b c e recs) (ha : 1 ≤ a ∧ a ≤ 1152921504606846976) (hb : 1 ≤ b ∧ b ≤ 1152921504606846976) (hc : c < s) (hs : s ≤ 8192) (he : 1 ≤ e ∧ e ≤ 1152921504606846976) {m : Nat} (hm : m ≤ recs.length) (hk : ∀ t, t < totW (recs.take m) → nowOf dur T (2 + (c + t) % s) = rdW (2 + (c + t) % s)) (hX : Cln dur T s (c + totW (recs.take m)) (s - totW (recs.take m)) (2 + s) X) (hn : ∀ i, i < 2 + s → now i = if i = (a + 1) % 2 then hdB (a + 1) (b + 1) c e else X i) : LogN now s (a + 1) (b + 1) c e (recs.take m) := by
  have htt := totW_take recs m
  have hft := h.log.fits
  have hX2 : ∀ i, i < 2 → X i = nowOf dur T i := fun i hi => (hX i (by omega)).2.2 (fun t ht => by omega)
  have hlt : ∀ t, 2 + (c + t) % s < 2 + s := fun t => by have := Nat.mod_lt (c + t) (show 0 < s by omega); omega
  have hnr : ∀ t, now (2 + (c + t) % s) = X (2 + (c + t) % s) := fun t => by rw [hn _ (hlt t), if_neg (by omega)]
  refine ⟨by rw [hn _ (by omega), if_pos rfl], fun i hi hne hok => ?_, ?_, by omega, fun t h1 h2 => ?_, fun ys hy => h.log.fine ys (List.mem_of_mem_take hy)⟩
  · have hia : i = a % 2 := by omega
    have : now i = hdB a b c e := by rw [hn i (by omega), if_neg hne, hX2 i hi, h.hds i hi, hia]; exact h.log.hd
    rw [this, sayH_hdB (by omega) (by omega) (by omega) (by omega)]
    show (a : Int) < ((a + 1 : Nat) : Int)
    omega
  · refine (RingW.take m h.log.ring).congr fun t ht => ?_
    rw [hnr t, ← hk t ht]
    refine (hX _ (hlt t)).2.2 fun t' ht' heq => ?_
    have := mod_inj (s := s) (e := c) (i := t) (j := totW (recs.take m) + t') (by omega) (by omega) (by rw [← Nat.add_assoc]; omega)
    omega
  · rw [hnr t]
    refine (hX _ (hlt t)).2.1 ⟨t - totW (recs.take m), by omega, ?_⟩
    rw [show c + totW (recs.take m) + (t - totW (recs.take m)) = c + t by omega]

/-- no sector of a record's is bad -/
theorem RingW.not_bad {rd : Nat → List Nat} {s : Nat} : ∀ {c e : Nat} {recs : List (List Nat)}, RingW rd s c e recs → e + recs.length < 9223372036854775808 → ∀ t, t < totW recs → ¬ Bad (rd (2 + (c + t) % s))
  | c, e, [], h, he, t, ht => absurd ht (Nat.not_lt_zero _)
  | c, e, ys :: l, ⟨h1, h2⟩, he, t, ht => by
    have he' : e + (l.length + 1) < 9223372036854775808 := he
    have ht' : t < needW ys + totW l := ht
    by_cases h : t < needW ys
    · intro hb
      rw [h1 t h] at hb
      have := (secJ_ok (u := e) (by omega) h).1
      rw [hb] at this
      cases this
    · have := RingW.not_bad h2 (by omega) (t - needW ys) (by omega)
      rw [show c + needW ys + (t - needW ys) = c + t by omega] at this
      exact this
/-- what is dirty stands on free sectors, which were noughts -/
def DirtW (dur : List Nat) (T : Nat → Option (List Nat)) : Prop := ∀ j xs, T j = some xs → 2 ≤ j ∧ secOf dur j = nouW 64
theorem DirtW.none (dur : List Nat) : DirtW dur (fun _ => Option.none) := fun j xs h => by cases h
theorem DirtW.put {dur : List Nat} {T : Nat → Option (List Nat)} {s a b c e : Nat} {recs : List (List Nat)} {ys : List Nat} (hD : DirtW dur T) (h : LogN (nowOf dur T) s a b c e recs) (hs : 1 ≤ s) (hf : totW recs + needW ys ≤ s) : DirtW dur (wrT T s (c + totW recs) (e + recs.length) ys (needW ys) (needW ys)) := by
  intro i xs hi
  obtain ⟨h1, h2⟩ := wrT_at (T := T) (s := s) (e := c + totW recs) (u := e + recs.length) (ys := ys) (K := needW ys) (needW ys) (by omega)
  by_cases hj : ∃ j, j < needW ys ∧ i = 2 + (c + totW recs + j) % s
  · obtain ⟨j, hj, rfl⟩ := hj
    refine ⟨by omega, ?_⟩
    cases hT : T (2 + (c + totW recs + j) % s) with
    | some zs => exact (hD _ zs hT).2
    | none =>
      have h9 := h.free (totW recs + j) (by omega) (by omega)
      rw [← Nat.add_assoc] at h9
      unfold nowOf at h9
      rw [hT] at h9
      exact h9
  · rw [h2 i (fun j hj' e => hj ⟨j, hj', e⟩)] at hi
    exact hD i xs hi
/-- behind a crash -/
theorem Aft.crash {dur : List Nat} {T : Nat → Option (List Nat)} {s a b c e n : Nat} {recs : List (List Nat)} {zs : List Int} {i x : Int} (h : LogN (nowOf dur T) s a b c e recs) (hD : DirtW dur T) (hn : n = 2 + s) (hs : 1 ≤ s) (hl : dur.length = n * 64) (hT : ∀ i xs, T i = some xs → xs.length = 64) : Aft (nowOf (crashD dur T zs i x) (fun _ => none)) (nowOf dur T) s a b c e recs ∧ (∀ j, j < n → T j = none → nowOf (crashD dur T zs i x) (fun _ => none) j = nowOf dur T j) ∧ (zs = [] → torn64 x ≤ 63 → ∀ j xs, j < n → T j = some xs → Bad (nowOf (crashD dur T zs i x) (fun _ => none) j)) := by
  have hj : ∀ j, j < n → nowOf (crashD dur T zs i x) (fun _ => none) j = if (j : Int) = i ∧ ¬ (j : Int) ∈ zs then mixS T j (torn64 x) (secOf dur j) else if (j : Int) ∈ zs then nowOf dur T j else secOf dur j := fun j hj => secOf_crash hl hj hT
  have h0 : ∀ j, j < n → T j = none → nowOf (crashD dur T zs i x) (fun _ => none) j = nowOf dur T j := fun j hjn hTj => by
    have e1 : nowOf dur T j = secOf dur j := by unfold nowOf; rw [hTj]; rfl
    rw [hj j hjn, e1]
    unfold mixS
    rw [hTj]
    split
    · rfl
    · split <;> rfl
  refine ⟨⟨h, fun j hj2 => ?_, fun t ht => ?_⟩, h0, fun hz ht j xs hjn hTj => ?_⟩
  · refine h0 j (by omega) ?_
    cases hTj : T j with
    | none => rfl
    | some xs => have := (hD j xs hTj).1; omega
  · have hlt : 2 + (c + t) % s < n := by have := Nat.mod_lt (c + t) (show 0 < s by omega); omega
    obtain ⟨j, hjj⟩ : ∃ j, j = 2 + (c + t) % s := ⟨_, rfl⟩
    rw [← hjj] at hlt ⊢
    cases hTj : T j with
    | none => exact Or.inl (h0 j hlt hTj)
    | some xs =>
      have hx := hT j xs hTj
      obtain ⟨_, hd⟩ := hD j xs hTj
      have e1 : nowOf dur T j = xs := by unfold nowOf; rw [hTj]; rfl
      rw [hj j hlt, e1]
      by_cases c1 : (j : Int) = i ∧ ¬ (j : Int) ∈ zs
      · rw [if_pos c1]
        unfold mixS
        rw [hTj, hd]
        by_cases h64 : torn64 x = 64
        · left
          show xs.take (torn64 x) ++ (nouW 64).drop (torn64 x) = xs
          rw [h64, List.take_of_length_le (by omega), List.drop_of_length_le (Nat.le_of_eq (nouW_len 64)), List.append_nil]
        · right
          exact bad_torn (by have := torn64_le x; omega) hx
      · rw [if_neg c1]
        by_cases c2 : (j : Int) ∈ zs
        · rw [if_pos c2]
          exact Or.inl rfl
        · rw [if_neg c2, hd]
          exact Or.inr bad_nou
  · have hx := hT j xs hTj
    obtain ⟨_, hd⟩ := hD j xs hTj
    rw [hj j hjn, hz]
    by_cases c1 : (j : Int) = i ∧ ¬ (j : Int) ∈ ([] : List Int)
    · rw [if_pos c1]
      unfold mixS
      rw [hTj, hd]
      exact bad_torn ht hx
    · rw [if_neg c1, if_neg (by simp), hd]
      exact bad_nou
end Go.Proofs.YtmooddbhcccicaaGreatDoor

/- Sync of a log. -/
namespace Go.Proofs.YtmooddbhcccicaaGreatDoor
set_option linter.unusedVariables false
set_option linter.unusedSimpArgs false
open Go.RowKit Go.Deep

set_option maxRecDepth 100000 in
set_option maxHeartbeats 800000 in
theorem wsync_ok {w : World} {g bp d m n q s gf e k : Nat} {dur : List Nat} {T : Nat → Option (List Nat)} {A : H4} {last : Int} (hP : Pt w bp d m n q dur T) (hW : Wl w g bp s gf A last e k) (hne : g ≠ d ∧ g ≠ m ∧ gf ≠ d ∧ gf ≠ m) :
    Calls Tryz.prog 50 #[.pointer (some ⟨g, 0, none⟩)] w fun e9 w' => e9 = .returned (.int .i64 0) ∧ Kp (fun x => x = d ∨ x = m) w w' ∧ Pt w' bp d m n 0 (durAll dur T n) (fun _ => none) ∧ Wl w' g bp s gf A last e k := by
  obtain ⟨capz, lz, ipz, frz⟩ := hW.ip
  have v0 : w.cell? ⟨g, 0, none⟩ = some (.pointer (some ⟨bp, 0, none⟩)) := ipz.lv.cell (j := 0) rfl
  have v1 : w.cell? ⟨g, 1, none⟩ = some (.int .i64 (s : Int)) := ipz.lv.cell (j := 1) rfl
  have HM : Hid (Calls _ _ _ w _) := wmade_ok v0
  have HS : Hid (Calls _ _ _ w _) := rsync_ok hP s
  have HW : Hid (Wl w g bp s gf A last e k) := hW
  have HNe : Hid (g ≠ d ∧ g ≠ m ∧ gf ≠ d ∧ gf ≠ m) := hne
  clear ipz frz hW hP hne
  go_enter Tryz.func50, Tryz.ntmps50
  go_wp2_with fail
  refine HM.out.mono ?_
  rintro e9 w9 ⟨rfl, hw9⟩
  have hw8 := hw9.symm
  subst hw8
  clear hw9 HM
  go_wp2_with fail
  refine HS.out.mono ?_
  rintro e9 w2 ⟨rfl, k2, p2⟩
  have HF : Hid (Kp (fun x => x = d ∨ x = m) w w2 ∧ Pt w2 bp d m n 0 (durAll dur T n) (fun _ => none) ∧ Wl w2 g bp s gf A last e k) := ⟨k2, p2, HW.out.keep k2 (fun e => e.elim HNe.out.1 HNe.out.2.1) (fun e => e.elim HNe.out.2.2.1 HNe.out.2.2.2)⟩
  clear k2 p2 HS
  go_wp2_with fail
  refine (number_nil w2).mono ?_
  rintro e9 w9 ⟨rfl, hw9⟩
  have hw8 := hw9.symm
  subst hw8
  clear hw9
  go_wp2
  go_ret
  exact ⟨rfl, HF.out⟩
end Go.Proofs.YtmooddbhcccicaaGreatDoor

/- Texts of this proof, joined: Bm, Ii. -/
/- A log and its plate as one: what each call does to it. -/
namespace Go.Proofs.YtmooddbhcccicaaGreatDoor
set_option linter.unusedVariables false
set_option linter.unusedSimpArgs false
open Go.RowKit Go.Deep

/-- where a log lies: its own blocks are others, and none is the table's -/
structure Lp (g bp d m gf : Nat) : Prop where
  gd : g ≠ d
  gm : g ≠ m
  bg : bp ≠ g
  fd : gf ≠ d
  fm : gf ≠ m
  bf : bp ≠ gf
  tg : ¬ 0 = g
  tf : ¬ 0 = gf
  td : ¬ 0 = d
  tm : ¬ 0 = m
/-- a log with records, of which the first y are durable -/
structure Lg (w : World) (g bp d m gf s q a b c e lt y : Nat) (recs : List (List Nat)) (dur : List Nat) (T : Nat → Option (List Nat)) : Prop where
  pt : Pt w bp d m (2 + s) q dur T
  wl : Wl w g bp s gf ⟨a, b, c, e⟩ lt (c + totW recs) (s - totW recs)
  lg : LogN (nowOf dur T) s a b c e recs
  dw : DirtW dur T
  hq : q ≤ totW recs
  hl : lt + 1 = e + recs.length
  s1 : 4 ≤ s
  cs : c < s
  a1 : 1 ≤ a ∧ a ≤ 1152921504606846976
  b1 : 1 ≤ b ∧ b ≤ 1152921504606846976
  e1 : 1 ≤ e ∧ e + s < 1152921504606846976
  lp : Lp g bp d m gf
  yl : y ≤ recs.length
  ys : ∀ t, t < totW (recs.take y) → T (2 + (c + t) % s) = none
section
variable {w : World} {g bp d m gf s q a b c e lt y : Nat} {recs : List (List Nat)} {dur : List Nat} {T : Nat → Option (List Nat)}
theorem Lg.s2 (h : Lg w g bp d m gf s q a b c e lt y recs dur T) : s ≤ 8190 := by have := h.pt.n2; omega
theorem Lg.keep (h : Lg w g bp d m gf s q a b c e lt y recs dur T) {S : Nat → Prop} {w' : World} (k : Kp S w w') (hg : ¬ S g) (hb : ¬ S bp) (hd : ¬ S d) (hm : ¬ S m) (hf : ¬ S gf) : Lg w' g bp d m gf s q a b c e lt y recs dur T :=
  { h with pt := h.pt.keep k hb hd hm, wl := h.wl.keep k hg hf }
theorem Lg.keep0 (h : Lg w g bp d m gf s q a b c e lt y recs dur T) {w' : World} (k : Kp (fun _ => False) w w') : Lg w' g bp d m gf s q a b c e lt y recs dur T := h.keep k id id id id id
theorem Lg.bounds (h : Lg w g bp d m gf s q a b c e lt y recs dur T) : totW recs ≤ s ∧ s ≤ 8190 ∧ recs.length ≤ totW recs ∧ q ≤ 8190 ∧ lt < 1152921504606846976 := by
  have h1 := h.lg.fits
  have h2 := h.s2
  have h3 := h.lg.fine.len
  have h4 := h.hq
  have h5 := h.hl
  have h6 := h.e1
  exact ⟨h1, h2, h3, by omega, by omega⟩
/-- the blocks of a log -/
theorem Lg.blk (h : Lg w g bp d m gf s q a b c e lt y recs dur T) : g < w.heap.size ∧ bp < w.heap.size ∧ d < w.heap.size ∧ m < w.heap.size ∧ gf < w.heap.size := ⟨h.wl.gl, h.pt.lt, h.pt.row.lt, h.pt.mp.lt, h.wl.fl⟩

/-- what Append answers -/
def ApRes (w w' : World) (g bp d m gf s a b c e lt y : Nat) (recs : List (List Nat)) (dur : List Nat) (ys : List Nat) (e9 : Ending) : Prop :=
  (¬ (1 ≤ ys.length ∧ ys.length ≤ 2000) ∧ e9 = .returned (.tuple #[.int .i64 0, .int .i64 1]) ∧ w' = w) ∨
  ((1 ≤ ys.length ∧ ys.length ≤ 2000) ∧ s < totW recs + needW ys ∧ e9 = .returned (.tuple #[.int .i64 0, .int .i64 4]) ∧ w' = w) ∨
  ((1 ≤ ys.length ∧ ys.length ≤ 2000) ∧ totW recs + needW ys ≤ s ∧ e9 = .returned (.tuple #[.int .i64 ((lt + 1 : Nat) : Int), .int .i64 0]) ∧ Kp (fun x => x = m ∨ x = g ∨ x = gf) w w' ∧ ∃ q' T', Lg w' g bp d m gf s q' a b c e (lt + 1) y (recs ++ [ys]) dur T' ∧ (∀ t, t < totW recs → T' (2 + (c + t) % s) = T (2 + (c + t) % s)) ∧ (∀ j, j < needW ys → ∃ xs, T' (2 + (c + totW recs + j) % s) = some xs))
end
theorem lg_append {w : World} {g bp d m gf s q a b c e lt y : Nat} {recs : List (List Nat)} {dur : List Nat} {T : Nat → Option (List Nat)} (h : Lg w g bp d m gf s q a b c e lt y recs dur T) (p : Option Addr) (n cap : Nat) (ys : List Nat) (hr : Rb w p n ys) (hc : n ≤ cap) (hb : ∀ z, p = some z → 1 ≤ n → ¬ z.block = m ∧ ¬ z.block = g ∧ ¬ z.block = gf) (ht : Turns w) :
    Calls Tryz.prog 85 #[.pointer (some ⟨g, 0, none⟩), .slice p n cap] w fun e9 w' => ApRes (T := T) w w' g bp d m gf s a b c e lt y recs dur ys e9 := by
  obtain ⟨z1, z2, z3, z4, z5⟩ := h.bounds
  have hlen := hr.len
  have hcs := h.cs
  by_cases hfit : 1 ≤ n ∧ n ≤ 2000
  · by_cases hroom : totW recs + needW ys ≤ s
    · obtain ⟨bb, o, rfl, _⟩ := hr.pt (by omega)
      obtain ⟨hb1, hb2, hb3⟩ := hb _ rfl hfit.1
      refine (append_put (K := needW ys) h.pt (by omega) ⟨rfl, by have := h.s1; omega⟩ h.wl (by omega) ⟨by unfold needW; rw [hlen], hfit.2, hc⟩ hfit.1 hr (by omega) (by omega) (by omega) ⟨h.lp.gd, h.lp.gm, h.lp.bg, h.lp.fd, h.lp.fm, h.lp.bf, hb1, hb2, hb3, fun e => h.lp.tg e.symm, fun e => h.lp.tf e.symm, fun e => h.lp.tm e.symm⟩ ht).mono ?_
      rintro e9 w' ⟨rfl, k, p', l'⟩
      have hen : lt + 1 = e + recs.length := h.hl
      have hput := h.lg.put (ys := ys) (by have := h.s1; omega) ⟨by omega, by omega, hr.byte⟩ hroom
      have hdw := h.dw.put (ys := ys) h.lg (by have := h.s1; omega) hroom
      have hat : ∀ t, t < totW recs → wrT T s (c + totW recs) (e + recs.length) ys (needW ys) (needW ys) (2 + (c + t) % s) = T (2 + (c + t) % s) := fun t ht' => (wrT_at (needW ys) (by omega)).2 _ (fun j hj he => by
        have := mod_inj (s := s) (e := c) (i := t) (j := totW recs + j) (by omega) (by omega) (by rw [← Nat.add_assoc]; omega)
        omega)
      rw [hen] at p'
      refine Or.inr (Or.inr ⟨by omega, hroom, rfl, k, _, _, ⟨p', ?_, hput, hdw, ?_, ?_, h.s1, h.cs, h.a1, h.b1, h.e1, h.lp, ?_, ?_⟩, hat, fun j hj => ⟨_, (wrT_at (needW ys) (by omega)).1 j hj⟩⟩)
      · rw [totW_app, totW_one, ← Nat.add_assoc, ← Nat.sub_sub]
        exact l'
      · rw [totW_app, totW_one]; have := h.hq; omega
      · rw [List.length_append]; show lt + 1 + 1 = e + (recs.length + 1); omega
      · rw [List.length_append]; have := h.yl; omega
      · intro t ht'
        have hy := h.yl
        rw [List.take_append_of_le_length hy] at ht'
        have := totW_take recs y
        rw [hat t (by omega)]
        exact h.ys t ht'
    · refine (append_full h.wl p n cap (needW ys) hfit (by unfold needW; rw [hlen]) (by omega)).mono ?_
      rintro e9 w' ⟨rfl, rfl⟩
      exact Or.inr (Or.inl ⟨by omega, by omega, rfl, rfl⟩)
  · refine (append_arg h.wl p n cap hfit).mono ?_
    rintro e9 w' ⟨rfl, rfl⟩
    exact Or.inl ⟨by omega, rfl, rfl⟩
theorem lg_sync {w : World} {g bp d m gf s q a b c e lt y : Nat} {recs : List (List Nat)} {dur : List Nat} {T : Nat → Option (List Nat)} (h : Lg w g bp d m gf s q a b c e lt y recs dur T) :
    Calls Tryz.prog 50 #[.pointer (some ⟨g, 0, none⟩)] w fun e9 w' => e9 = .returned (.int .i64 0) ∧ Kp (fun x => x = d ∨ x = m) w w' ∧ Lg w' g bp d m gf s 0 a b c e lt recs.length recs (durAll dur T (2 + s)) (fun _ => none) := by
  refine (wsync_ok h.pt h.wl ⟨h.lp.gd, h.lp.gm, h.lp.fd, h.lp.fm⟩).mono ?_
  rintro e9 w' ⟨rfl, k, p', l'⟩
  refine ⟨rfl, k, ⟨p', l', h.lg.congr (by have := h.s1; omega) (fun i hi => nowOf_dur h.pt.len h.pt.tlen hi), DirtW.none _, Nat.zero_le _, h.hl, h.s1, h.cs, h.a1, h.b1, h.e1, h.lp, Nat.le_refl _, fun _ _ => rfl⟩⟩
/-- a plate behind a crash, whose log had these records, of which the first y were durable -/
structure Lc (w : World) (bp d m s q a b c e y : Nat) (recs : List (List Nat)) (dur : List Nat) (T : Nat → Option (List Nat)) (rdW : Nat → List Nat) : Prop where
  pt : Pt w bp d m (2 + s) q dur T
  af : Aft (nowOf dur T) rdW s a b c e recs
  hq : q ≤ s
  s1 : 4 ≤ s
  cs : c < s
  a1 : 1 ≤ a ∧ a ≤ 1152921504606846976
  b1 : 1 ≤ b ∧ b ≤ 1152921504606846976
  e1 : 1 ≤ e ∧ e + s < 1152921504606846976
  td : ¬ 0 = d ∧ ¬ 0 = m
  yl : y ≤ recs.length
  ys : ∀ t, t < totW (recs.take y) → nowOf dur T (2 + (c + t) % s) = rdW (2 + (c + t) % s)
theorem Lg.lc {w : World} {g bp d m gf s q a b c e lt y : Nat} {recs : List (List Nat)} {dur : List Nat} {T : Nat → Option (List Nat)} (h : Lg w g bp d m gf s q a b c e lt y recs dur T) : Lc w bp d m s q a b c e recs.length recs dur T (nowOf dur T) :=
  ⟨h.pt, Aft.same h.lg, by have := h.bounds; have := h.hq; omega, h.s1, h.cs, h.a1, h.b1, h.e1, ⟨h.lp.td, h.lp.tm⟩, Nat.le_refl _, fun _ _ => rfl⟩
theorem Lc.keep {w w' : World} {bp d m s q a b c e y : Nat} {recs : List (List Nat)} {dur : List Nat} {T : Nat → Option (List Nat)} {rdW : Nat → List Nat} (h : Lc w bp d m s q a b c e y recs dur T rdW) {S : Nat → Prop} (k : Kp S w w') (hb : ¬ S bp) (hd : ¬ S d) (hm : ¬ S m) : Lc w' bp d m s q a b c e y recs dur T rdW :=
  { h with pt := h.pt.keep k hb hd hm }
theorem lg_crash {w : World} {g bp d m gf s q a b c e lt y : Nat} {recs : List (List Nat)} {dur : List Nat} {T : Nat → Option (List Nat)} (h : Lg w g bp d m gf s q a b c e lt y recs dur T) (p : Option Addr) (cap : Nat) (zs : List Int) (i n : Int) (hz : ∀ w', Kp (fun x => x = d) w w' → Rz w' p zs) (hzw : ∀ z ∈ zs, (Lit.int .i64 z).wf = true) (hw : (Lit.int .i64 i).wf = true) (hl : (zs.length : Int) ≤ 9223372036854775807) :
    Calls Tryz.prog 23 #[.pointer (some ⟨bp, 0, none⟩), .slice p zs.length cap, .int .i64 i, .int .i64 n] w fun e9 w' => e9 = .returned (.int .i64 0) ∧ Kp (fun x => x = d ∨ x = m) w w' ∧ Lc w' bp d m s 0 a b c e y recs (crashD dur T zs i n) (fun _ => none) (nowOf dur T) ∧ (zs = [] → torn64 n ≤ 63 → ∀ j xs, j < 2 + s → T j = some xs → Bad (nowOf (crashD dur T zs i n) (fun _ => none) j)) := by
  refine (crash_ok h.pt p cap zs i n hz hzw hw hl).mono ?_
  rintro e9 w' ⟨rfl, k, p'⟩
  have hs := h.s1
  obtain ⟨h1, h2, h3⟩ := Aft.crash (zs := zs) (i := i) (x := n) h.lg h.dw rfl (by omega) h.pt.len h.pt.tlen
  refine ⟨rfl, k, ⟨p', h1, Nat.zero_le _, h.s1, h.cs, h.a1, h.b1, h.e1, ⟨h.lp.td, h.lp.tm⟩, h.yl, fun t ht => h2 _ ?_ (h.ys t ht)⟩, h3⟩
  have := Nat.mod_lt (c + t) (show 0 < s by omega)
  omega
/-- how many records are told: at least those that were durable -/
theorem lc_open {w : World} {bp d m s q a b c e y : Nat} {recs : List (List Nat)} {dur : List Nat} {T : Nat → Option (List Nat)} {rdW : Nat → List Nat} (h : Lc w bp d m s q a b c e y recs dur T rdW) (ha : a < 1152921504606846976) (hb : b < 1152921504606846976) (ht : Turns w) :
    ∃ k, y ≤ k ∧ k ≤ recs.length ∧ (∀ t, t < totW (recs.take k) → nowOf dur T (2 + (c + t) % s) = rdW (2 + (c + t) % s)) ∧ Calls Tryz.prog 55 #[.pointer (some ⟨bp, 0, none⟩)] w fun e9 w' => ∃ g gf v dur2, e9 = .returned (.tuple #[.pointer (some ⟨g, 0, none⟩), v, .int .i64 0]) ∧ Kp (fun x => x = d ∨ x = m) w w' ∧ w.heap.size ≤ g ∧ w.heap.size ≤ gf ∧ Rw w' w.heap.size v (recs.take k) ∧ Lg w' g bp d m gf s 0 (a + 1) (b + 1) c e (e - 1 + (recs.take k).length) (recs.take k).length (recs.take k) dur2 (fun _ => none) := by
  have hs := h.s1
  have hs2 : s ≤ 8190 := by have := h.pt.n2; omega
  have he := h.e1
  have hcs := h.cs
  have ha1 := h.a1
  have hb1 := h.b1
  have hq := h.hq
  obtain ⟨k, hk, hres, hsame, hmax⟩ := h.af.read (by omega) (by omega)
  refine ⟨k, hmax y h.yl h.ys, hk, hsame, ?_⟩
  have htl : (0 : Nat) < w.heap.size := World.block_lt_of_cell? _ _ (ht 0 (by decide))
  refine (OpenAny_ok h.pt (by omega) rfl (by omega) h.td a b c e (h.af.newest ha1 hb1 hcs (by omega) ⟨by omega, by omega⟩) ⟨by omega, by omega⟩ (by omega) (by omega) ⟨by omega, by omega⟩ ht).mono ?_
  rintro e9 w' ⟨g, gf, v, rfl, k1, hg, hgf, rw1, ⟨dur2, X, p2, hX, hn⟩, l1⟩
  rw [hres] at rw1 hX l1
  have hdl := h.pt.row.lt
  have hml := h.pt.mp.lt
  have hbl := h.pt.lt
  refine ⟨g, gf, v, dur2, rfl, k1, hg, hgf, rw1, ⟨p2, l1, h.af.opened ha1 hb1 hcs (by omega) ⟨by omega, by omega⟩ hk hsame hX hn, DirtW.none _, Nat.zero_le _, by omega, hs, hcs, ⟨by omega, by omega⟩, ⟨by omega, by omega⟩, he, ⟨by omega, by omega, by omega, by omega, by omega, by omega, by omega, by omega, h.td.1, h.td.2⟩, Nat.le_refl _, fun _ _ => rfl⟩⟩
end Go.Proofs.YtmooddbhcccicaaGreatDoor

/- A shelf: write, where room is left. -/
namespace Go.Proofs.YtmooddbhcccicaaGreatDoor
set_option linter.unusedVariables false
set_option linter.unusedSimpArgs false
open Go.RowKit Go.Deep Go.Maps

set_option maxRecDepth 100000 in
set_option maxHeartbeats 3200000 in
theorem swrite_ok {w : World} {Z : Nat → Prop} {sh mp g bp d m gf s q a b c e lt y : Nat} {h : List Rc} {dur : List Nat} {T : Nat → Option (List Nat)} (hl : Lg w g bp d m gf s q a b c e lt y (h.map wrS) dur T) (x : Sk w Z sh mp g h) (r : Rc) (p : Option Addr) (cp : Nat)
    (hr : Rb w p r.b.length r.b) (hg : GoodR r) (hn : h.length + 1 ≤ 1000) (hz : ∀ a, p = some a → Z a.block) (hd : sh ≠ mp ∧ ¬ Z sh ∧ ¬ Z mp) (hq : ∀ b, (b = m ∨ b = g ∨ b = gf) → ¬ Z b ∧ b ≠ sh ∧ b ≠ mp) (hq2 : bp ≠ sh ∧ bp ≠ mp ∧ d ≠ sh ∧ d ≠ mp)
    (hroom : (secS r : Int) + behS (stS h).1 (stS h).2 r + (totW (h.map wrS) : Int) ≤ (s : Int)) (hfit : totW (h.map wrS) + secS r ≤ s) (htu : Turns w) :
    Calls Tryz.prog 45 #[.pointer (some ⟨sh, 0, none⟩), rcV r p cp] w fun e9 w' => e9 = .returned (.int .i64 0) ∧ Kp (fun x => x = m ∨ x = g ∨ x = gf ∨ x = sh ∨ x = mp) w w' ∧ Sk w' Z sh mp g (h ++ [r]) ∧ ∃ q' T', Lg w' g bp d m gf s q' a b c e (lt + 1) y ((h ++ [r]).map wrS) dur T' := by
  obtain ⟨u1, u2, u3, u4, u5⟩ := hl.bounds
  have hbd := stS_bd x.g x.n
  have hsr := secS_le hg
  obtain ⟨t, ht⟩ : ∃ t, t = behS (stS h).1 (stS h).2 r := ⟨_, rfl⟩
  rw [← ht] at hroom
  obtain ⟨W, hW⟩ : ∃ W, W = (secS r : Int) + t := ⟨_, rfl⟩
  obtain ⟨k, hk⟩ : ∃ k, k = s - totW (h.map wrS) := ⟨_, rfl⟩
  have hWk : W ≤ (k : Int) := by omega
  have htlo : -60000 ≤ t := by
    have h1 : (0 : Int) ≤ (secS r : Int) := Int.natCast_nonneg _
    rw [ht]
    unfold behS
    cases hM : (stS h).1 (subS r) with
    | none => dsimp only; split <;> omega
    | some o =>
      have h2 := (secS_le (x.g o (hbd.2.2 _ _ hM))).2
      dsimp only
      split <;> omega
  have HW : Hid (IntKind.i64.wrap ((secS r : Int) + t) = W) := by
    have h3 : -100000 ≤ W ∧ W ≤ 100000 := by omega
    refine wrapI ?_
    rw [← hW]
    clear hroom hfit hsr hbd u1 u2 u3 u4 u5 ht hk hWk htlo hW
    unfold wrap64
    omega
  obtain ⟨r0, hr0⟩ : ∃ r0, r0 = w.heap.size := ⟨_, rfl⟩
  obtain ⟨w0, hw0⟩ : ∃ y, y = w.alloc (.cells #[.int .i64 (r.k : Int), .int .i64 (r.n : Int), .int .i64 (r.i : Int), .int .i64 (r.e : Int), .slice p r.b.length cp] 85) := ⟨_, rfl⟩
  have HK0 : Hid (Kp (fun _ => False) w w0) := by rw [hw0]; exact (Kp.refl _ _).alloc _
  have HL0 : Hid (Lv w0 r0 [.int .i64 (r.k : Int), .int .i64 (r.n : Int), .int .i64 (r.i : Int), .int .i64 (r.e : Int), .slice p r.b.length cp]) := by rw [hw0, hr0]; exact Lv.new _ _ _
  have HLg : Hid (Lg w0 g bp d m gf s q a b c e lt y (h.map wrS) dur T) := hl.keep0 HK0.out
  have HSk : Hid (Sk w0 Z sh mp g h) := x.keep HK0.out (fun e => e) (fun e => e) (fun _ _ e => e)
  have HB0 : Hid (Rb w0 p r.b.length r.b) := hr.keep0 HK0.out
  have HTu : Hid (Turns w0) := htu.keep0 HK0.out
  have HQ : Hid ((∀ b, (b = m ∨ b = g ∨ b = gf) → ¬ Z b ∧ b ≠ sh ∧ b ≠ mp) ∧ bp ≠ sh ∧ bp ≠ mp ∧ d ≠ sh ∧ d ≠ mp) := ⟨hq, hq2⟩
  have HD : Hid (sh ≠ mp ∧ ¬ Z sh ∧ ¬ Z mp) := hd
  have HG : Hid (GoodR r ∧ h.length + 1 ≤ 1000 ∧ ∀ a, p = some a → Z a.block) := ⟨hg, hn, hz⟩
  have HFt : Hid (totW (h.map wrS) + secS r ≤ s) := hfit
  have HR : Hid (r0 ≠ sh ∧ r0 ≠ mp ∧ ¬ (r0 = m ∨ r0 = g ∨ r0 = gf)) := by
    have h1 := x.l.lt (by simp)
    have h2 : mp < w.heap.size := by obtain ⟨c9, T9, _, h2, _⟩ := x.m; exact h2.lt
    have h3 := hl.blk
    exact ⟨by omega, by omega, by omega⟩
  have HSe : Hid (∀ u, Kp (fun _ => False) w0 u → Calls Tryz.prog 80 #[.agg #[.int .i64 (r.k : Int), .int .i64 (r.n : Int), .int .i64 (r.i : Int), .int .i64 (r.e : Int), .slice p r.b.length cp]] u fun e w' => e = .returned (.int .i64 (secS r : Int)) ∧ Kp (fun _ => False) u w') := fun u ku => recsec_ok r p cp u (HB0.out.keep0 ku) hg
  have HBe : Hid (∀ u, Kp (fun _ => False) w0 u → Calls Tryz.prog 81 #[.pointer (some ⟨sh, 1, none⟩), .agg #[.int .i64 (r.k : Int), .int .i64 (r.n : Int), .int .i64 (r.i : Int), .int .i64 (r.e : Int), .slice p r.b.length cp]] u fun e w' => e = .returned (.int .i64 t) ∧ Kp (fun _ => False) u w') := fun u ku => by rw [ht]; exact behind_ok (HSk.out.keep ku (fun e => e) (fun e => e) (fun _ _ e => e)) r p cp (HB0.out.keep0 ku) hg
  have HS1 : Hid (∀ z, Kp (fun _ => False) w0 z → Kp (fun _ => False) w0 z ∧ z.cell? ⟨r0, 0, none⟩ = some (.int .i64 (r.k : Int)) ∧ z.cell? ⟨r0, 1, none⟩ = some (.int .i64 (r.n : Int)) ∧ z.cell? ⟨r0, 2, none⟩ = some (.int .i64 (r.i : Int)) ∧ z.cell? ⟨r0, 3, none⟩ = some (.int .i64 (r.e : Int)) ∧ z.cell? ⟨r0, 4, none⟩ = some (.slice p r.b.length cp)) := fun z kz => ⟨kz, kz.cellv (HL0.out.cell (j := 0) rfl) id, kz.cellv (HL0.out.cell (j := 1) rfl) id, kz.cellv (HL0.out.cell (j := 2) rfl) id, kz.cellv (HL0.out.cell (j := 3) rfl) id, kz.cellv (HL0.out.cell (j := 4) rfl) id⟩
  have HTr : Hid (∀ u u' : World, Kp (fun _ => False) w0 u → Kp (fun _ => False) u u' → Kp (fun _ => False) w0 u') := fun u u' h1 h2 => h1.trans h2 (fun _ _ e => e)
  have HKk : Hid (k = s - totW (h.map wrS)) := hk
  obtain ⟨lt1, hlt1⟩ : ∃ lt1, lt1 = lt + 1 := ⟨_, rfl⟩
  have HLt1 : Hid (lt1 = lt + 1) := hlt1
  rw [← hlt1]
  clear hlt1
  show Calls Tryz.prog 45 #[.pointer (some ⟨sh, 0, none⟩), .agg #[.int .i64 (r.k : Int), .int .i64 (r.n : Int), .int .i64 (r.i : Int), .int .i64 (r.e : Int), .slice p r.b.length cp]] w _
  clear hl x hr hg hn hz hd hq hq2 hroom hfit htu u1 u2 u3 u4 u5 hbd hsr ht hW hk htlo
  go_enter Tryz.func45, Tryz.ntmps45
  go_upto_region 1 with fail
  rw [← hw0, ← hr0]
  clear hw0 hr0
  go_cut [5] (fun v wz => v = .int .i64 W ∧ Hid (Kp (fun _ => False) w0 wz))
  case first =>
    have kd : Kp (fun _ => False) w0 w0.drew := (Kp.refl _ _).drew
    have hw1 := HW.out
    go_region_held3 (fun z => Kp (fun _ => False) w0 z ∧ z.cell? ⟨r0, 0, none⟩ = some (.int .i64 (r.k : Int)) ∧ z.cell? ⟨r0, 1, none⟩ = some (.int .i64 (r.n : Int)) ∧ z.cell? ⟨r0, 2, none⟩ = some (.int .i64 (r.i : Int)) ∧ z.cell? ⟨r0, 3, none⟩ = some (.int .i64 (r.e : Int)) ∧ z.cell? ⟨r0, 4, none⟩ = some (.slice p r.b.length cp))
      (first
        | exact HS1.out _ kd
        | exact HS1.out _ kw2
        | exact HS1.out _ kw1)
      (first
        | (go_at_call 80; first | (refine (HSe.out _ kw1).mono ?_; rintro e9 w2 ⟨rfl, k2⟩; have kw2 := HTr.out _ _ kw1 k2) | (refine (HSe.out _ kd).mono ?_; rintro e9 w1 ⟨rfl, k1⟩; have kw1 := HTr.out _ _ kd k1))
        | (go_at_call 81; first | (refine (HBe.out _ kw1).mono ?_; rintro e9 w2 ⟨rfl, k2⟩; have kw2 := HTr.out _ _ kw1 k2) | (refine (HBe.out _ kd).mono ?_; rintro e9 w1 ⟨rfl, k1⟩; have kw1 := HTr.out _ _ kd k1)))
    all_goals
      go_simp
      go_wp2_with fail
      go_meet
      first
        | exact ⟨by first | rfl | rw [hw1], kw2⟩
        | trace_state
  case rest =>
    obtain ⟨rfl, HKc⟩ := hcut
    clear HS1 HTr HSe HBe HW
    have HLc : Hid (Lg wc g bp d m gf s q a b c e lt y (h.map wrS) dur T) := HLg.out.keep0 HKc.out
    have HSc : Hid (Sk wc Z sh mp g h) := HSk.out.keep HKc.out (fun e => e) (fun e => e) (fun _ _ e => e)
    have HRm : Hid (Calls Tryz.prog 82 #[.pointer (some ⟨g, 0, none⟩)] wc fun e9 w' => e9 = .returned (.int .i64 (k : Int)) ∧ w' = wc) := by rw [HKk.out]; exact room_ok HLc.out.wl
    have HRm2 := HRm
    have s0 : wc.cell? ⟨sh, 0, none⟩ = some (.pointer (some ⟨g, 0, none⟩)) := HSc.out.l.cell (j := 0) rfl
    have hlt : ¬ ((k : Int) < W) := by omega
    have HHb : Hid (w0.heap.size ≤ wc.heap.size) := HKc.out.size
    clear HLg HSk hWk
    go_wp2_with fail
    refine HRm.out.mono ?_
    rintro e9 w9 ⟨rfl, hw9⟩
    have hw8 := hw9.symm
    subst hw8
    clear hw9 HRm
    go_wp2_with fail
    refine HRm2.out.mono ?_
    rintro e9 w9 ⟨rfl, hw9⟩
    have hw8 := hw9.symm
    subst hw8
    clear hw9 HRm2
    go_upto_region 8 with fail
    have HLr : Hid (Lv wc r0 [.int .i64 (r.k : Int), .int .i64 (r.n : Int), .int .i64 (r.i : Int), .int .i64 (r.e : Int), .slice p r.b.length cp]) := HL0.out.keep HKc.out id
    have HBc : Hid (Rb wc p r.b.length r.b) := HB0.out.keep0 HKc.out
    have HTc : Hid (Turns wc) := HTu.out.keep0 HKc.out
    have HWr : Hid (∀ u, Kp (fun _ => False) wc u → Calls Tryz.prog 86 #[.agg #[.int .i64 (r.k : Int), .int .i64 (r.n : Int), .int .i64 (r.i : Int), .int .i64 (r.e : Int), .slice p r.b.length cp]] u fun e w' => ∃ v, e = .returned v ∧ Kp (fun _ => False) u w' ∧ Ow w' u.heap.size v (wrS r)) := fun u ku => written_ok r p cp u (HBc.out.keep0 ku) HG.out.1
    have HAp : Hid (∀ (u0 u : World) (v : Value), Kp (fun _ => False) wc u0 → Kp (fun _ => False) u0 u → Ow u u0.heap.size v (wrS r) → Calls Tryz.prog 85 #[.pointer (some ⟨g, 0, none⟩), v] u fun e9 w' => e9 = .returned (.tuple #[.int .i64 (lt1 : Int), .int .i64 0]) ∧ Kp (fun x => x = m ∨ x = g ∨ x = gf) wc w' ∧ ∃ q' T', Lg w' g bp d m gf s q' a b c e lt1 y (h.map wrS ++ [wrS r]) dur T') := fun u0 u v k0 k1 ov => by
      rw [HLt1.out]
      obtain ⟨q9, c9, rfl, hc9, hr9, hb9⟩ := ov.rb (wrS_b HG.out.1)
      have hln := wrS_len HG.out.1
      have ku : Kp (fun _ => False) wc u := k0.trans k1 (fun _ _ e => e)
      have hbk := HLc.out.blk
      have hsz := k0.size
      refine (lg_append (HLc.out.keep0 ku) q9 (wrS r).length c9 (wrS r) hr9 hc9 (fun z hz _ => ?_) (HTc.out.keep0 ku)).mono ?_
      · have := (hb9 z hz).1
        omega
      · rintro e9 w' (⟨hx, _, _⟩ | ⟨_, hx, _, _⟩ | ⟨_, _, rfl, kk, q', T', l', _⟩)
        · omega
        · have := HFt.out
          have e9 : secS r = needW (wrS r) := rfl
          omega
        · exact ⟨rfl, (ku.mono (fun _ _ e => e.elim)).trans kk (fun _ _ e => e), q', T', l'⟩
    have HS8 : Hid (∀ z, Kp (fun x => x = m ∨ x = g ∨ x = gf) wc z → Kp (fun x => x = m ∨ x = g ∨ x = gf) wc z ∧ z.cell? ⟨sh, 0, none⟩ = some (.pointer (some ⟨g, 0, none⟩)) ∧ z.cell? ⟨r0, 0, none⟩ = some (.int .i64 (r.k : Int)) ∧ z.cell? ⟨r0, 1, none⟩ = some (.int .i64 (r.n : Int)) ∧ z.cell? ⟨r0, 2, none⟩ = some (.int .i64 (r.i : Int)) ∧ z.cell? ⟨r0, 3, none⟩ = some (.int .i64 (r.e : Int)) ∧ z.cell? ⟨r0, 4, none⟩ = some (.slice p r.b.length cp)) := fun z kz => ⟨kz, kz.cellv (HSc.out.l.cell (j := 0) rfl) (fun e => (HQ.out.1 sh e).2.1 rfl), kz.cellv (HLr.out.cell (j := 0) rfl) HR.out.2.2, kz.cellv (HLr.out.cell (j := 1) rfl) HR.out.2.2, kz.cellv (HLr.out.cell (j := 2) rfl) HR.out.2.2, kz.cellv (HLr.out.cell (j := 3) rfl) HR.out.2.2, kz.cellv (HLr.out.cell (j := 4) rfl) HR.out.2.2⟩
    have kd0 : Kp (fun _ => False) wc wc.drew := (Kp.refl _ _).drew
    have kd8 : Kp (fun x => x = m ∨ x = g ∨ x = gf) wc wc.drew := (Kp.refl _ _).drew
    have HM8 : Hid (∀ z, Kp (fun _ => False) wc z → Kp (fun x => x = m ∨ x = g ∨ x = gf) wc z) := fun z kz => kz.mono (fun _ _ e => e.elim)
    have HT8 : Hid (∀ u u' : World, Kp (fun _ => False) wc u → Kp (fun _ => False) u u' → Kp (fun _ => False) wc u') := fun u u' h1 h2 => h1.trans h2 (fun _ _ e => e)
    clear s0 hlt
    go_region_held3 (fun z => Kp (fun x => x = m ∨ x = g ∨ x = gf) wc z ∧ z.cell? ⟨sh, 0, none⟩ = some (.pointer (some ⟨g, 0, none⟩)) ∧ z.cell? ⟨r0, 0, none⟩ = some (.int .i64 (r.k : Int)) ∧ z.cell? ⟨r0, 1, none⟩ = some (.int .i64 (r.n : Int)) ∧ z.cell? ⟨r0, 2, none⟩ = some (.int .i64 (r.i : Int)) ∧ z.cell? ⟨r0, 3, none⟩ = some (.int .i64 (r.e : Int)) ∧ z.cell? ⟨r0, 4, none⟩ = some (.slice p r.b.length cp))
      (first
        | exact HS8.out _ kd8
        | exact HS8.out _ (HM8.out _ kw1)
        | exact HS8.out _ kw8)
      (first
        | (go_at_call 86; refine (HWr.out _ kd0).mono ?_; rintro e9 w1 ⟨v1, rfl, k1, ov1⟩; have kw1 := HT8.out _ _ kd0 k1)
        | (go_at_call 85; refine (HAp.out _ _ _ kd0 k1 ov1).mono ?_; rintro e9 w8 ⟨rfl, kw8, lg8⟩))
    all_goals
      have HK8 : Hid (Kp (fun x => x = m ∨ x = g ∨ x = gf) wc w8) := kw8
      have HL8 : Hid (∃ q' T', Lg w8 g bp d m gf s q' a b c e lt1 y (h.map wrS ++ [wrS r]) dur T') := lg8
      have HS8k : Hid (Sk w8 Z sh mp g h) := HSc.out.keep kw8 (fun e => (HQ.out.1 sh e).2.1 rfl) (fun e => (HQ.out.1 mp e).2.2 rfl) (fun b hb e => (HQ.out.1 b e).1 hb)
      have HLr8 : Hid (Lv w8 r0 [.int .i64 (r.k : Int), .int .i64 (r.n : Int), .int .i64 (r.i : Int), .int .i64 (r.e : Int), .slice p r.b.length cp]) := HLr.out.keep kw8 HR.out.2.2
      have HB8 : Hid (Rb w8 p r.b.length r.b) := HBc.out.keep kw8 (fun a ha _ e => (HQ.out.1 _ e).1 (HG.out.2.2 a ha))
      clear HS8 HM8 HT8 HAp HWr kw8 lg8 kd0 kd8 kw1 k1 ov1
      have HTk : Hid (∀ u, Kp (fun _ => False) w8 u → Calls Tryz.prog 87 #[.pointer (some ⟨sh, 1, none⟩), .agg #[.int .i64 (r.k : Int), .int .i64 (r.n : Int), .int .i64 (r.i : Int), .int .i64 (r.e : Int), .slice p r.b.length cp]] u fun e w' => e = .returned (.tuple #[]) ∧ Kp (fun b => b = sh ∨ b = mp) w8 w' ∧ Sk w' Z sh mp g (h ++ [r])) := fun u ku => by
        refine (take_ok (HS8k.out.keep ku (fun e => e) (fun e => e) (fun _ _ e => e)) r p cp (HB8.out.keep0 ku) HG.out.1 HG.out.2.1 HG.out.2.2 HD.out).mono ?_
        rintro e9 w' ⟨rfl, kk, sk⟩
        exact ⟨rfl, (ku.mono (fun _ _ e => e.elim)).trans kk (fun _ _ e => e), sk⟩
      have HS11 : Hid (∀ z, Kp (fun b => b = sh ∨ b = mp) w8 z → Kp (fun b => b = sh ∨ b = mp) w8 z ∧ z.cell? ⟨r0, 0, none⟩ = some (.int .i64 (r.k : Int)) ∧ z.cell? ⟨r0, 1, none⟩ = some (.int .i64 (r.n : Int)) ∧ z.cell? ⟨r0, 2, none⟩ = some (.int .i64 (r.i : Int)) ∧ z.cell? ⟨r0, 3, none⟩ = some (.int .i64 (r.e : Int)) ∧ z.cell? ⟨r0, 4, none⟩ = some (.slice p r.b.length cp)) := fun z kz => ⟨kz, kz.cellv (HLr8.out.cell (j := 0) rfl) (fun e => e.elim HR.out.1 HR.out.2.1), kz.cellv (HLr8.out.cell (j := 1) rfl) (fun e => e.elim HR.out.1 HR.out.2.1), kz.cellv (HLr8.out.cell (j := 2) rfl) (fun e => e.elim HR.out.1 HR.out.2.1), kz.cellv (HLr8.out.cell (j := 3) rfl) (fun e => e.elim HR.out.1 HR.out.2.1), kz.cellv (HLr8.out.cell (j := 4) rfl) (fun e => e.elim HR.out.1 HR.out.2.1)⟩
      have kd1 : Kp (fun _ => False) w8 w8.drew := (Kp.refl _ _).drew
      have kd11 : Kp (fun b => b = sh ∨ b = mp) w8 w8.drew := (Kp.refl _ _).drew
      go_simp
      go_upto_region 11 with fail
      go_region_held3 (fun z => Kp (fun b => b = sh ∨ b = mp) w8 z ∧ z.cell? ⟨r0, 0, none⟩ = some (.int .i64 (r.k : Int)) ∧ z.cell? ⟨r0, 1, none⟩ = some (.int .i64 (r.n : Int)) ∧ z.cell? ⟨r0, 2, none⟩ = some (.int .i64 (r.i : Int)) ∧ z.cell? ⟨r0, 3, none⟩ = some (.int .i64 (r.e : Int)) ∧ z.cell? ⟨r0, 4, none⟩ = some (.slice p r.b.length cp))
        (first
          | exact HS11.out _ kd11
          | exact HS11.out _ kwT)
        (first
          | (go_at_call 87; refine (HTk.out _ kd1).mono ?_; rintro e9 wT ⟨rfl, kwT, skT⟩))
      obtain ⟨q', T', lgq⟩ := HL8.out
      have HF : Hid (Kp (fun x => x = m ∨ x = g ∨ x = gf ∨ x = sh ∨ x = mp) w wT ∧ Sk wT Z sh mp g (h ++ [r]) ∧ ∃ q' T', Lg wT g bp d m gf s q' a b c e lt1 y ((h ++ [r]).map wrS) dur T') := by
        have h0 : Kp (fun _ => False) w wc := HK0.out.trans HKc.out (fun _ _ e => e)
        have h1 : Kp (fun x => x = m ∨ x = g ∨ x = gf ∨ x = sh ∨ x = mp) w w8 := (h0.mono (fun _ _ e => e.elim)).trans HK8.out (fun b _ e => by
          rcases e with e | e | e
          · exact Or.inl e
          · exact Or.inr (Or.inl e)
          · exact Or.inr (Or.inr (Or.inl e)))
        refine ⟨h1.trans kwT (fun b _ e => by
          rcases e with e | e
          · exact Or.inr (Or.inr (Or.inr (Or.inl e)))
          · exact Or.inr (Or.inr (Or.inr (Or.inr e)))), skT, q', T', ?_⟩
        rw [List.map_append]
        have hQ := HQ.out
        have hgg := (hQ.1 g (Or.inr (Or.inl rfl))).2
        have hmm := (hQ.1 m (Or.inl rfl)).2
        have hff := (hQ.1 gf (Or.inr (Or.inr rfl))).2
        exact lgq.keep kwT (fun e => e.elim hgg.1 hgg.2) (fun e => e.elim hQ.2.1 hQ.2.2.1) (fun e => e.elim hQ.2.2.2.1 hQ.2.2.2.2) (fun e => e.elim hmm.1 hmm.2) (fun e => e.elim hff.1 hff.2)
      clear HS11 HTk kd1 kd11 lgq kwT skT
      go_simp
      go_wp2_with fail
      go_ret
      exact ⟨rfl, HF.out⟩
end Go.Proofs.YtmooddbhcccicaaGreatDoor

/- Texts of this proof, joined: Ij, Ik. -/
/- A shelf whole: its log and its stock; Fence. -/
namespace Go.Proofs.YtmooddbhcccicaaGreatDoor
set_option linter.unusedVariables false
set_option linter.unusedSimpArgs false
open Go.RowKit Go.Deep Go.Maps

/-- what a call of a shelf may write -/
abbrev SW (sh mp g m gf : Nat) : Nat → Prop := fun x => x = m ∨ x = g ∨ x = gf ∨ x = sh ∨ x = mp
/-- a shelf, its log and its plate -/
structure Shf (w : World) (Z : Nat → Prop) (sh mp g bp d m gf s a b c e y : Nat) (dur : List Nat) (h : List Rc) : Prop where
  lg : ∃ q lt T, Lg w g bp d m gf s q a b c e lt y (h.map wrS) dur T
  sk : Sk w Z sh mp g h
  tu : Turns w
  ap : sh ≠ mp ∧ ¬ Z sh ∧ ¬ Z mp
  aq : ∀ x, (x = m ∨ x = g ∨ x = gf) → ¬ Z x ∧ x ≠ sh ∧ x ≠ mp
  ar : bp ≠ sh ∧ bp ≠ mp ∧ d ≠ sh ∧ d ≠ mp
  at_ : (0 : Nat) ≠ sh ∧ (0 : Nat) ≠ mp
section
variable {w : World} {Z : Nat → Prop} {sh mp g bp d m gf s a b c e y : Nat} {dur : List Nat} {h : List Rc}
theorem Shf.keep0 (x : Shf w Z sh mp g bp d m gf s a b c e y dur h) {w' : World} (k : Kp (fun _ => False) w w') : Shf w' Z sh mp g bp d m gf s a b c e y dur h := by
  obtain ⟨q, lt, T, hl⟩ := x.lg
  exact ⟨⟨q, lt, T, hl.keep0 k⟩, x.sk.keep k (fun e => e) (fun e => e) (fun _ _ e => e), x.tu.keep0 k, x.ap, x.aq, x.ar, x.at_⟩
theorem Shf.write (x : Shf w Z sh mp g bp d m gf s a b c e y dur h) (r : Rc) (p : Option Addr) (cp : Nat) (hr : Rb w p r.b.length r.b) (hg : GoodR r) (hn : h.length + 1 ≤ 1000) (hz : ∀ a, p = some a → Z a.block)
    (hroom : 2 * (secS r : Int) + (stS h).2 + (totW (h.map wrS) : Int) ≤ (s : Int)) (hfit : totW (h.map wrS) + secS r ≤ s) :
    Calls Tryz.prog 45 #[.pointer (some ⟨sh, 0, none⟩), rcV r p cp] w fun e9 w' => e9 = .returned (.int .i64 0) ∧ Kp (SW sh mp g m gf) w w' ∧ Shf w' Z sh mp g bp d m gf s a b c e y dur (h ++ [r]) := by
  obtain ⟨q, lt, T, hl⟩ := x.lg
  have h1 := behS_le (stS h).1 (stS h).2 r
  refine (swrite_ok hl x.sk r p cp hr hg hn hz x.ap x.aq x.ar (by omega) hfit x.tu).mono ?_
  rintro e9 w' ⟨rfl, k, sk, q', T', hl'⟩
  refine ⟨rfl, k, ⟨q', _, T', hl'⟩, sk, x.tu.keep k (fun e => ?_), x.ap, x.aq, x.ar, x.at_⟩
  rcases e with e | e | e | e | e
  · exact hl.lp.tm e
  · exact hl.lp.tg e
  · exact hl.lp.tf e
  · exact x.at_.1 e
  · exact x.at_.2 e
theorem rb_nil0 {w : World} : Rb w none 0 [] := ⟨rfl, fun x hx => absurd hx List.not_mem_nil, fun j hj => absurd hj (Nat.not_lt_zero _)⟩
theorem rz3 (w : World) (x y z : Int) (t : TypeId) : Rz (w.alloc (.cells #[.int .i64 x, .int .i64 y, .int .i64 z] t)) (some ⟨w.heap.size, 0, none⟩) [x, y, z] := fun j hj => by
  have hl := Lv.new w #[.int .i64 x, .int .i64 y, .int .i64 z] t
  refine ⟨w.heap.size, 0, rfl, ?_⟩
  rw [Nat.zero_add]
  match j, hj with
  | 0, _ => exact hl.cell (j := 0) rfl
  | 1, _ => exact hl.cell (j := 1) rfl
  | 2, _ => exact hl.cell (j := 2) rfl
theorem upTo3 {x y z : Nat} (hx : x ≤ 1152921504606846976) (hy : y ≤ 1152921504606846976) (hz : z ≤ 1152921504606846976) : upTo 1152921504606846976 [(x : Int), (y : Int), (z : Int)] = true := by
  unfold upTo
  simp
  omega

set_option maxRecDepth 100000 in
set_option maxHeartbeats 3200000 in
theorem sfence_new (x : Shf w Z sh mp g bp d m gf s a b c e y dur h) (bl ix ep : Nat) (hbl : bl ≤ 1152921504606846976) (hix : ix ≤ 1152921504606846976) (hep : ep ≤ 1152921504606846976) (hf : fncd h bl ix < ep) (hn : h.length + 1 ≤ 1000)
    (hroom : 2 * (secS ⟨3, bl, ix, ep, []⟩ : Int) + (stS h).2 + (totW (h.map wrS) : Int) ≤ (s : Int)) (hfit : totW (h.map wrS) + secS ⟨3, bl, ix, ep, []⟩ ≤ s) :
    Calls Tryz.prog 15 #[.pointer (some ⟨sh, 0, none⟩), .int .i64 (bl : Int), .int .i64 (ix : Int), .int .i64 (ep : Int)] w fun e9 w' => e9 = .returned (.int .i64 0) ∧ Kp (SW sh mp g m gf) w w' ∧ Shf w' Z sh mp g bp d m gf s a b c e y dur (h ++ [⟨3, bl, ix, ep, []⟩]) := by
  obtain ⟨r0, hr0⟩ : ∃ r0, r0 = w.heap.size := ⟨_, rfl⟩
  obtain ⟨w0, hw0⟩ : ∃ y, y = w.alloc (.cells #[.int .i64 (bl : Int), .int .i64 (ix : Int), .int .i64 (ep : Int)] 3) := ⟨_, rfl⟩
  have HK0 : Hid (Kp (fun _ => False) w w0) := by rw [hw0]; exact (Kp.refl _ _).alloc _
  have HS0 : Hid (Shf w0 Z sh mp g bp d m gf s a b c e y dur h) := x.keep0 HK0.out
  have HA : Hid (Calls Tryz.prog 44 #[.pointer (some ⟨sh, 0, none⟩), .slice (some ⟨r0, 0, none⟩) 3 3] w0 fun e w' => e = .returned (.int .i64 0) ∧ w' = w0) := by
    have h1 := asked_ok (HS0.out.sk.l.cell (j := 0) rfl) (some ⟨r0, 0, none⟩) 3 3 [(bl : Int), (ix : Int), (ep : Int)] (by rw [hw0, hr0]; exact rz3 w _ _ _ _) rfl (by omega)
    rw [upTo3 hbl hix hep] at h1
    exact h1
  have HFe : Hid (Calls _ _ _ w0 _) := fenced_ok HS0.out.sk bl ix hbl hix
  obtain ⟨F, hF⟩ : ∃ F, F = fncd h bl ix := ⟨_, rfl⟩
  rw [← hF] at HFe hf
  have hlt : ¬ ((ep : Int) ≤ (F : Int)) := by omega
  have HWr : Hid (Calls Tryz.prog 45 #[.pointer (some ⟨sh, 0, none⟩), .agg #[.int .i64 3, .int .i64 (bl : Int), .int .i64 (ix : Int), .int .i64 (ep : Int), .slice none 0 0]] w0 fun e9 w' => e9 = .returned (.int .i64 0) ∧ Kp (SW sh mp g m gf) w0 w' ∧ Shf w' Z sh mp g bp d m gf s a b c e y dur (h ++ [⟨3, bl, ix, ep, []⟩])) :=
    HS0.out.write ⟨3, bl, ix, ep, []⟩ none 0 rb_nil0 ⟨⟨show 1 ≤ 3 by omega, show 3 ≤ 4 by omega⟩, hbl, hix, hep, fun x hx => absurd hx List.not_mem_nil, show 0 ≤ 1980 by omega, fun _ => rfl⟩ hn (fun a ha => absurd ha (by simp)) hroom hfit
  clear x hbl hix hep hf hn hroom hfit hF
  go_enter Tryz.func15, Tryz.ntmps15
  go_wp2_with fail
  rw [← hw0, ← hr0]
  clear hw0 hr0
  refine HA.out.mono ?_
  rintro e9 w9 ⟨rfl, hw9⟩
  have hw8 := hw9.symm
  subst hw8
  clear hw9 HA
  go_wp2_with fail
  refine HFe.out.mono ?_
  rintro e9 w9 ⟨rfl, hw9⟩
  have hw8 := hw9.symm
  subst hw8
  clear hw9 HFe
  go_wp2_with fail
  refine HWr.out.mono ?_
  rintro e9 w3 ⟨rfl, k3, s3⟩
  have HF : Hid (Kp (SW sh mp g m gf) w w3 ∧ Shf w3 Z sh mp g bp d m gf s a b c e y dur (h ++ [⟨3, bl, ix, ep, []⟩])) := ⟨(HK0.out.mono (fun _ _ e => e.elim)).trans k3 (fun _ _ e => e), s3⟩
  clear k3 s3 HWr
  go_wp2_with fail
  go_ret
  exact ⟨rfl, HF.out⟩
end
end Go.Proofs.YtmooddbhcccicaaGreatDoor

/- A shelf: Drop. -/
namespace Go.Proofs.YtmooddbhcccicaaGreatDoor
set_option linter.unusedVariables false
set_option linter.unusedSimpArgs false
open Go.RowKit Go.Deep Go.Maps

theorem rz2 (w : World) (x y : Int) (t : TypeId) : Rz (w.alloc (.cells #[.int .i64 x, .int .i64 y] t)) (some ⟨w.heap.size, 0, none⟩) [x, y] := fun j hj => by
  have hl := Lv.new w #[.int .i64 x, .int .i64 y] t
  refine ⟨w.heap.size, 0, rfl, ?_⟩
  rw [Nat.zero_add]
  match j, hj with
  | 0, _ => exact hl.cell (j := 0) rfl
  | 1, _ => exact hl.cell (j := 1) rfl
theorem upTo2 {x y : Nat} (hx : x ≤ 1152921504606846976) (hy : y ≤ 1152921504606846976) : upTo 1152921504606846976 [(x : Int), (y : Int)] = true := by
  unfold upTo
  simp
  omega
section
variable {w : World} {Z : Nat → Prop} {sh mp g bp d m gf s a b c e y : Nat} {dur : List Nat} {h : List Rc}
/-- what a stock's map answers -/
theorem Sk.look (x : Sk w Z sh mp g h) (t : K3) (hw : wf3 t) : ∃ (a1 a2 a3 a4 : Int) (qq : Option Addr) (nn cc : Nat) (ok : Bool), (∀ z, Kp (fun _ => False) w z → (Instr.lookup 88 (.map (some mp)) (pv3 t) true).run Tryz.prog z = .ok (.tuple #[.agg #[.int .i64 a1, .int .i64 a2, .int .i64 a3, .int .i64 a4, .slice qq nn cc], .bool ok]) z) ∧
    ((ok = false ∧ (stS h).1 t = none) ∨ (ok = true ∧ ∃ o, (stS h).1 t = some o ∧ a1 = (o.k : Int) ∧ a2 = (o.n : Int) ∧ a3 = (o.i : Int) ∧ a4 = (o.e : Int) ∧ nn = o.b.length ∧ Rb w qq o.b.length o.b ∧ GoodR o ∧ ∀ a, qq = some a → Z a.block)) := by
  obtain ⟨c, T, hc1, hc2, hc3⟩ := x.m
  have hlk : ∀ z, Kp (fun _ => False) w z → (Instr.lookup 88 (.map (some mp)) (pv3 t) true).run Tryz.prog z = .ok (.tuple #[(T t).getD zRec, .bool (T t).isSome]) z := fun z k => look_px3_ok Tryz.underlying88 zeroRec (hc2.keep k id) hw
  cases hM : (stS h).1 t with
  | none =>
    rw [(hc3 _ hw).1 hM] at hlk
    exact ⟨0, 0, 0, 0, none, 0, 0, false, hlk, Or.inl ⟨rfl, rfl⟩⟩
  | some o =>
    obtain ⟨p2, cp2, b1, b2, b3⟩ := (hc3 _ hw).2 o hM
    rw [b1] at hlk
    exact ⟨o.k, o.n, o.i, o.e, p2, o.b.length, cp2, true, hlk, Or.inr ⟨rfl, o, rfl, rfl, rfl, rfl, rfl, rfl, b2, x.g o ((stS_bd x.g x.n).2.2 _ _ hM), b3⟩⟩

set_option maxRecDepth 100000 in
set_option maxHeartbeats 3200000 in
theorem sdrop_ok (x : Shf w Z sh mp g bp d m gf s a b c e y dur h) (bl ix : Nat) (hbl : bl ≤ 1152921504606846976) (hix : ix ≤ 1152921504606846976) (hn : h.length + 1 ≤ 1000)
    (hroom : 2 * (secS ⟨2, bl, ix, 0, []⟩ : Int) + (stS h).2 + (totW (h.map wrS) : Int) ≤ (s : Int)) (hfit : totW (h.map wrS) + secS ⟨2, bl, ix, 0, []⟩ ≤ s) :
    Calls Tryz.prog 22 #[.pointer (some ⟨sh, 0, none⟩), .int .i64 (bl : Int), .int .i64 (ix : Int)] w fun e9 w' =>
      ((stS h).1 ⟨1, (bl : Int), (ix : Int)⟩ = none ∧ e9 = .returned (.int .i64 80) ∧ Kp (fun _ => False) w w') ∨
      ((∃ o, (stS h).1 ⟨1, (bl : Int), (ix : Int)⟩ = some o) ∧ e9 = .returned (.int .i64 0) ∧ Kp (SW sh mp g m gf) w w' ∧ Shf w' Z sh mp g bp d m gf s a b c e y dur (h ++ [⟨2, bl, ix, 0, []⟩])) := by
  obtain ⟨r0, hr0⟩ : ∃ r0, r0 = w.heap.size := ⟨_, rfl⟩
  obtain ⟨w0, hw0⟩ : ∃ y, y = w.alloc (.cells #[.int .i64 (bl : Int), .int .i64 (ix : Int)] 3) := ⟨_, rfl⟩
  have HK0 : Hid (Kp (fun _ => False) w w0) := by rw [hw0]; exact (Kp.refl _ _).alloc _
  have HS0 : Hid (Shf w0 Z sh mp g bp d m gf s a b c e y dur h) := x.keep0 HK0.out
  have HA : Hid (Calls Tryz.prog 44 #[.pointer (some ⟨sh, 0, none⟩), .slice (some ⟨r0, 0, none⟩) 2 2] w0 fun e w' => e = .returned (.int .i64 0) ∧ w' = w0) := by
    have h1 := asked_ok (HS0.out.sk.l.cell (j := 0) rfl) (some ⟨r0, 0, none⟩) 2 2 [(bl : Int), (ix : Int)] (by rw [hw0, hr0]; exact rz2 w _ _ _) rfl (by omega)
    rw [upTo2 hbl hix] at h1
    exact h1
  have hwf : wf3 ⟨1, (bl : Int), (ix : Int)⟩ := ⟨wf_n60 (n := 1) (by omega), wf_n60 hbl, wf_n60 hix⟩
  obtain ⟨a1, a2, a3, a4, qq, nn, cc, ok, hlk, hM⟩ := HS0.out.sk.look _ hwf
  have hlk0 : (Instr.lookup 88 (.map (some mp)) (.agg #[.int .i64 1, .int .i64 (bl : Int), .int .i64 (ix : Int)]) true).run Tryz.prog w0 = .ok (.tuple #[.agg #[.int .i64 a1, .int .i64 a2, .int .i64 a3, .int .i64 a4, .slice qq nn cc], .bool ok]) w0 := hlk w0 (Kp.refl _ _)
  have HM : Hid ((ok = false ∧ (stS h).1 ⟨1, (bl : Int), (ix : Int)⟩ = none) ∨ (ok = true ∧ ∃ o, (stS h).1 ⟨1, (bl : Int), (ix : Int)⟩ = some o)) := by
    rcases hM with hM | ⟨h1, o, h2, _⟩
    · exact Or.inl hM
    · exact Or.inr ⟨h1, o, h2⟩
  have HWr : Hid (∀ u, Kp (fun _ => False) w0 u → Calls Tryz.prog 45 #[.pointer (some ⟨sh, 0, none⟩), .agg #[.int .i64 2, .int .i64 (bl : Int), .int .i64 (ix : Int), .int .i64 0, .slice none 0 0]] u fun e9 w' => e9 = .returned (.int .i64 0) ∧ Kp (SW sh mp g m gf) u w' ∧ Shf w' Z sh mp g bp d m gf s a b c e y dur (h ++ [⟨2, bl, ix, 0, []⟩])) := fun u ku =>
    (HS0.out.keep0 ku).write ⟨2, bl, ix, 0, []⟩ none 0 rb_nil0 ⟨⟨show 1 ≤ 2 by omega, show 2 ≤ 4 by omega⟩, hbl, hix, show 0 ≤ 1152921504606846976 by omega, fun x hx => absurd hx List.not_mem_nil, show 0 ≤ 1980 by omega, fun _ => rfl⟩ hn (fun a ha => absurd ha (by simp)) hroom hfit
  have c1 : w0.cell? ⟨sh, 1, none⟩ = some (.map (some mp)) := HS0.out.sk.l.cell (j := 1) rfl
  clear x hbl hix hn hroom hfit hwf hlk hM
  go_enter Tryz.func22, Tryz.ntmps22
  go_wp2_with fail
  rw [← hw0, ← hr0]
  clear hw0 hr0
  refine HA.out.mono ?_
  rintro e9 w9 ⟨rfl, hw9⟩
  have hw8 := hw9.symm
  subst hw8
  clear hw9 HA
  have HKa : Hid (∀ o : Obj, Kp (fun _ => False) w0 (w0.alloc o)) := fun o => (Kp.refl _ _).alloc o
  rcases HM.out with ⟨rfl, hno⟩ | ⟨rfl, hyes⟩
  · have HN : Hid ((stS h).1 ⟨1, (bl : Int), (ix : Int)⟩ = none) := hno
    clear hno HM HWr
    go_wp2_with fail
    go_ret
    exact Or.inl ⟨HN.out, rfl, HK0.out.trans (HKa.out _) (fun _ _ e => e)⟩
  · have HY : Hid (∃ o, (stS h).1 ⟨1, (bl : Int), (ix : Int)⟩ = some o) := hyes
    clear hyes HM
    go_wp2_with fail
    refine (HWr.out _ (HKa.out _)).mono ?_
    rintro e9 w3 ⟨rfl, k3, s3⟩
    have HF : Hid (Kp (SW sh mp g m gf) w w3 ∧ Shf w3 Z sh mp g bp d m gf s a b c e y dur (h ++ [⟨2, bl, ix, 0, []⟩])) := ⟨((HK0.out.trans (HKa.out _) (fun _ _ e => e)).mono (fun _ _ e => e.elim)).trans k3 (fun _ _ e => e), s3⟩
    clear k3 s3 HWr
    go_wp2_with fail
    go_ret
    exact Or.inr ⟨HY.out, rfl, HF.out⟩
end
end Go.Proofs.YtmooddbhcccicaaGreatDoor
