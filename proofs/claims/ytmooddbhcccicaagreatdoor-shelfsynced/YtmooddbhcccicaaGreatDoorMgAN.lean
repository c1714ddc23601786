/- Texts of this proof, joined: MgBN, MgBO, MgBP. -/
import Derived.Test.YtmooddbhcccicaaGreatDoorMgBM
import Derived.Test.YtmooddbhcccicaaGreatDoorMgBI
import Derived.Test.YtmooddbhcccicaaGreatDoorMgAS
import Derived.Test.YtmooddbhcccicaaGreatDoorMgBK
import Derived.Handy
/- Texts of this proof, joined: St, Bn. -/
/- The walk of SameTexts of the same. -/
namespace Go.Proofs.YtmooddbhcccicaaGreatDoor
open Go.RowKit Go.Deep

/-- texts, as they lie: row t, text r at place r -/
def Rt (w : World) (t n : Nat) (N : Nat → List Nat) : Prop := ∃ (cp : Nat) (V : Nat → Value), n ≤ cp ∧ w.rowIs t 34 cp V ∧ ∀ r, r < n → ∃ p k c, V r = .slice p k c ∧ Rb w p k (N r)

set_option maxRecDepth 100000 in
set_option maxHeartbeats 800000 in
theorem same_texts (t1 t2 n c1 c2 : Nat) (N : Nat → List Nat) (w : World) (h1 : Rt w t1 n N) (h2 : Rt w t2 n N) (hn : (n : Int) ≤ 1000000) :
    Calls Tryz.prog 117 #[.slice (some ⟨t1, 0, none⟩) n c1, .slice (some ⟨t2, 0, none⟩) n c2, .func (.func 20) #[] #[]] w fun e w' => e = .returned (.bool true) ∧ w' = w := by
  obtain ⟨cp1, V1, hc1, r1, e1⟩ := h1
  obtain ⟨cp2, V2, hc2, r2, e2⟩ := h2
  have HE1 : Hid _ := e1
  have HE2 : Hid _ := e2
  clear e1 e2
  go_enter Tryz.func117, Tryz.ntmps117
  go_wp2
  go_loopg [17] n (fun gk x wr => ∃ k : Nat, k ≤ n ∧ gk = n - k ∧ x = .int .i64 k ∧ wr = w)
  case atStart => exact ⟨0, Nat.zero_le _, rfl, rfl, rfl⟩
  case round =>
    obtain ⟨k, hk, rfl, rfl, rfl⟩ := hrel
    by_cases hlt : (k : Int) < (n : Int)
    · obtain ⟨p1, k1, d1, v1, b1⟩ := HE1.out k (by omega)
      obtain ⟨p2, k2, d2, v2, b2⟩ := HE2.out k (by omega)
      have x1 := r1.cell (i := k) (by omega)
      have x2 := r2.cell (i := k) (by omega)
      rw [v1] at x1
      rw [v2] at x2
      have HEq : Hid (Calls _ _ _ wr _) := equal_same p1 p2 k1 k2 d1 d2 _ wr b1 b2
      clear v1 v2 b1 b2 r1 r2 HE1 HE2
      go_wp2_with (go_at_call 20; refine HEq.out.mono ?_; rintro e w' ⟨rfl, hw⟩; obtain rfl := hw.symm)
      go_roundg (n - (k + 1))
      case rel => exact ⟨k + 1, by omega, rfl, by go_num, rfl⟩
      case measure => omega
    · clear r1 r2 HE1 HE2
      go_wp2
      go_ret
      exact ⟨rfl, rfl⟩

set_option maxRecDepth 100000 in
set_option maxHeartbeats 800000 in
theorem sameTexts_ok (t1 t2 n c1 c2 : Nat) (N : Nat → List Nat) (w : World) (h1 : Rt w t1 n N) (h2 : Rt w t2 n N) (hn : (n : Int) ≤ 1000000) :
    Calls Tryz.prog 68 #[.slice (some ⟨t1, 0, none⟩) n c1, .slice (some ⟨t2, 0, none⟩) n c2] w fun e w' => e = .returned (.bool true) ∧ w' = w := by
  have H : Hid (Calls _ _ _ w _) := same_texts t1 t2 n c1 c2 N w h1 h2 hn
  clear h1 h2
  go_enter Tryz.func68, Tryz.ntmps68
  go_wp2_with (go_at_call 117; refine H.out.mono ?_; rintro e w' ⟨rfl, hw⟩; obtain rfl := hw.symm)
  go_ret
  exact ⟨rfl, rfl⟩
end Go.Proofs.YtmooddbhcccicaaGreatDoor

/- Texts that are the same; texts that are gathered; what a lost record leaves. -/
namespace Go.Proofs.YtmooddbhcccicaaGreatDoor
set_option linter.unusedVariables false
set_option linter.unusedSimpArgs false
open Go.RowKit Go.Deep

/-- texts, as they lie, none included -/
def Sx (w : World) (p : Option Addr) (ls : List (List Nat)) : Prop := ∀ r, r < ls.length → ∃ b o, p = some ⟨b, o, none⟩ ∧ ∃ pp k c, w.cell? ⟨b, o + r, none⟩ = some (.slice pp k c) ∧ Rb w pp k (ls.getD r [])
set_option maxRecDepth 100000 in
set_option maxHeartbeats 800000 in
theorem same_texts2 (p1 p2 : Option Addr) (n c1 c2 : Nat) (ls : List (List Nat)) (hl : n = ls.length) (w : World) (h1 : Sx w p1 ls) (h2 : Sx w p2 ls) (hn : (n : Int) ≤ 1000000) :
    Calls Tryz.prog 117 #[.slice p1 n c1, .slice p2 n c2, .func (.func 20) #[] #[]] w fun e w' => e = .returned (.bool true) ∧ w' = w := by
  by_cases h0 : n = 0
  · subst h0
    clear h1 h2
    go_enter Tryz.func117, Tryz.ntmps117
    go_wp2
    go_loopg [17] 0 (fun gk x wr => gk = 0 ∧ x = .int .i64 0 ∧ wr = w)
    case atStart => exact ⟨rfl, rfl, rfl⟩
    case round =>
      obtain ⟨rfl, rfl, rfl⟩ := hrel
      go_wp2
      go_ret
      exact ⟨rfl, rfl⟩
  · obtain ⟨b1, o1, rfl, _⟩ := h1 0 (by omega)
    obtain ⟨b2, o2, rfl, _⟩ := h2 0 (by omega)
    have HE1 : Hid (∀ r, r < n → ∃ pp k c, w.cell? ⟨b1, o1 + r, none⟩ = some (.slice pp k c) ∧ Rb w pp k (ls.getD r [])) := fun r hr => by
      obtain ⟨b, o, e, x⟩ := h1 r (by omega)
      cases e
      exact x
    have HE2 : Hid (∀ r, r < n → ∃ pp k c, w.cell? ⟨b2, o2 + r, none⟩ = some (.slice pp k c) ∧ Rb w pp k (ls.getD r [])) := fun r hr => by
      obtain ⟨b, o, e, x⟩ := h2 r (by omega)
      cases e
      exact x
    clear h1 h2 h0 hl
    go_enter Tryz.func117, Tryz.ntmps117
    go_wp2
    go_loopg [17] n (fun gk x wr => ∃ k : Nat, k ≤ n ∧ gk = n - k ∧ x = .int .i64 k ∧ wr = w)
    case atStart => exact ⟨0, Nat.zero_le _, rfl, rfl, rfl⟩
    case round =>
      obtain ⟨k, hk, rfl, rfl, rfl⟩ := hrel
      by_cases hlt : (k : Int) < (n : Int)
      · obtain ⟨p1, k1, d1, x1, b1⟩ := HE1.out k (by omega)
        obtain ⟨p2, k2, d2, x2, b2⟩ := HE2.out k (by omega)
        have HEq : Hid (Calls _ _ _ wr _) := equal_same p1 p2 k1 k2 d1 d2 _ wr b1 b2
        clear b1 b2 HE1 HE2
        go_wp2_with (go_at_call 20; refine HEq.out.mono ?_; rintro e w' ⟨rfl, hw⟩; obtain rfl := hw.symm)
        go_roundg (n - (k + 1))
        case rel => exact ⟨k + 1, by omega, rfl, by go_num, rfl⟩
        case measure => omega
      · clear HE1 HE2
        go_wp2
        go_ret
        exact ⟨rfl, rfl⟩
set_option maxRecDepth 100000 in
set_option maxHeartbeats 800000 in
theorem sameTexts2_ok (p1 p2 : Option Addr) (n c1 c2 : Nat) (ls : List (List Nat)) (hl : n = ls.length) (w : World) (h1 : Sx w p1 ls) (h2 : Sx w p2 ls) (hn : (n : Int) ≤ 1000000) :
    Calls Tryz.prog 68 #[.slice p1 n c1, .slice p2 n c2] w fun e w' => e = .returned (.bool true) ∧ w' = w := by
  have H : Hid (Calls _ _ _ w _) := same_texts2 p1 p2 n c1 c2 ls hl w h1 h2 hn
  clear h1 h2 hl
  go_enter Tryz.func68, Tryz.ntmps68
  go_wp2_with fail
  refine H.out.mono ?_
  rintro e9 w9 ⟨rfl, hw9⟩
  have hw8 := hw9.symm
  subst hw8
  clear hw9 H
  go_wp2
  go_ret
  exact ⟨rfl, rfl⟩
/-- what Open tells, as texts -/
theorem Rw.sx {w : World} {base : Nat} {v : Value} {recs : List (List Nat)} (h : Rw w base v recs) (hb : ∀ ys ∈ recs, ∀ x ∈ ys, x < 256) : ∃ p c, v = .slice p recs.length c ∧ Sx w p recs := by
  obtain ⟨vs, h1, h2, h3⟩ := h
  rcases Joins.ownsRow_forms h1 with ⟨e1, e2⟩ | ⟨g, c, e⟩
  · exact ⟨none, 0, by rw [e1, e2], fun r hr => by omega⟩
  · refine ⟨_, c, e, fun r hr => ⟨g, 0, rfl, ?_⟩⟩
    have hv : vs[r]? = some vs[r] := List.getElem?_eq_getElem (by omega)
    have hx : recs[r]? = some recs[r] := List.getElem?_eq_getElem hr
    obtain ⟨p, cc, hu, _, hrb, _⟩ := (h3 r _ _ hx hv).1.rb (hb _ (List.getElem_mem hr))
    have hc := h1.cells (g := g) (by rw [e]; rfl) r _ hv
    rw [Addr.add_mid] at hc
    rw [hu] at hc
    refine ⟨p, _, cc, hc, ?_⟩
    rw [List.getD_eq_getElem?_getD, hx]
    exact hrb
/-- texts that were gathered: a row of one's own; the texts lie in older memory -/
def Wn (w : World) (base : Nat) (v : Value) (ls : List (List Nat)) : Prop := ∃ vs : List Value, w.ownsRow base 34 1 v ls.length vs ∧ vs.length = ls.length ∧ ∀ (i : Nat) (x : List Nat) (u : Value), ls[i]? = some x → vs[i]? = some u → ∃ p c, u = .slice p x.length c ∧ Rb w p x.length x ∧ ∀ a, p = some a → 0 < x.length → a.block < base
theorem Wn.nil (w : World) (base : Nat) : Wn w base (.slice none 0 0) [] := ⟨[], World.ownsRow_nil _ _ _ _, rfl, fun i x u h => by cases h⟩
theorem rb_keepL {S : Nat → Prop} {w w' : World} {p : Option Addr} {n base : Nat} {xs : List Nat} (h : Rb w p n xs) (hn : n = xs.length) (k : Kp S w w') (hl : ∀ a, p = some a → 0 < xs.length → a.block < base) (hS : ∀ b, S b → base ≤ b) : Rb w' p n xs := by
  by_cases h0 : xs.length = 0
  · exact ⟨h.len, h.byte, fun j hj => by omega⟩
  · exact h.keep k (fun a ha _ hs => by have := hl a ha (by omega); have := hS _ hs; omega)
theorem Wn.keep {S : Nat → Prop} {w w' : World} {base : Nat} {v : Value} {ls : List (List Nat)} (h : Wn w base v ls) (k : Kp S w w') (hS : ∀ b, S b → base ≤ b ∧ v.ownBlock ≠ some b) : Wn w' base v ls := by
  obtain ⟨vs, h1, h2, h3⟩ := h
  refine ⟨vs, ownsRow_keep h1 k (fun b e hs => (hS b hs).2 e), h2, fun i x u hx hu => ?_⟩
  obtain ⟨p, c, e, hr, hl⟩ := h3 i x u hx hu
  exact ⟨p, c, e, rb_keepL hr rfl k hl (fun b hs => (hS b hs).1), hl⟩
theorem Wn.sx {w : World} {base : Nat} {v : Value} {ls : List (List Nat)} (h : Wn w base v ls) : ∃ p c, v = .slice p ls.length c ∧ Sx w p ls := by
  obtain ⟨vs, h1, h2, h3⟩ := h
  rcases Joins.ownsRow_forms h1 with ⟨e1, e2⟩ | ⟨g, c, e⟩
  · exact ⟨none, 0, by rw [e1, e2], fun r hr => by omega⟩
  · refine ⟨_, c, e, fun r hr => ⟨g, 0, rfl, ?_⟩⟩
    have hv : vs[r]? = some vs[r] := List.getElem?_eq_getElem (by omega)
    have hx : ls[r]? = some ls[r] := List.getElem?_eq_getElem hr
    obtain ⟨p, cc, hu, hrb, _⟩ := h3 r _ _ hx hv
    have hc := h1.cells (g := g) (by rw [e]; rfl) r _ hv
    rw [Addr.add_mid] at hc
    rw [hu] at hc
    refine ⟨p, _, cc, hc, ?_⟩
    rw [List.getD_eq_getElem?_getD, hx]
    exact hrb
theorem Wn.app {w w' : World} {base : Nat} {v v' : Value} {ls : List (List Nat)} {ys : List Nat} {vs : List Value} {p : Option Addr} {c : Nat} (h1 : vs.length = ls.length) (h3 : ∀ (i : Nat) (x : List Nat) (u : Value), ls[i]? = some x → vs[i]? = some u → ∃ p c, u = .slice p x.length c ∧ Rb w p x.length x ∧ ∀ a, p = some a → 0 < x.length → a.block < base)
    (hu : Rb w p ys.length ys) (hub : ∀ a, p = some a → 0 < ys.length → a.block < base) (o : w'.ownsRow base 34 1 v' (ls.length + 1) (vs ++ [.slice p ys.length c])) (k : Kp (fun b => v.ownBlock = some b) w w') (hv : ∀ b, v.ownBlock = some b → base ≤ b) : Wn w' base v' (ls ++ [ys]) := by
  have key : ∀ x z, (∃ p c, z = Value.slice p x.length c ∧ Rb w p x.length x ∧ ∀ a, p = some a → 0 < x.length → a.block < base) → ∃ p c, z = Value.slice p x.length c ∧ Rb w' p x.length x ∧ ∀ a, p = some a → 0 < x.length → a.block < base := fun x z ⟨p, c, e, hr, hl⟩ => ⟨p, c, e, rb_keepL hr rfl k hl hv, hl⟩
  refine ⟨vs ++ [.slice p ys.length c], by rw [List.length_append]; exact o, by rw [List.length_append, List.length_append, h1]; rfl, fun i x z hx hz => ?_⟩
  by_cases hi : i < ls.length
  · rw [List.getElem?_append_left hi] at hx
    rw [List.getElem?_append_left (by omega)] at hz
    exact key x z (h3 i x z hx hz)
  · have hi2 : i = ls.length := by
      have := (List.getElem?_eq_some_iff.1 hx).1
      rw [List.length_append] at this
      simp at this
      omega
    subst hi2
    rw [List.getElem?_append_right (Nat.le_refl _), Nat.sub_self] at hx
    rw [List.getElem?_append_right (by omega), h1, Nat.sub_self] at hz
    cases hx
    cases hz
    exact key _ _ ⟨p, c, rfl, hu, hub⟩
theorem totW_lt {recs : List (List Nat)} (h : FineW recs) {y k : Nat} (hyk : y < k) (hk : k ≤ recs.length) : totW (recs.take y) < totW (recs.take k) := by
  have e : (recs.take k).take y = recs.take y := by rw [List.take_take, Nat.min_eq_left (by omega)]
  have h1 := totW_app ((recs.take k).take y) ((recs.take k).drop y)
  rw [List.take_append_drop, e] at h1
  have h2 : FineW ((recs.take k).drop y) := fun z hz => h z (List.mem_of_mem_take (List.mem_of_mem_drop hz))
  have h3 := h2.len
  rw [List.length_drop, List.length_take] at h3
  omega
/-- what was lost is not told -/
theorem anew_k {w : World} {g bp d m gf s q a b c e lt y k : Nat} {recs : List (List Nat)} {dur : List Nat} {T : Nat → Option (List Nat)} {rd : Nat → List Nat} (h : Lg w g bp d m gf s q a b c e lt y recs dur T) (hT : ∀ t, totW (recs.take y) ≤ t → t < totW recs → ∃ xs, T (2 + (c + t) % s) = some xs) (hbad : ∀ j xs, j < 2 + s → T j = some xs → Bad (rd j)) (hy : y ≤ k) (hk : k ≤ recs.length) (hsame : ∀ t, t < totW (recs.take k) → rd (2 + (c + t) % s) = nowOf dur T (2 + (c + t) % s)) : k = y := by
  rcases Nat.lt_or_ge y k with h1 | h1
  · have h2 := totW_lt h.lg.fine h1 hk
    have h3 := totW_take recs k
    obtain ⟨xs, hx⟩ := hT (totW (recs.take y)) (Nat.le_refl _) (by omega)
    have hs := h.s1
    have h4 := hbad _ _ (by have := Nat.mod_lt (c + totW (recs.take y)) (show 0 < s by omega); omega) hx
    rw [hsame _ h2] at h4
    have := h.bounds
    have := h.e1
    exact absurd h4 (h.lg.ring.not_bad (by omega) _ (by omega))
  · omega
/-- Append, whatever it answers -/
theorem lg_append_any {w : World} {g bp d m gf s q a b c e lt : Nat} {recs : List (List Nat)} {dur : List Nat} {T : Nat → Option (List Nat)} (h : Lg w g bp d m gf s q a b c e lt recs.length recs dur T) (p : Option Addr) (n cap : Nat) (ys : List Nat) (hr : Rb w p n ys) (hc : n ≤ cap) (hb : ∀ z, p = some z → 1 ≤ n → ¬ z.block = m ∧ ¬ z.block = g ∧ ¬ z.block = gf) (ht : Turns w) :
    Calls Tryz.prog 85 #[.pointer (some ⟨g, 0, none⟩), .slice p n cap] w fun e9 w' => ∃ z1 z2 : Int, e9 = .returned (.tuple #[.int .i64 z1, .int .i64 z2]) ∧ Kp (fun x => x = m ∨ x = g ∨ x = gf) w w' ∧ ∃ q' lt' l T', Lg w' g bp d m gf s q' a b c e lt' recs.length (recs ++ l) dur T' ∧ ∀ t, totW recs ≤ t → t < totW (recs ++ l) → ∃ xs, T' (2 + (c + t) % s) = some xs := by
  refine (lg_append h p n cap ys hr hc hb ht).mono ?_
  rintro e9 w' (⟨_, rfl, rfl⟩ | ⟨_, _, rfl, rfl⟩ | ⟨_, _, rfl, k, q', T', l', _, hj⟩)
  · exact ⟨_, _, rfl, Kp.refl _ _, q, lt, [], T, by rw [List.append_nil]; exact h, fun t h1 h2 => by rw [List.append_nil] at h2; omega⟩
  · exact ⟨_, _, rfl, Kp.refl _ _, q, lt, [], T, by rw [List.append_nil]; exact h, fun t h1 h2 => by rw [List.append_nil] at h2; omega⟩
  · refine ⟨_, _, rfl, k, q', lt + 1, [ys], T', l', fun t h1 h2 => ?_⟩
    rw [totW_app, totW_one] at h2
    have := hj (t - totW recs) (by omega)
    rw [show c + totW recs + (t - totW recs) = c + t by omega] at this
    exact this
end Go.Proofs.YtmooddbhcccicaaGreatDoor

/- Texts of this proof, joined: Ay, Bo. -/
/- A log of a new plate, as the verifier makes it. -/
namespace Go.Proofs.YtmooddbhcccicaaGreatDoor
set_option linter.unusedVariables false
set_option linter.unusedSimpArgs false
open Go.RowKit Go.Deep

def m40 (n : Int) : Nat := ((n % 18446744073709551616) % 40).toNat
theorem m40_lt (n : Int) : m40 n < 40 := by unfold m40; omega
theorem m40_eq (n : Int) : wrap64 ((IntKind.u64.wrap n).tmod 40) = (m40 n : Int) ∧ (IntKind.u64.wrap n).tmod 40 = (m40 n : Int) := by
  have e : IntKind.u64.wrap n = n % 18446744073709551616 := by simp [IntKind.wrap, IntKind.bits, IntKind.signed]
  rw [e, Int.tmod_eq_emod_of_nonneg (Int.emod_nonneg _ (by omega))]
  unfold m40 wrap64
  omega
theorem nowOf_new (n i : Nat) (hi : i < n) : nowOf (List.replicate (n * 64) 0) (fun _ => none) i = nouW 64 := by
  unfold nowOf
  rw [Option.getD_none, List.drop_replicate, List.take_replicate, Nat.min_eq_left (by omega)]

end Go.Proofs.YtmooddbhcccicaaGreatDoor

/- A log of a new plate, as the verifier makes it, with what its plate has. -/
namespace Go.Proofs.YtmooddbhcccicaaGreatDoor
set_option linter.unusedVariables false
set_option linter.unusedSimpArgs false
open Go.RowKit Go.Deep

theorem logN_new {n s : Nat} (hn : n = 2 + s) (hs : 1 ≤ s) : LogN (nowOf (wrHead (List.replicate (n * 64) 0) (fun _ => none) n 1 (hdB 1 1 0 1)) (fun _ => none)) s 1 1 0 1 [] := by
  have hj : ∀ j, j < n → nowOf (wrHead (List.replicate (n * 64) 0) (fun _ => none) n 1 (hdB 1 1 0 1)) (fun _ => none) j = if j = 1 then hdB 1 1 0 1 else nouW 64 := fun j hj => by
    rw [nowOf_wrHead (List.length_replicate ..) (fun _ _ h => by cases h) (hdB_len _ _ _ _) hj, nowOf_new n j hj]
  refine ⟨by rw [hj _ (by omega)]; rfl, fun i hi hne hok => ?_, trivial, Nat.zero_le _, fun t _ ht => ?_, fun ys h => by cases h⟩
  · rw [hj i (by omega), if_neg (by omega), okH_nou] at hok
    cases hok
  · rw [hj _ (by have := Nat.mod_lt (0 + t) (show 0 < s by omega); omega), if_neg (by omega)]

end Go.Proofs.YtmooddbhcccicaaGreatDoor

/- Texts of this proof, joined: Io, Iq. -/
/- A shelf of a new plate: Open. -/
namespace Go.Proofs.YtmooddbhcccicaaGreatDoor
set_option linter.unusedVariables false
set_option linter.unusedSimpArgs false
open Go.RowKit Go.Deep Go.Maps

set_option maxRecDepth 100000 in
theorem replay0_ok (sh : Nat) (w : World) : Calls Tryz.prog 56 #[.pointer (some ⟨sh, 0, none⟩), .slice none 0 0] w fun e w' => e = .returned .nilIface ∧ w' = w := by
  go_enter Tryz.func56, Tryz.ntmps56
  go_wp2
  go_rounds 1
  go_ret
  exact ⟨rfl, rfl⟩

theorem Sk.new (w : World) (Z : Nat → Prop) (g mp : Nat) (hm : Px3 w mp 0 (fun _ => none)) : Sk (w.alloc (.cells #[.pointer (some ⟨g, 0, none⟩), .map (some mp), .int .i64 0] 92)) Z w.heap.size mp g [] :=
  ⟨Lv.new w _ _, ⟨0, fun _ => none, Nat.le_refl _, hm.keep (S := fun _ => False) ((Kp.refl _ _).alloc _) id, fun x _ => ⟨fun _ => rfl, fun o ho => by rw [stS_nil] at ho; cases ho⟩⟩, fun r hr => absurd hr List.not_mem_nil, Nat.zero_le _⟩

set_option maxRecDepth 100000 in
set_option maxHeartbeats 1600000 in
theorem sopen_new {w : World} {bp d m s : Nat} (h : Pt w bp d m (2 + s) 0 (List.replicate ((2 + s) * 64) 0) (fun _ => none)) (hs : 4 ≤ s ∧ s ≤ 8190) (ht : Turns w) (htd : ¬ 0 = d ∧ ¬ 0 = m) :
    Calls Tryz.prog 26 #[.pointer (some ⟨bp, 0, none⟩)] w fun e9 w' => ∃ sh mp g gf dur, e9 = .returned (.tuple #[.pointer (some ⟨sh, 0, none⟩), .int .i64 0]) ∧ Kp (fun x => x = d ∨ x = m) w w' ∧ (w.heap.size ≤ sh ∧ w.heap.size ≤ mp ∧ w.heap.size ≤ g ∧ w.heap.size ≤ gf) ∧ Shf w' (fun x => w'.heap.size ≤ x) sh mp g bp d m gf s 1 1 0 1 0 dur [] := by
  have HO : Hid (Calls _ _ _ w _) := OpenNew_ok (s := s) h (by decide) rfl (by omega) (fun i hi => nowOf_new (2 + s) i hi) ht
  have HT : Hid (Turns w) := ht
  have HTd : Hid ((¬ (0 : Nat) = d ∧ ¬ (0 : Nat) = m) ∧ (0 : Nat) < w.heap.size ∧ bp < w.heap.size ∧ d < w.heap.size ∧ m < w.heap.size ∧ 4 ≤ s) := ⟨htd, World.block_lt_of_cell? _ _ (ht 0 (by decide)), h.lt, h.row.lt, h.mp.lt, hs.1⟩
  have HR : Hid (∀ sh u, Calls _ _ _ u _) := fun sh u => replay0_ok sh u
  have HIs : Hid (∀ u, Calls Tryz.prog 57 #[.nilIface, eno 70] u fun e w' => e = .returned (.bool false) ∧ w' = u) := fun u => is_nil 70 u
  have hmm : ∀ (t : TypeId) (w : World), (Instr.makeMap t none).run Tryz.prog w = .ok (.map (some w.heap.size)) (w.alloc (.map #[] 0)) := fun _ _ => rfl
  clear h hs ht htd
  go_enter Tryz.func26, Tryz.ntmps26
  go_wp2_with fail
  refine HO.out.mono ?_
  rintro e9 w2 ⟨g, gf, rfl, k2, p2, hg, hgf, l2⟩
  obtain ⟨mp, hmp⟩ : ∃ x, x = w2.heap.size := ⟨_, rfl⟩
  obtain ⟨w3, hw3⟩ : ∃ y, y = w2.alloc (.map #[] 0) := ⟨_, rfl⟩
  have hm3 : Px3 w3 mp 0 (fun _ => none) := by rw [hw3, hmp]; exact Px3.made w2
  have k3 : Kp (fun _ => False) w2 w3 := by rw [hw3]; exact (Kp.refl _ _).alloc _
  obtain ⟨sh, hsh⟩ : ∃ x, x = w3.heap.size := ⟨_, rfl⟩
  obtain ⟨w4, hw4⟩ : ∃ y, y = w3.alloc (.cells #[.pointer (some ⟨g, 0, none⟩), .map (some mp), .int .i64 0] 92) := ⟨_, rfl⟩
  have s4 : Sk w4 (fun x => w4.heap.size ≤ x) sh mp g [] := by rw [hw4, hsh]; exact Sk.new w3 _ g mp hm3
  have k4 : Kp (fun _ => False) w3 w4 := by rw [hw4]; exact (Kp.refl _ _).alloc _
  have hz : w3.heap.size = w2.heap.size + 1 ∧ w4.heap.size = w3.heap.size + 1 := ⟨by rw [hw3]; simp, by rw [hw4]; simp⟩
  have HF : Hid (Kp (fun x => x = d ∨ x = m) w w4 ∧ (w.heap.size ≤ sh ∧ w.heap.size ≤ mp ∧ w.heap.size ≤ g ∧ w.heap.size ≤ gf) ∧ Shf w4 (fun x => w4.heap.size ≤ x) sh mp g bp d m gf s 1 1 0 1 0 (wrHead (List.replicate ((2 + s) * 64) 0) (fun _ => none) (2 + s) 1 (hdB 1 1 0 1)) []) := by
    obtain ⟨⟨t1, t2⟩, t3, t4, t5, t6, t7⟩ := HTd.out
    have k24 : Kp (fun _ => False) w2 w4 := k3.trans k4 (fun _ _ e => e)
    have z1 := k2.size
    have z2 := l2.gl
    have z3 := l2.fl
    have hLg : Lg w2 g bp d m gf s 0 1 1 0 1 0 0 [] (wrHead (List.replicate ((2 + s) * 64) 0) (fun _ => none) (2 + s) 1 (hdB 1 1 0 1)) (fun _ => none) := ⟨p2, l2, logN_new rfl (by omega), DirtW.none _, Nat.le_refl _, rfl, by omega, by omega, ⟨by omega, by omega⟩, ⟨by omega, by omega⟩, ⟨by omega, by have := p2.n2; omega⟩, ⟨by omega, by omega, by omega, by omega, by omega, by omega, by omega, by omega, t1, t2⟩, Nat.le_refl _, fun _ _ => rfl⟩
    refine ⟨k2.trans (k24.mono (fun _ _ e => e.elim)) (fun _ _ e => e), ⟨by omega, by omega, by omega, by omega⟩, ⟨⟨0, 0, fun _ => none, hLg.keep0 k24⟩, s4, ?_, ⟨by omega, by omega, by omega⟩, fun x hx => ?_, ⟨by omega, by omega, by omega, by omega⟩, ⟨by omega, by omega⟩⟩⟩
    · exact (fun j hj => k24.cellv ((k2.cellv (HT.out j hj) (fun e => by rcases e with e | e; exact t1 e; exact t2 e))) id)
    · rcases hx with rfl | rfl | rfl <;> exact ⟨by omega, by omega, by omega⟩
  clear k2 p2 l2 hm3 k3 s4 k4 hz hg hgf HO
  go_wp2_with fail
  have hsh1 : mp + 1 = sh := by rw [hsh, hw3, hmp]; simp
  rw [← hmp, ← hw3, hsh1, ← hw4]
  clear hmp hw3 hsh hsh1 hw4
  refine (HR.out sh w4).mono ?_
  rintro e9 w9 ⟨rfl, hw9⟩
  have hw8 := hw9.symm
  subst hw8
  clear hw9
  go_wp2_with fail
  refine (HIs.out _).mono ?_
  rintro e9 w9 ⟨rfl, hw9⟩
  have hw8 := hw9.symm
  subst hw8
  clear hw9
  go_wp2_with fail
  go_ret2
  exact ⟨sh, mp, g, gf, _, rfl, HF.out⟩
end Go.Proofs.YtmooddbhcccicaaGreatDoor

/- Few records: what they come to; Life; a shelf of a new plate, as the verifier makes it. -/
namespace Go.Proofs.YtmooddbhcccicaaGreatDoor
set_option linter.unusedVariables false
set_option linter.unusedSimpArgs false
open Go.RowKit Go.Deep Go.Maps

theorem stS_at (h : List Rc) (r : Rc) (x : K3) : (stS (h ++ [r])).1 x = if x = subS r then (if staysS r = true then some r else none) else (stS h).1 x := by
  rw [stS_snoc]
  rfl
theorem stS_shard (h : List Rc) (b i : Nat) (xs : List Nat) : (stS (h ++ [⟨1, b, i, 0, xs⟩])).1 ⟨1, (b : Int), (i : Int)⟩ = some ⟨1, b, i, 0, xs⟩ ∧ ∀ b' i', fncd (h ++ [⟨1, b, i, 0, xs⟩]) b' i' = fncd h b' i' := by
  refine ⟨?_, fun b' i' => ?_⟩
  · rw [stS_at]
    rw [if_pos (by simp [subS]), if_pos (by simp [staysS])]
  · unfold fncd
    rw [stS_at]
    rw [if_neg (by simp [subS])]
theorem stS_drop (h : List Rc) (b i : Nat) : (stS (h ++ [⟨2, b, i, 0, []⟩])).1 ⟨1, (b : Int), (i : Int)⟩ = none ∧ ∀ b' i', fncd (h ++ [⟨2, b, i, 0, []⟩]) b' i' = fncd h b' i' := by
  refine ⟨?_, fun b' i' => ?_⟩
  · rw [stS_at]
    rw [if_pos (by simp [subS]), if_neg (by simp [staysS])]
  · unfold fncd
    rw [stS_at]
    rw [if_neg (by simp [subS])]
theorem stS_fence (h : List Rc) (b i e : Nat) (he : 0 < e) : fncd (h ++ [⟨3, b, i, e, []⟩]) b i = e ∧ ∀ b' i' : Int, (stS (h ++ [⟨3, b, i, e, []⟩])).1 ⟨1, b', i'⟩ = (stS h).1 ⟨1, b', i'⟩ := by
  refine ⟨?_, fun b' i' => ?_⟩
  · unfold fncd
    rw [stS_at]
    rw [if_pos (by simp [subS]), if_pos (by simp [staysS, he])]
  · rw [stS_at]
    rw [if_neg (by simp [subS])]
theorem fncd_nil (b i : Nat) : fncd [] b i = 0 := by unfold fncd; rw [stS_nil]

theorem secS_small {r : Rc} (h : GoodR r) (hb : r.b.length ≤ 600) : secS r ≤ 16 := by
  have := wrS_len h
  unfold secS needW
  omega
theorem totW_small : ∀ (h : List Rc), (∀ r ∈ h, GoodR r ∧ r.b.length ≤ 600) → totW (h.map wrS) ≤ 16 * h.length
  | [], _ => Nat.le_refl _
  | r :: l, h => by
    have h1 := secS_small (h r List.mem_cons_self).1 (h r List.mem_cons_self).2
    have h2 := totW_small l (fun x hx => h x (List.mem_cons_of_mem _ hx))
    show secS r + totW (l.map wrS) ≤ 16 * (l.length + 1)
    omega
theorem fits_small {h : List Rc} {r : Rc} (hg : ∀ r ∈ h, GoodR r ∧ r.b.length ≤ 600) (hr : GoodR r ∧ r.b.length ≤ 600) (hn : h.length ≤ 5) :
    2 * (secS r : Int) + (stS h).2 + (totW (h.map wrS) : Int) ≤ ((298 : Nat) : Int) ∧ totW (h.map wrS) + secS r ≤ 298 := by
  have h1 := secS_small hr.1 hr.2
  have h2 := totW_small h hg
  have h3 := stS_le h
  omega
theorem good1 {b i : Nat} {xs : List Nat} (hb : b ≤ 1152921504606846976) (hi : i ≤ 1152921504606846976) (hx : ∀ x ∈ xs, x < 256) (hl : xs.length ≤ 600) : GoodR ⟨1, b, i, 0, xs⟩ ∧ xs.length ≤ 600 :=
  ⟨⟨⟨show 1 ≤ 1 by omega, show 1 ≤ 4 by omega⟩, hb, hi, show 0 ≤ _ by omega, hx, show xs.length ≤ 1980 by omega, fun h => by rcases h with h | h <;> exact absurd (show 1 = _ from h) (by decide)⟩, hl⟩
theorem good2 {b i : Nat} (hb : b ≤ 1152921504606846976) (hi : i ≤ 1152921504606846976) : GoodR ⟨2, b, i, 0, []⟩ ∧ ([] : List Nat).length ≤ 600 :=
  ⟨⟨⟨show 1 ≤ 2 by omega, show 2 ≤ 4 by omega⟩, hb, hi, show 0 ≤ _ by omega, fun x hx => absurd hx List.not_mem_nil, show 0 ≤ 1980 by omega, fun _ => rfl⟩, Nat.zero_le _⟩
theorem good3 {b i e : Nat} (hb : b ≤ 1152921504606846976) (hi : i ≤ 1152921504606846976) (he : e ≤ 1152921504606846976) : GoodR ⟨3, b, i, e, []⟩ ∧ ([] : List Nat).length ≤ 600 :=
  ⟨⟨⟨show 1 ≤ 3 by omega, show 3 ≤ 4 by omega⟩, hb, hi, he, fun x hx => absurd hx List.not_mem_nil, show 0 ≤ 1980 by omega, fun _ => rfl⟩, Nat.zero_le _⟩

set_option maxRecDepth 100000 in
theorem slife_ok {w : World} {Z : Nat → Prop} {sh mp g bp d m gf s a b c e y : Nat} {dur : List Nat} {h : List Rc} (x : Shf w Z sh mp g bp d m gf s a b c e y dur h) :
    Calls Tryz.prog 27 #[.pointer (some ⟨sh, 0, none⟩)] w fun e9 w' => e9 = .returned (.int .i64 b) ∧ w' = w := by
  obtain ⟨q, lt, T, hl⟩ := x.lg
  have c0 : w.cell? ⟨sh, 0, none⟩ = some (.pointer (some ⟨g, 0, none⟩)) := x.sk.l.cell (j := 0) rfl
  have HM : Hid (Calls _ _ _ w _) := smade_ok c0
  have HL : Hid (Calls Tryz.prog 58 #[.pointer (some ⟨g, 0, none⟩)] w fun e9 w' => e9 = .returned (.int .i64 b) ∧ w' = w) := life_ok hl.wl
  clear hl x
  go_enter Tryz.func27, Tryz.ntmps27
  go_wp2_with fail
  refine HM.out.mono ?_
  rintro e9 w9 ⟨rfl, hw9⟩
  have hw8 := hw9.symm
  subst hw8
  clear hw9 HM
  go_wp2_with fail
  refine HL.out.mono ?_
  rintro e9 w9 ⟨rfl, hw9⟩
  have hw8 := hw9.symm
  subst hw8
  clear hw9 HL
  go_wp2
  go_ret
  exact ⟨rfl, rfl⟩

set_option maxRecDepth 100000 in
set_option maxHeartbeats 1600000 in
theorem fresh8_ok (w : World) (ht : Turns w) :
    Calls Tryz.prog 12 #[] w fun e9 w' => ∃ sh mp g gf bp d m dur, e9 = .returned (.tuple #[.pointer (some ⟨sh, 0, none⟩), .pointer (some ⟨bp, 0, none⟩)]) ∧ Kp (fun _ => False) w w' ∧ (w.heap.size ≤ sh ∧ w.heap.size ≤ mp ∧ w.heap.size ≤ g ∧ w.heap.size ≤ gf ∧ w.heap.size ≤ bp ∧ w.heap.size ≤ d ∧ w.heap.size ≤ m) ∧ Shf w' (fun x => w'.heap.size ≤ x) sh mp g bp d m gf 298 1 1 0 1 0 dur [] := by
  have HTl : Hid ((0 : Nat) < w.heap.size) := World.block_lt_of_cell? _ _ (ht 0 (by decide))
  have HNw : Hid (Calls Tryz.prog 28 #[.int .i64 300] w _) := new_ok 300 w (by omega) (by omega)
  have HT : Hid (Turns w) := ht
  clear ht
  go_enter Tryz.func12, Tryz.ntmps12
  go_wp2_with fail
  refine HNw.out.mono ?_
  rintro e9 w1 ⟨bp, d, m, rfl, k1, hb, hd, hm, p1⟩
  have HK1 : Hid (Kp (fun _ => False) w w1) := k1
  have HG : Hid (w.heap.size ≤ bp ∧ w.heap.size ≤ d ∧ w.heap.size ≤ m ∧ w.heap.size ≤ w1.heap.size) := ⟨hb, hd, hm, k1.size⟩
  have HO : Hid (Calls _ _ _ w1 _) := sopen_new (s := 298) p1 (by decide) (fun j hj => k1.cellv (HT.out j hj) id) (by have h1 := HTl.out; exact ⟨by omega, by omega⟩)
  clear hb hd hm p1 k1 HNw
  go_wp2_with fail
  refine HO.out.mono ?_
  rintro e9 w2 ⟨sh, mp, g, gf, dur, rfl, k2, hz, s2⟩
  have HLf : Hid (Calls _ _ _ w2 _) := slife_ok s2
  have HF : Hid (Kp (fun _ => False) w w2 ∧ (w.heap.size ≤ sh ∧ w.heap.size ≤ mp ∧ w.heap.size ≤ g ∧ w.heap.size ≤ gf ∧ w.heap.size ≤ bp ∧ w.heap.size ≤ d ∧ w.heap.size ≤ m) ∧ Shf w2 (fun x => w2.heap.size ≤ x) sh mp g bp d m gf 298 1 1 0 1 0 dur []) := by
    have := HG.out
    exact ⟨HK1.out.trans k2 (fun b hb9 e => by omega), ⟨by omega, by omega, by omega, by omega, by omega, by omega, by omega⟩, s2⟩
  clear k2 hz s2 HO
  go_wp2_with fail
  refine HLf.out.mono ?_
  rintro e9 w9 ⟨rfl, hw9⟩
  have hw8 := hw9.symm
  subst hw8
  clear hw9 HLf
  go_wp2
  go_ret2
  obtain ⟨f1, f2, f3⟩ := HF.out
  exact ⟨sh, mp, g, gf, bp, d, m, dur, rfl, f1, f2, f3⟩
end Go.Proofs.YtmooddbhcccicaaGreatDoor
