/- Texts of this proof, joined: St, Bn, Ay. -/
import Derived.Test.YtmooddbhcccicaaGreatDoorMgAZ
import Derived.Test.YtmooddbhcccicaaGreatDoorMgAW
import Derived.Test.YtmooddbhcccicaaGreatDoorMgAM
/- The walk of SameTexts of the same. -/
namespace Go.Proofs.YtmooddbhcccicaaGreatDoor
open Go.RowKit Go.Deep

/-- texts, as they lie: row t, text r at place r -/
def Rt (w : World) (t n : Nat) (N : Nat → List Nat) : Prop := ∃ (cp : Nat) (V : Nat → Value), n ≤ cp ∧ w.rowIs t 34 cp V ∧ ∀ r, r < n → ∃ p k c, V r = .slice p k c ∧ Rb w p k (N r)

set_option maxRecDepth 100000 in
set_option maxHeartbeats 800000 in
theorem same_texts (t1 t2 n c1 c2 : Nat) (N : Nat → List Nat) (w : World) (h1 : Rt w t1 n N) (h2 : Rt w t2 n N) (hn : (n : Int) ≤ 1000000) :
    Calls Tryz.prog 117 #[.slice (some ⟨t1, 0, none⟩) n c1, .slice (some ⟨t2, 0, none⟩) n c2, .func (.func 20) #[] #[]] w fun e w' => e = .returned (.bool true) ∧ w' = w := by
  obtain ⟨cp1, V1, hc1, r1, e1⟩ := h1
  obtain ⟨cp2, V2, hc2, r2, e2⟩ := h2
  have HE1 : Hid _ := e1
  have HE2 : Hid _ := e2
  clear e1 e2
  go_enter Tryz.func117, Tryz.ntmps117
  go_wp2
  go_loopg [17] n (fun gk x wr => ∃ k : Nat, k ≤ n ∧ gk = n - k ∧ x = .int .i64 k ∧ wr = w)
  case atStart => exact ⟨0, Nat.zero_le _, rfl, rfl, rfl⟩
  case round =>
    obtain ⟨k, hk, rfl, rfl, rfl⟩ := hrel
    by_cases hlt : (k : Int) < (n : Int)
    · obtain ⟨p1, k1, d1, v1, b1⟩ := HE1.out k (by omega)
      obtain ⟨p2, k2, d2, v2, b2⟩ := HE2.out k (by omega)
      have x1 := r1.cell (i := k) (by omega)
      have x2 := r2.cell (i := k) (by omega)
      rw [v1] at x1
      rw [v2] at x2
      have HEq : Hid (Calls _ _ _ wr _) := equal_same p1 p2 k1 k2 d1 d2 _ wr b1 b2
      clear v1 v2 b1 b2 r1 r2 HE1 HE2
      go_wp2_with (go_at_call 20; refine HEq.out.mono ?_; rintro e w' ⟨rfl, hw⟩; obtain rfl := hw.symm)
      go_roundg (n - (k + 1))
      case rel => exact ⟨k + 1, by omega, rfl, by go_num, rfl⟩
      case measure => omega
    · clear r1 r2 HE1 HE2
      go_wp2
      go_ret
      exact ⟨rfl, rfl⟩

set_option maxRecDepth 100000 in
set_option maxHeartbeats 800000 in
theorem sameTexts_ok (t1 t2 n c1 c2 : Nat) (N : Nat → List Nat) (w : World) (h1 : Rt w t1 n N) (h2 : Rt w t2 n N) (hn : (n : Int) ≤ 1000000) :
    Calls Tryz.prog 68 #[.slice (some ⟨t1, 0, none⟩) n c1, .slice (some ⟨t2, 0, none⟩) n c2] w fun e w' => e = .returned (.bool true) ∧ w' = w := by
  have H : Hid (Calls _ _ _ w _) := same_texts t1 t2 n c1 c2 N w h1 h2 hn
  clear h1 h2
  go_enter Tryz.func68, Tryz.ntmps68
  go_wp2_with (go_at_call 117; refine H.out.mono ?_; rintro e w' ⟨rfl, hw⟩; obtain rfl := hw.symm)
  go_ret
  exact ⟨rfl, rfl⟩
end Go.Proofs.YtmooddbhcccicaaGreatDoor

/- Texts that are the same; texts that are gathered; what a lost record leaves. -/
namespace Go.Proofs.YtmooddbhcccicaaGreatDoor
set_option linter.unusedVariables false
set_option linter.unusedSimpArgs false
open Go.RowKit Go.Deep

/-- texts, as they lie, none included -/
def Sx (w : World) (p : Option Addr) (ls : List (List Nat)) : Prop := ∀ r, r < ls.length → ∃ b o, p = some ⟨b, o, none⟩ ∧ ∃ pp k c, w.cell? ⟨b, o + r, none⟩ = some (.slice pp k c) ∧ Rb w pp k (ls.getD r [])
set_option maxRecDepth 100000 in
set_option maxHeartbeats 800000 in
theorem same_texts2 (p1 p2 : Option Addr) (n c1 c2 : Nat) (ls : List (List Nat)) (hl : n = ls.length) (w : World) (h1 : Sx w p1 ls) (h2 : Sx w p2 ls) (hn : (n : Int) ≤ 1000000) :
    Calls Tryz.prog 117 #[.slice p1 n c1, .slice p2 n c2, .func (.func 20) #[] #[]] w fun e w' => e = .returned (.bool true) ∧ w' = w := by
  by_cases h0 : n = 0
  · subst h0
    clear h1 h2
    go_enter Tryz.func117, Tryz.ntmps117
    go_wp2
    go_loopg [17] 0 (fun gk x wr => gk = 0 ∧ x = .int .i64 0 ∧ wr = w)
    case atStart => exact ⟨rfl, rfl, rfl⟩
    case round =>
      obtain ⟨rfl, rfl, rfl⟩ := hrel
      go_wp2
      go_ret
      exact ⟨rfl, rfl⟩
  · obtain ⟨b1, o1, rfl, _⟩ := h1 0 (by omega)
    obtain ⟨b2, o2, rfl, _⟩ := h2 0 (by omega)
    have HE1 : Hid (∀ r, r < n → ∃ pp k c, w.cell? ⟨b1, o1 + r, none⟩ = some (.slice pp k c) ∧ Rb w pp k (ls.getD r [])) := fun r hr => by
      obtain ⟨b, o, e, x⟩ := h1 r (by omega)
      cases e
      exact x
    have HE2 : Hid (∀ r, r < n → ∃ pp k c, w.cell? ⟨b2, o2 + r, none⟩ = some (.slice pp k c) ∧ Rb w pp k (ls.getD r [])) := fun r hr => by
      obtain ⟨b, o, e, x⟩ := h2 r (by omega)
      cases e
      exact x
    clear h1 h2 h0 hl
    go_enter Tryz.func117, Tryz.ntmps117
    go_wp2
    go_loopg [17] n (fun gk x wr => ∃ k : Nat, k ≤ n ∧ gk = n - k ∧ x = .int .i64 k ∧ wr = w)
    case atStart => exact ⟨0, Nat.zero_le _, rfl, rfl, rfl⟩
    case round =>
      obtain ⟨k, hk, rfl, rfl, rfl⟩ := hrel
      by_cases hlt : (k : Int) < (n : Int)
      · obtain ⟨p1, k1, d1, x1, b1⟩ := HE1.out k (by omega)
        obtain ⟨p2, k2, d2, x2, b2⟩ := HE2.out k (by omega)
        have HEq : Hid (Calls _ _ _ wr _) := equal_same p1 p2 k1 k2 d1 d2 _ wr b1 b2
        clear b1 b2 HE1 HE2
        go_wp2_with (go_at_call 20; refine HEq.out.mono ?_; rintro e w' ⟨rfl, hw⟩; obtain rfl := hw.symm)
        go_roundg (n - (k + 1))
        case rel => exact ⟨k + 1, by omega, rfl, by go_num, rfl⟩
        case measure => omega
      · clear HE1 HE2
        go_wp2
        go_ret
        exact ⟨rfl, rfl⟩
set_option maxRecDepth 100000 in
set_option maxHeartbeats 800000 in
theorem sameTexts2_ok (p1 p2 : Option Addr) (n c1 c2 : Nat) (ls : List (List Nat)) (hl : n = ls.length) (w : World) (h1 : Sx w p1 ls) (h2 : Sx w p2 ls) (hn : (n : Int) ≤ 1000000) :
    Calls Tryz.prog 68 #[.slice p1 n c1, .slice p2 n c2] w fun e w' => e = .returned (.bool true) ∧ w' = w := by
  have H : Hid (Calls _ _ _ w _) := same_texts2 p1 p2 n c1 c2 ls hl w h1 h2 hn
  clear h1 h2 hl
  go_enter Tryz.func68, Tryz.ntmps68
  go_wp2_with fail
  refine H.out.mono ?_
  rintro e9 w9 ⟨rfl, hw9⟩
  have hw8 := hw9.symm
  subst hw8
  clear hw9 H
  go_wp2
  go_ret
  exact ⟨rfl, rfl⟩
/-- what Open tells, as texts -/
theorem Rw.sx {w : World} {base : Nat} {v : Value} {recs : List (List Nat)} (h : Rw w base v recs) (hb : ∀ ys ∈ recs, ∀ x ∈ ys, x < 256) : ∃ p c, v = .slice p recs.length c ∧ Sx w p recs := by
  obtain ⟨vs, h1, h2, h3⟩ := h
  rcases Joins.ownsRow_forms h1 with ⟨e1, e2⟩ | ⟨g, c, e⟩
  · exact ⟨none, 0, by rw [e1, e2], fun r hr => by omega⟩
  · refine ⟨_, c, e, fun r hr => ⟨g, 0, rfl, ?_⟩⟩
    have hv : vs[r]? = some vs[r] := List.getElem?_eq_getElem (by omega)
    have hx : recs[r]? = some recs[r] := List.getElem?_eq_getElem hr
    obtain ⟨p, cc, hu, _, hrb, _⟩ := (h3 r _ _ hx hv).1.rb (hb _ (List.getElem_mem hr))
    have hc := h1.cells (g := g) (by rw [e]; rfl) r _ hv
    rw [Addr.add_mid] at hc
    rw [hu] at hc
    refine ⟨p, _, cc, hc, ?_⟩
    rw [List.getD_eq_getElem?_getD, hx]
    exact hrb
/-- texts that were gathered: a row of one's own; the texts lie in older memory -/
def Wn (w : World) (base : Nat) (v : Value) (ls : List (List Nat)) : Prop := ∃ vs : List Value, w.ownsRow base 34 1 v ls.length vs ∧ vs.length = ls.length ∧ ∀ (i : Nat) (x : List Nat) (u : Value), ls[i]? = some x → vs[i]? = some u → ∃ p c, u = .slice p x.length c ∧ Rb w p x.length x ∧ ∀ a, p = some a → 0 < x.length → a.block < base
theorem Wn.nil (w : World) (base : Nat) : Wn w base (.slice none 0 0) [] := ⟨[], World.ownsRow_nil _ _ _ _, rfl, fun i x u h => by cases h⟩
theorem rb_keepL {S : Nat → Prop} {w w' : World} {p : Option Addr} {n base : Nat} {xs : List Nat} (h : Rb w p n xs) (hn : n = xs.length) (k : Kp S w w') (hl : ∀ a, p = some a → 0 < xs.length → a.block < base) (hS : ∀ b, S b → base ≤ b) : Rb w' p n xs := by
  by_cases h0 : xs.length = 0
  · exact ⟨h.len, h.byte, fun j hj => by omega⟩
  · exact h.keep k (fun a ha _ hs => by have := hl a ha (by omega); have := hS _ hs; omega)
theorem Wn.keep {S : Nat → Prop} {w w' : World} {base : Nat} {v : Value} {ls : List (List Nat)} (h : Wn w base v ls) (k : Kp S w w') (hS : ∀ b, S b → base ≤ b ∧ v.ownBlock ≠ some b) : Wn w' base v ls := by
  obtain ⟨vs, h1, h2, h3⟩ := h
  refine ⟨vs, ownsRow_keep h1 k (fun b e hs => (hS b hs).2 e), h2, fun i x u hx hu => ?_⟩
  obtain ⟨p, c, e, hr, hl⟩ := h3 i x u hx hu
  exact ⟨p, c, e, rb_keepL hr rfl k hl (fun b hs => (hS b hs).1), hl⟩
theorem Wn.sx {w : World} {base : Nat} {v : Value} {ls : List (List Nat)} (h : Wn w base v ls) : ∃ p c, v = .slice p ls.length c ∧ Sx w p ls := by
  obtain ⟨vs, h1, h2, h3⟩ := h
  rcases Joins.ownsRow_forms h1 with ⟨e1, e2⟩ | ⟨g, c, e⟩
  · exact ⟨none, 0, by rw [e1, e2], fun r hr => by omega⟩
  · refine ⟨_, c, e, fun r hr => ⟨g, 0, rfl, ?_⟩⟩
    have hv : vs[r]? = some vs[r] := List.getElem?_eq_getElem (by omega)
    have hx : ls[r]? = some ls[r] := List.getElem?_eq_getElem hr
    obtain ⟨p, cc, hu, hrb, _⟩ := h3 r _ _ hx hv
    have hc := h1.cells (g := g) (by rw [e]; rfl) r _ hv
    rw [Addr.add_mid] at hc
    rw [hu] at hc
    refine ⟨p, _, cc, hc, ?_⟩
    rw [List.getD_eq_getElem?_getD, hx]
    exact hrb
theorem Wn.app {w w' : World} {base : Nat} {v v' : Value} {ls : List (List Nat)} {ys : List Nat} {vs : List Value} {p : Option Addr} {c : Nat} (h1 : vs.length = ls.length) (h3 : ∀ (i : Nat) (x : List Nat) (u : Value), ls[i]? = some x → vs[i]? = some u → ∃ p c, u = .slice p x.length c ∧ Rb w p x.length x ∧ ∀ a, p = some a → 0 < x.length → a.block < base)
    (hu : Rb w p ys.length ys) (hub : ∀ a, p = some a → 0 < ys.length → a.block < base) (o : w'.ownsRow base 34 1 v' (ls.length + 1) (vs ++ [.slice p ys.length c])) (k : Kp (fun b => v.ownBlock = some b) w w') (hv : ∀ b, v.ownBlock = some b → base ≤ b) : Wn w' base v' (ls ++ [ys]) := by
  have key : ∀ x z, (∃ p c, z = Value.slice p x.length c ∧ Rb w p x.length x ∧ ∀ a, p = some a → 0 < x.length → a.block < base) → ∃ p c, z = Value.slice p x.length c ∧ Rb w' p x.length x ∧ ∀ a, p = some a → 0 < x.length → a.block < base := fun x z ⟨p, c, e, hr, hl⟩ => ⟨p, c, e, rb_keepL hr rfl k hl hv, hl⟩
  refine ⟨vs ++ [.slice p ys.length c], by rw [List.length_append]; exact o, by rw [List.length_append, List.length_append, h1]; rfl, fun i x z hx hz => ?_⟩
  by_cases hi : i < ls.length
  · rw [List.getElem?_append_left hi] at hx
    rw [List.getElem?_append_left (by omega)] at hz
    exact key x z (h3 i x z hx hz)
  · have hi2 : i = ls.length := by
      have := (List.getElem?_eq_some_iff.1 hx).1
      rw [List.length_append] at this
      simp at this
      omega
    subst hi2
    rw [List.getElem?_append_right (Nat.le_refl _), Nat.sub_self] at hx
    rw [List.getElem?_append_right (by omega), h1, Nat.sub_self] at hz
    cases hx
    cases hz
    exact key _ _ ⟨p, c, rfl, hu, hub⟩
theorem totW_lt {recs : List (List Nat)} (h : FineW recs) {y k : Nat} (hyk : y < k) (hk : k ≤ recs.length) : totW (recs.take y) < totW (recs.take k) := by
  have e : (recs.take k).take y = recs.take y := by rw [List.take_take, Nat.min_eq_left (by omega)]
  have h1 := totW_app ((recs.take k).take y) ((recs.take k).drop y)
  rw [List.take_append_drop, e] at h1
  have h2 : FineW ((recs.take k).drop y) := fun z hz => h z (List.mem_of_mem_take (List.mem_of_mem_drop hz))
  have h3 := h2.len
  rw [List.length_drop, List.length_take] at h3
  omega
/-- what was lost is not told -/
theorem anew_k {w : World} {g bp d m gf s q a b c e lt y k : Nat} {recs : List (List Nat)} {dur : List Nat} {T : Nat → Option (List Nat)} {rd : Nat → List Nat} (h : Lg w g bp d m gf s q a b c e lt y recs dur T) (hT : ∀ t, totW (recs.take y) ≤ t → t < totW recs → ∃ xs, T (2 + (c + t) % s) = some xs) (hbad : ∀ j xs, j < 2 + s → T j = some xs → Bad (rd j)) (hy : y ≤ k) (hk : k ≤ recs.length) (hsame : ∀ t, t < totW (recs.take k) → rd (2 + (c + t) % s) = nowOf dur T (2 + (c + t) % s)) : k = y := by
  rcases Nat.lt_or_ge y k with h1 | h1
  · have h2 := totW_lt h.lg.fine h1 hk
    have h3 := totW_take recs k
    obtain ⟨xs, hx⟩ := hT (totW (recs.take y)) (Nat.le_refl _) (by omega)
    have hs := h.s1
    have h4 := hbad _ _ (by have := Nat.mod_lt (c + totW (recs.take y)) (show 0 < s by omega); omega) hx
    rw [hsame _ h2] at h4
    have := h.bounds
    have := h.e1
    exact absurd h4 (h.lg.ring.not_bad (by omega) _ (by omega))
  · omega
/-- Append, whatever it answers -/
theorem lg_append_any {w : World} {g bp d m gf s q a b c e lt : Nat} {recs : List (List Nat)} {dur : List Nat} {T : Nat → Option (List Nat)} (h : Lg w g bp d m gf s q a b c e lt recs.length recs dur T) (p : Option Addr) (n cap : Nat) (ys : List Nat) (hr : Rb w p n ys) (hc : n ≤ cap) (hb : ∀ z, p = some z → 1 ≤ n → ¬ z.block = m ∧ ¬ z.block = g ∧ ¬ z.block = gf) (ht : Turns w) :
    Calls Tryz.prog 85 #[.pointer (some ⟨g, 0, none⟩), .slice p n cap] w fun e9 w' => ∃ z1 z2 : Int, e9 = .returned (.tuple #[.int .i64 z1, .int .i64 z2]) ∧ Kp (fun x => x = m ∨ x = g ∨ x = gf) w w' ∧ ∃ q' lt' l T', Lg w' g bp d m gf s q' a b c e lt' recs.length (recs ++ l) dur T' ∧ ∀ t, totW recs ≤ t → t < totW (recs ++ l) → ∃ xs, T' (2 + (c + t) % s) = some xs := by
  refine (lg_append h p n cap ys hr hc hb ht).mono ?_
  rintro e9 w' (⟨_, rfl, rfl⟩ | ⟨_, _, rfl, rfl⟩ | ⟨_, _, rfl, k, q', T', l', _, hj⟩)
  · exact ⟨_, _, rfl, Kp.refl _ _, q, lt, [], T, by rw [List.append_nil]; exact h, fun t h1 h2 => by rw [List.append_nil] at h2; omega⟩
  · exact ⟨_, _, rfl, Kp.refl _ _, q, lt, [], T, by rw [List.append_nil]; exact h, fun t h1 h2 => by rw [List.append_nil] at h2; omega⟩
  · refine ⟨_, _, rfl, k, q', lt + 1, [ys], T', l', fun t h1 h2 => ?_⟩
    rw [totW_app, totW_one] at h2
    have := hj (t - totW recs) (by omega)
    rw [show c + totW recs + (t - totW recs) = c + t by omega] at this
    exact this
end Go.Proofs.YtmooddbhcccicaaGreatDoor

/- A log of a new plate, as the verifier makes it. -/
namespace Go.Proofs.YtmooddbhcccicaaGreatDoor
set_option linter.unusedVariables false
set_option linter.unusedSimpArgs false
open Go.RowKit Go.Deep

def m40 (n : Int) : Nat := ((n % 18446744073709551616) % 40).toNat
theorem m40_lt (n : Int) : m40 n < 40 := by unfold m40; omega
theorem m40_eq (n : Int) : wrap64 ((IntKind.u64.wrap n).tmod 40) = (m40 n : Int) ∧ (IntKind.u64.wrap n).tmod 40 = (m40 n : Int) := by
  have e : IntKind.u64.wrap n = n % 18446744073709551616 := by simp [IntKind.wrap, IntKind.bits, IntKind.signed]
  rw [e, Int.tmod_eq_emod_of_nonneg (Int.emod_nonneg _ (by omega))]
  unfold m40 wrap64
  omega
theorem nowOf_new (n i : Nat) (hi : i < n) : nowOf (List.replicate (n * 64) 0) (fun _ => none) i = nouW 64 := by
  unfold nowOf
  rw [Option.getD_none, List.drop_replicate, List.take_replicate, Nat.min_eq_left (by omega)]

end Go.Proofs.YtmooddbhcccicaaGreatDoor
