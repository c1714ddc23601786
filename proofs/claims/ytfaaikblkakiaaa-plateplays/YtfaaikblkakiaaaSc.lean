/- What a crash leaves of each sector; texts of images. -/
import Derived.Test.YtfaaikblkakiaaaPl6
import Derived.Test.YtfaaikblkakiaaaPc
import Derived.Test.YtfaaikblkakiaaaPk
import Derived.Test.YtfaaikblkakiaaaSt
namespace Go.Proofs.Ytfaaikblkakiaaa
open Go.RowKit Go.Deep Go.Maps

theorem ext_getD {xs ys : List Nat} (hl : xs.length = ys.length) (h : ∀ k, k < xs.length → xs.getD k 0 = ys.getD k 0) : xs = ys := by
  apply List.ext_getElem?
  intro k
  by_cases hk : k < xs.length
  · have := h k hk
    rw [List.getD_eq_getElem?_getD, List.getD_eq_getElem?_getD, List.getElem?_eq_getElem hk, List.getElem?_eq_getElem (by omega)] at this
    rw [List.getElem?_eq_getElem hk, List.getElem?_eq_getElem (by omega)]
    exact congrArg some this
  · rw [List.getElem?_eq_none (by omega), List.getElem?_eq_none (by omega)]
theorem secOf_len {dur : List Nat} {n j : Nat} (hl : dur.length = n * 64) (hj : j < n) : (secOf dur j).length = 64 := by
  unfold secOf
  rw [List.length_take, List.length_drop, hl]; omega
theorem secOf_get (dur : List Nat) (j : Nat) {k : Nat} (hk : k < 64) : (secOf dur j).getD k 0 = dur.getD (j * 64 + k) 0 := by
  unfold secOf
  rw [List.getD_eq_getElem?_getD, List.getD_eq_getElem?_getD, List.getElem?_take_of_lt hk, List.getElem?_drop]
/-- a sector of which the first c bytes are others -/
def mixS (T : Nat → Option (List Nat)) (j c : Nat) (s : List Nat) : List Nat := match T j with
  | some xs => xs.take c ++ s.drop c
  | none => s
theorem settleD_len (dur : List Nat) (T : Nat → Option (List Nat)) (i : Int) (c : Nat) : (settleD dur T i c).length = dur.length := by
  unfold settleD
  split
  · exact setSec_len _ _ _ _
  · rfl
theorem secOf_settle {dur : List Nat} {T : Nat → Option (List Nat)} {n j c : Nat} {i : Int} (hl : dur.length = n * 64) (hj : j < n) (hT : ∀ i xs, T i = some xs → xs.length = 64) (hc : c ≤ 64) :
    secOf (settleD dur T i c) j = if (j : Int) = i then mixS T j c (secOf dur j) else secOf dur j := by
  unfold settleD
  cases h : Tz T i with
  | none =>
    by_cases e : (j : Int) = i
    · subst e
      rw [Tz_nat] at h
      rw [if_pos rfl]
      unfold mixS
      rw [h]
    · rw [if_neg e]
  | some xs =>
    have hi : 0 ≤ i := by
      unfold Tz at h
      split at h
      · assumption
      · cases h
    obtain ⟨k, rfl⟩ := Int.eq_ofNat_of_zero_le hi
    rw [Tz_nat] at h
    have hx := hT k xs h
    dsimp only
    rw [Int.toNat_natCast]
    by_cases e : j = k
    · subst e
      rw [if_pos rfl]
      unfold mixS
      rw [h]
      have hs := secOf_len hl hj
      refine ext_getD ?_ (fun k hk => ?_)
      · rw [secOf_len (by rw [setSec_len]; exact hl) hj, List.length_append, List.length_take, List.length_drop, hs]; omega
      · have hk64 : k < 64 := by rw [secOf_len (by rw [setSec_len]; exact hl) hj] at hk; exact hk
        rw [secOf_get _ _ hk64, setSec_get (by rw [hl]; omega)]
        by_cases hkc : k < c
        · rw [if_pos (by omega), show j * 64 + k - j * 64 = k from by omega, List.getD_eq_getElem?_getD, List.getD_eq_getElem?_getD, List.getElem?_append_left (by rw [List.length_take]; omega), List.getElem?_take_of_lt hkc]
        · rw [if_neg (by omega), List.getD_eq_getElem?_getD (l := xs.take c ++ _), List.getElem?_append_right (by rw [List.length_take]; omega), List.length_take, List.getElem?_drop, show c + (k - min c xs.length) = k from by omega, ← List.getD_eq_getElem?_getD, secOf_get _ _ hk64]
    · rw [if_neg (by omega)]
      refine ext_getD ?_ (fun x hx' => ?_)
      · rw [secOf_len (by rw [setSec_len]; exact hl) hj, secOf_len hl hj]
      · have hx64 : x < 64 := by rw [secOf_len (by rw [setSec_len]; exact hl) hj] at hx'; exact hx'
        rw [secOf_get _ _ hx64, secOf_get _ _ hx64, setSec_get (by rw [hl]; omega), if_neg (by omega)]
theorem mixS_now {dur : List Nat} {T : Nat → Option (List Nat)} {j : Nat} (hT : ∀ i xs, T i = some xs → xs.length = 64) (hs : (secOf dur j).length = 64) : mixS T j 64 (secOf dur j) = nowOf dur T j := by
  unfold mixS nowOf
  cases h : T j with
  | none => rfl
  | some xs =>
    have := hT j xs h
    show xs.take 64 ++ (secOf dur j).drop 64 = xs
    rw [List.take_of_length_le (by omega), List.drop_of_length_le (by omega), List.append_nil]
theorem settleL_len (T : Nat → Option (List Nat)) (zs : List Int) : ∀ dur, (settleL dur T zs).length = dur.length := by
  induction zs with
  | nil => exact fun _ => rfl
  | cons z zs ih => exact fun dur => (ih _).trans (settleD_len _ _ _ _)
theorem secOf_settleL {T : Nat → Option (List Nat)} {n j : Nat} (hj : j < n) (hT : ∀ i xs, T i = some xs → xs.length = 64) (zs : List Int) : ∀ dur : List Nat, dur.length = n * 64 →
    secOf (settleL dur T zs) j = if (j : Int) ∈ zs then nowOf dur T j else secOf dur j := by
  induction zs with
  | nil => exact fun _ _ => by simp [settleL]
  | cons z zs ih =>
    intro dur hl
    have h1 := ih (settleD dur T z 64) ((settleD_len _ _ _ _).trans hl)
    rw [show settleL dur T (z :: zs) = settleL (settleD dur T z 64) T zs from rfl, h1]
    have hs := secOf_settle (c := 64) (i := z) hl hj hT (Nat.le_refl _)
    have hs' : secOf (settleD dur T z 64) j = if (j : Int) = z then nowOf dur T j else secOf dur j := by rw [hs, mixS_now hT (secOf_len hl hj)]
    have hnow : nowOf (settleD dur T z 64) T j = nowOf dur T j := by
      cases h : T j with
      | some xs => unfold nowOf; rw [h]; rfl
      | none =>
        have : nowOf dur T j = secOf dur j := by unfold nowOf; rw [h]; rfl
        rw [show nowOf (settleD dur T z 64) T j = secOf (settleD dur T z 64) j from by unfold nowOf; rw [h]; rfl, hs', this]
        split <;> rfl
    rw [hnow, hs']
    by_cases e1 : (j : Int) = z
    · rw [if_pos e1, if_pos (List.mem_cons.2 (Or.inl e1))]
      split <;> rfl
    · rw [if_neg e1]
      by_cases e2 : (j : Int) ∈ zs
      · rw [if_pos e2, if_pos (List.mem_cons_of_mem _ e2)]
      · rw [if_neg e2, if_neg (fun h => (List.mem_cons.1 h).elim e1 e2)]
theorem torn64_le (n : Int) : torn64 n ≤ 64 := by unfold torn64; omega
theorem secOf_crash {dur : List Nat} {T : Nat → Option (List Nat)} {n j : Nat} {zs : List Int} {i x : Int} (hl : dur.length = n * 64) (hj : j < n) (hT : ∀ i xs, T i = some xs → xs.length = 64) :
    secOf (crashD dur T zs i x) j = if (j : Int) = i ∧ ¬ (j : Int) ∈ zs then mixS T j (torn64 x) (secOf dur j) else if (j : Int) ∈ zs then nowOf dur T j else secOf dur j := by
  unfold crashD
  rw [secOf_settle ((settleL_len _ _ _).trans hl) hj hT (torn64_le x), secOf_settleL hj hT zs dur hl]
  by_cases e1 : (j : Int) = i
  · by_cases e2 : (j : Int) ∈ zs
    · rw [if_pos e1, if_pos e2, if_neg (fun h => h.2 e2)]
      cases h : T j with
      | none => unfold mixS; rw [h]
      | some xs =>
        have hx := hT j xs h
        have hn : nowOf dur T j = xs := by unfold nowOf; rw [h]; rfl
        unfold mixS
        rw [h, hn]
        exact List.take_append_drop _ _
    · rw [if_pos e1, if_neg e2, if_pos ⟨e1, e2⟩]
  · rw [if_neg e1, if_neg (show ¬ ((j : Int) = i ∧ ¬ (j : Int) ∈ zs) from fun h => e1 h.1)]
theorem Pt.tlen {w : World} {b d m n q : Nat} {dur : List Nat} {T : Nat → Option (List Nat)} (h : Pt w b d m n q dur T) : ∀ i xs, T i = some xs → xs.length = 64 := fun i xs hx => by
  obtain ⟨D, _, h1, _, h3⟩ := h.mp
  rcases Nat.lt_or_ge i n with hi | hi
  · exact ((h1 i hi).2 xs hx).1.1
  · rw [h3 i hi] at hx; cases hx

theorem Rt.congr {w : World} {t n : Nat} {N N' : Nat → List Nat} (h : Rt w t n N) (e : ∀ r, r < n → N r = N' r) : Rt w t n N' := by
  obtain ⟨cp, V, h1, h2, h3⟩ := h
  refine ⟨cp, V, h1, h2, fun r hr => ?_⟩
  rw [← e r hr]
  exact h3 r hr
theorem rt_image {w : World} {t n : Nat} {V : Nat → Value} {dur : List Nat} (hb : ∀ x ∈ dur, x < 256) (hr : w.rowIs t 32 n V) (ho : ∀ r, r < n → Ow w (t + 1) (V r) ((dur.drop (r * 64)).take 64)) : Rt w t n (secOf dur) := by
  refine ⟨n, V, Nat.le_refl _, hr, fun r hr => ?_⟩
  obtain ⟨p, c, ev, _, rb, _⟩ := (ho r hr).rb (fun x hx => hb x (List.mem_of_mem_drop (List.mem_of_mem_take hx)))
  exact ⟨p, _, c, ev, rb⟩
theorem Nows.rt {w : World} {b d m t n : Nat} {V : Nat → Value} {N : Nat → List Nat} (h : Nows w b d m t n V N) : Rt w t n N :=
  ⟨n, V, Nat.le_refl _, h.top, fun r hr => by obtain ⟨bb, o, c, h1, h2, _⟩ := h.row r hr; exact ⟨_, _, c, h1, h2⟩⟩
theorem Wv.rt {w : World} {b d m t t2 : Nat} {N : Nat → List Nat} (h : Wv w b d m t t2 N) : Rt w t2 6 N := by
  obtain ⟨cp, V, h1, h2, h3⟩ := h.top
  exact ⟨cp, V, h1, h2, fun r hr => by obtain ⟨bb, o, c, h1, _, h2, _⟩ := h3 r hr; exact ⟨_, _, c, h1, h2⟩⟩
theorem wf_nat (i : Nat) (h : i < 1000000) : (Lit.int .i64 (i : Int)).wf = true := by have := WalkArith.wf_i64 (n := (i : Int)) (by omega); exact this
theorem Is.rz {w : World} {base : Nat} {v : Value} {zs : List Int} (h : Is w base v zs) : ∃ p c, v = .slice p zs.length c ∧ Rz w p zs ∧ ∀ a, p = some a → base ≤ a.block ∧ v.ownBlock = some a.block := by
  rcases h.2 with ⟨rfl, h0⟩ | ⟨g, cap, cur, rfl, hb, hh, hn, _, hcs, htk⟩
  · have : zs = [] := List.eq_nil_of_length_eq_zero h0
    subst this
    exact ⟨none, 0, rfl, fun j hj => absurd hj (Nat.not_lt_zero _), fun a e => by cases e⟩
  · refine ⟨_, cap, rfl, fun j hj => ⟨g, 0, rfl, ?_⟩, fun a e => by cases e; exact ⟨hb, rfl⟩⟩
    have h1 : (cur.toList.take (zs.length * 1))[j]? = some (.int .i64 (zs.getD j 0)) := by
      rw [htk, List.getElem?_map, List.getD_eq_getElem?_getD, List.getElem?_eq_getElem hj]; rfl
    rw [List.getElem?_take_of_lt (by omega), Array.getElem?_toList] at h1
    rw [Nat.zero_add]
    simp [World.cell?, hh, h1]
theorem Rz.keep {S : Nat → Prop} {w w' : World} {p : Option Addr} {zs : List Int} (h : Rz w p zs) (k : Kp S w w') (hS : ∀ a, p = some a → ¬ S a.block) : Rz w' p zs := fun j hj => by
  obtain ⟨b, o, rfl, hc⟩ := h j hj
  exact ⟨b, o, rfl, k.cellv hc (hS ⟨b, o, none⟩ rfl)⟩
end Go.Proofs.Ytfaaikblkakiaaa
