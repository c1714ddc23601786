/- The verifier's Texts: a copy of texts, which nobody else has. -/
import Derived.Test.YtfaaikblkakiaaaPl5
namespace Go.Proofs.Ytfaaikblkakiaaa
open Go.RowKit Go.Deep

/-- v is a list of texts of one's own -/
structure Gt (w : World) (base : Nat) (v : Value) (k : Nat) (xs : List Value) (N : Nat → List Nat) : Prop where
  own : w.ownsRow base 32 1 v k xs
  txt : ∀ r, r < k → ∃ p n c, xs[r]? = some (.slice p n c) ∧ Rb w p n (N r) ∧ n ≤ c ∧ ∀ a, p = some a → base ≤ a.block ∧ a.block < w.heap.size ∧ v.ownBlock ≠ some a.block
theorem Gt.keep {S : Nat → Prop} {w w' : World} {base : Nat} {v : Value} {k : Nat} {xs : List Value} {N : Nat → List Nat} (h : Gt w base v k xs N) (kp : Kp S w w') (hS : ∀ g, base ≤ g → ¬ S g) : Gt w' base v k xs N := by
  refine ⟨ownsRow_keep h.own kp (fun g hg => hS g (ownBlock_lt h.own hg).1), fun r hr => ?_⟩
  obtain ⟨p, n, c, e, rb, hc, hp⟩ := h.txt r hr
  exact ⟨p, n, c, e, rb.keep kp (fun a ha _ => hS _ (hp a ha).1), hc, fun a ha => ⟨(hp a ha).1, Nat.lt_of_lt_of_le (hp a ha).2.1 kp.size, (hp a ha).2.2⟩⟩
theorem Gt.step {w wq wb w3 : World} {base : Nat} {v v' vq : Value} {k : Nat} {xs : List Value} {N : Nat → List Nat} (h : Gt w base v k xs N) (hl : xs.length = k) (hb : base ≤ w.heap.size) (kq : Kp (fun _ => False) w wq) (oq : Ow wq w.heap.size vq (N k)) (hby : ∀ x ∈ N k, x < 256)
    (kb : Kp (fun _ => False) wq wb) (hown : w3.ownsRow base 32 1 v' (k + 1) (xs ++ [vq])) (hg : wb.grownBy w3 v.ownBlock) (hblk : v'.ownBlock = v.ownBlock ∨ v'.ownBlock = some wb.heap.size) : Gt w3 base v' (k + 1) (xs ++ [vq]) N := by
  have k3 := grownBy_kp hg
  have kw := kq.trans kb (fun _ _ e => e)
  refine ⟨hown, fun r hr => ?_⟩
  by_cases e : r = k
  · subst e
    obtain ⟨p, c, ev, hc, rb, hp⟩ := oq.rb hby
    refine ⟨p, (N r).length, c, ?_, ?_, hc, fun a ha => ?_⟩
    · rw [List.getElem?_append_right (by omega), hl, Nat.sub_self, ev]; rfl
    · refine (rb.keep0 kb).keep k3 (fun a ha _ e => ?_)
      have h1 := ownBlock_lt h.own e
      have h2 := (hp a ha).1
      omega
    · have h1 := (hp a ha).1
      have h2 := (ownBlock_lt oq (hp a ha).2).2
      have h3 := kb.size
      have h4 := k3.size
      refine ⟨by omega, by omega, fun e => ?_⟩
      rcases hblk with hblk | hblk
      · rw [hblk] at e
        have := (ownBlock_lt h.own e).2
        omega
      · rw [hblk] at e
        have := Option.some.inj e
        omega
  · obtain ⟨p, n, c, ev, rb, hc, hp⟩ := h.txt r (by omega)
    refine ⟨p, n, c, ?_, ?_, hc, fun a ha => ?_⟩
    · rw [List.getElem?_append_left (by omega)]; exact ev
    · exact (rb.keep0 kw).keep k3 (fun a ha _ e => (hp a ha).2.2 e)
    · have h1 := hp a ha
      have h3 := kw.size
      have h4 := k3.size
      refine ⟨h1.1, by omega, fun e => ?_⟩
      rcases hblk with hblk | hblk
      · rw [hblk] at e
        exact h1.2.2 e
      · rw [hblk] at e
        have := Option.some.inj e
        omega

set_option maxRecDepth 100000 in
set_option maxHeartbeats 1600000 in
theorem texts_ok {w : World} {p : Option Addr} {n c : Nat} {N : Nat → List Nat} (hn : (n : Int) ≤ 1000000) (hr : ∀ r, r < n → ∃ t o, p = some ⟨t, o, none⟩ ∧ ∃ pr k ck, w.cell? ⟨t, o + r, none⟩ = some (.slice pr k ck) ∧ Rb w pr k (N r) ∧ k ≤ 140737488355328) :
    Calls Try.prog 16 #[.slice p n c] w fun e w' => ∃ v xs, e = .returned v ∧ Kp (fun _ => False) w w' ∧ Gt w' w.heap.size v n xs N := by
  obtain ⟨ti, hi0, hz0, hz1, hz2⟩ := info_parts info42
  have HR : Hid _ := hr
  clear hr
  go_enter Try.func16, Try.ntmps16
  go_wp2
  go_loopg [3, 8] n (fun gk v i wr => ∃ (k : Nat) (v' : Value) (xs : List Value), k ≤ n ∧ gk = n - k ∧ i = .int .i64 k ∧ v' = v ∧ Kp (fun _ => False) w wr ∧ Hid (Gt wr w.heap.size v' k xs N))
  case atStart => exact ⟨0, _, [], Nat.zero_le _, rfl, rfl, rfl, Kp.refl _ _, World.ownsRow_nil _ _ _ _, fun r hr => absurd hr (Nat.not_lt_zero _)⟩
  case round =>
    obtain ⟨k, v, xs, hk, rfl, rfl, rfl, hK, hG⟩ := hrel
    by_cases hlt : (k : Int) < (n : Int)
    · obtain ⟨t, o, rfl, pr, kk, ck, hc, hRb, hkk⟩ := HR.out k (by omega)
      have c1 := hK.cellv hc id
      have HC : Hid (∀ c, Calls _ _ #[.slice _ _ c] wr _) := fun c => clone_any pr kk c (N k) wr (hRb.keep0 hK) hkk
      have hwz := hK.size
      have HB : Hid (∀ x ∈ N k, x < 256) := hRb.byte
      clear hc hRb hkk
      go_wp2_with fail
      refine (HC.out _).mono ?_
      rintro e wq ⟨vq, rfl, kq, oq⟩
      have hwq := kq.size
      have hKq := hK.trans kq (fun _ _ e => e)
      have HOq : Hid (Ow wq wr.heap.size vq (N k)) := oq
      have hOq := ownsRow_keep hG.out.own kq (fun _ _ => id)
      have hxl : Hid (xs.length = k * 1) := hG.out.own.1
      obtain ⟨pq, cq, ev, _, _, _⟩ := oq.rb HB.out
      obtain ⟨lq, hlq⟩ : ∃ l, l = (N k).length := ⟨_, rfl⟩
      rw [← hlq] at ev
      subst ev
      clear HC c1 oq hlq
      go_wp2_with (at_builtin; go_must (refine wpList_append_own_at _ rfl _ _ 40 rfl w.heap.size 32 ti (.slice none 0 0) 1 24 Try.underlying40 hi0 hz0 hz1 hz2 rfl (by decide) _ _ _ rfl (hOq.alloc _) ⟨wq.heap.size, 0, none⟩ 1 1 [.slice pq lq cq] rfl rfl (cell_one_new _ _ _) (fun x hx => by simp at hx; subst hx; rfl) (by unfold maxLen; omega) (by omega) (by simp; omega) ?_); intro v' w3 hown' hgrow3 hnil3 hblk3)
      have HK3 : Hid (Kp (fun _ => False) w w3) := Kp.trans (hKq.alloc _) (grownBy_kp hgrow3) (fun b hb e => by have := ownBlock_lt hOq e; omega)
      have HG3 : Hid (Gt w3 w.heap.size v' (k + 1) (xs ++ [.slice pq lq cq]) N) := Gt.step hG.out (by have := hxl.out; omega) hwz kq HOq.out HB.out ((Kp.refl _ _).alloc _) hown' hgrow3 hblk3
      clear hown' hgrow3 hnil3 hblk3 hG HOq hOq
      go_roundg (n - (k + 1))
      case rel => exact ⟨k + 1, v', _, by omega, rfl, by go_num, rfl, HK3.out, HG3.out⟩
      case measure => omega
    · have e : n = k := by omega
      subst e
      clear HR
      go_wp2
      go_ret
      exact ⟨_, rfl, hK, xs, hG.out⟩
end Go.Proofs.Ytfaaikblkakiaaa
