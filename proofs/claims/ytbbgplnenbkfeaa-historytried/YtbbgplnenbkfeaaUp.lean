/- May and Check. -/
import Derived.Test.YtbbgplnenbkfeaaUo
namespace Go.Proofs.Ytbbgplnenbkfeaa
set_option linter.unusedVariables false
set_option linter.unusedSimpArgs false
open Go.RowKit Go.Deep Go.Maps

/-- whether a journal is right -/
def chk (es : List Ev) : Bool := match rd es with | none => false | some cs => (byK cs).all (fun g => rightP g.2 (es.length : Int))

set_option maxRecDepth 100000 in
set_option maxHeartbeats 3200000 in
theorem may_ok (Z : Nat → Prop) (p : Option Addr) (cap : Nat) (es : List Ev) (w : World) (h : Fl w Z p (eflat es)) (he : ∀ e ∈ es, e.ok w) (hl : es.length ≤ 900) :
    Calls Try.prog 10 #[.slice p es.length cap] w fun r w' => r = .returned (.bool (rd es).isSome) ∧ Kp (fun _ => False) w w' := by
  have HR : Hid (Calls _ _ _ w _) := read_ok Z p cap es w h he hl
  obtain ⟨L, hL⟩ : ∃ L, L = es.length := ⟨_, rfl⟩
  obtain ⟨R, hR⟩ : ∃ R, R = rd es := ⟨_, rfl⟩
  rw [← hL, ← hR] at HR
  rw [← hL, ← hR]
  clear h he hl hL hR
  go_enter Try.func10, Try.ntmps10
  go_wp2_with (go_at_call 18; refine HR.out.mono ?_; rintro e9 w9 ⟨v9, rfl, k9, h9⟩)
  go_ret
  exact ⟨rfl, k9⟩

set_option maxRecDepth 100000 in
set_option maxHeartbeats 6400000 in
theorem check_ok (Z : Nat → Prop) (p : Option Addr) (cap : Nat) (es : List Ev) (w : World) (h : Fl w Z p (eflat es)) (he : ∀ e ∈ es, e.ok w) (hl : es.length ≤ 900) :
    Calls Try.prog 12 #[.slice p es.length cap] w fun r w' => r = .returned (.bool (chk es)) ∧ Kp (fun _ => False) w w' := by
  have HR : Hid (Calls _ _ _ w _) := read_ok Z p cap es w h he hl
  obtain ⟨L, hL⟩ : ∃ L, L = es.length := ⟨_, rfl⟩
  have HL : Hid (L ≤ 900) := by show _ ≤ _; omega
  have hL9 : (L : Int) ≤ 900 := by have := HL.out; omega
  obtain ⟨C, hC⟩ : ∃ C, C = chk es := ⟨_, rfl⟩
  have HC : Hid (C = chk es) := hC
  have HCk : Hid (chk es = match rd es with | none => false | some cs => (byK cs).all (fun g => rightP g.2 (L : Int))) := by show _ = _; unfold chk; rw [← hL]
  rw [← hL] at HR
  rw [← hL, ← hC]
  clear h he hl hL hC
  cases hrd : rd es with
  | none =>
    rw [hrd] at HR HCk
    have hc : C = false := by rw [HC.out, HCk.out]
    subst hc
    clear hrd
    go_enter Try.func12, Try.ntmps12
    go_wp2_with (go_at_call 18; refine HR.out.mono ?_; rintro e9 w9 ⟨v9, rfl, k9, h9⟩)
    go_ret
    exact ⟨rfl, k9⟩
  | some cs =>
    rw [hrd] at HR HCk
    have HCe : Hid (C = (byK cs).all (fun g => rightP g.2 (L : Int))) := by show _ = _; rw [HC.out, HCk.out]
    clear hrd HC HCk
    go_enter Try.func12, Try.ntmps12
    go_wp2_with fail
    refine HR.out.mono ?_
    rintro e9 w1 ⟨v1, rfl, k1, h1⟩
    obtain ⟨hRd, hlen⟩ := h1 cs rfl
    have HRd : Hid (Rd w w1 v1 cs) := hRd
    have HCl : Hid (cs.length ≤ 900) := by show _ ≤ _; have := HL.out; omega
    obtain ⟨q1, c1, e1, hf1⟩ := own_fl hRd.o
    subst e1
    have HB : Hid (Calls _ _ _ w1 _) := byKey_ok _ q1 c1 cs w1 hf1 (fun c hc => (hRd.c c hc).keep hRd.k) HCl.out
    have HK1 : Hid (Kp (fun _ => False) w w1) := k1
    clear hRd hlen h1 hf1 k1 HR
    obtain ⟨nc, hnc⟩ : ∃ n, n = cs.length := ⟨_, rfl⟩
    rw [← hnc] at HB ⊢
    have HNc : Hid (nc ≤ 900) := by rw [hnc]; exact HCl.out
    clear hnc
    go_wp2_with fail
    refine HB.out.mono ?_
    rintro e8 w2 ⟨v2, m, gs, rfl, hgk, hpl, hgl, hyl⟩
    obtain ⟨q2, c2, e2, _⟩ := own_fl hgk.o
    subst e2
    obtain ⟨N, hN⟩ : ∃ N, N = gs.length := ⟨_, rfl⟩
    have HG : Hid (Gk w1 w2 (.slice q2 N c2) m gs) := by rw [hN]; exact hgk
    have HN : Hid (N = gs.length ∧ N ≤ 900 ∧ ∀ y ∈ gs, y.l.length ≤ 900) := ⟨hN, by have := HNc.out; omega, fun y hy => by have := hyl y hy; have := HNc.out; omega⟩
    have HPl : Hid (C = gs.all (fun y => rightP y.l (L : Int))) := by
      show _ = _
      rw [HCe.out, ← hpl]
      unfold pl2
      rw [List.all_map]
      rfl
    rw [← hN]
    have hN9 : (N : Int) ≤ 900 := by have := HN.out; omega
    clear hgk hpl hgl hyl hN HB HCe
    go_wp2
    go_loopg [17] N (fun gk i wr => ∃ k : Nat, k ≤ N ∧ gk = N - k ∧ i = .int .i64 k ∧ Hid (Kp (fun _ => False) w1 wr) ∧ Hid (wr.ownsRow w1.heap.size 41 1 (.slice q2 N c2) N (gs.map (·.v))) ∧ Hid (∀ (j : Nat) (y : Gp), gs[j]? = some y → k ≤ j → Rd w1 wr y.v y.l) ∧ Hid (∀ (j : Nat) (y : Gp), gs[j]? = some y → j < k → rightP y.l (L : Int) = true))
    case atStart =>
      refine ⟨0, Nat.zero_le _, rfl, rfl, HG.out.k, ?_, fun j y hy _ => HG.out.r y (List.mem_of_getElem? hy), fun j y _ hj => absurd hj (Nat.not_lt_zero _)⟩
      have := HG.out.o
      rw [← HN.out.1] at this
      exact this
    case round =>
      obtain ⟨k, hk, rfl, rfl, HK, HO, HRj, HT⟩ := hrel
      by_cases hlt : (k : Int) < (N : Int)
      · have hkl : k < gs.length := by have := HN.out; omega
        obtain ⟨y, hy⟩ : ∃ y, gs[k]? = some y := ⟨_, List.getElem?_eq_getElem hkl⟩
        have HY : Hid (gs[k]? = some y) := hy
        have hym := List.mem_of_getElem? hy
        have hR := HRj.out k y hy (Nat.le_refl _)
        obtain ⟨qy, cy, ey, _⟩ := own_fl hR.o
        have HRt : Hid (Calls _ _ _ wr _) := right_ok w1 wr qy cy y.l.length y.l (L : Int) (by rw [← ey]; exact hR) rfl (HN.out.2.2 y hym) (by have := HL.out; omega)
        rcases Joins.ownsRow_forms HO.out with ⟨_, e2⟩ | ⟨go, co, hav⟩
        · omega
        have hq2 : q2 = some ⟨go, 0, none⟩ := by cases hav; rfl
        subst hq2
        have hcl := own_cl HO.out (j := k) (u := y.v) (by rw [List.getElem?_map, hy]; rfl)
        rw [ey] at hcl
        have HEy : Hid (y.v = .slice qy y.l.length cy) := ey
        obtain ⟨r, hr⟩ : ∃ r, r = rightP y.l (L : Int) := ⟨_, rfl⟩
        have HRr : Hid (r = rightP y.l (L : Int)) := hr
        rw [← hr] at HRt
        obtain ⟨ny, hny⟩ : ∃ n, n = y.l.length := ⟨_, rfl⟩
        rw [← hny] at HRt hcl HEy
        have HK1' : Hid (wrap64 ((k : Int) + 1) = ((k + 1 : Nat) : Int)) := wrapK (by have := HN.out; omega)
        clear hkl hy hym hR ey hav hr hny
        cases r with
        | true =>
          go_wp2_with (go_at_call 21; refine HRt.out.mono ?_; rintro e u4 ⟨rfl, k4⟩)
          go_roundg (N - (k + 1))
          case rel =>
            have hym := List.mem_of_getElem? HY.out
            have kv : Kp (fun b => y.v.ownBlock = some b) wr u4 := by rw [HEy.out]; exact k4
            have hlow : ∀ b, b < w1.heap.size → ¬ (y.v.ownBlock = some b) := fun b hb e => by have := (ownBlock_lt (HRj.out k y HY.out (Nat.le_refl _)).o e).1; omega
            refine ⟨k + 1, by omega, rfl, by first | rw [HK1'.out] | rfl | go_num, HK.out.trans kv (fun b hb e => hlow b hb e), ownsRow_keep HO.out kv (fun b hb e => HG.out.na y hym b e hb), fun j z hz hj => ?_, fun j z hz hj => ?_⟩
            · exact (HRj.out j z hz (by omega)).keep2 kv (fun b hb e => HG.out.ne j k z y hz HY.out (by omega) b hb e) hlow
            · by_cases e : j = k
              · subst e
                rw [HY.out] at hz
                cases hz
                exact HRr.out.symm
              · exact HT.out j z hz (by omega)
          case measure => omega
        | false =>
          go_wp2_with (go_at_call 21; refine HRt.out.mono ?_; rintro e u4 ⟨rfl, k4⟩)
          go_ret
          have hym := List.mem_of_getElem? HY.out
          have kv : Kp (fun b => y.v.ownBlock = some b) wr u4 := by rw [HEy.out]; exact k4
          have hlow : ∀ b, b < w1.heap.size → ¬ (y.v.ownBlock = some b) := fun b hb e => by have := (ownBlock_lt (HRj.out k y HY.out (Nat.le_refl _)).o e).1; omega
          have hf : C = false := by
            rw [HPl.out, List.all_eq_false]
            exact ⟨y, hym, by rw [← HRr.out]; decide⟩
          exact ⟨by rw [hf]; rfl, HK1.out.trans (HK.out.trans kv (fun b hb e => hlow b hb e)) (fun _ _ e => e)⟩
      · go_wp2
        go_ret
        have hf : C = true := by
          rw [HPl.out, List.all_eq_true]
          intro y hy
          obtain ⟨j, hj⟩ := List.getElem?_of_mem hy
          exact HT.out j y hj (by have := (List.getElem?_eq_some_iff.1 hj).1; have := HN.out; omega)
        exact ⟨by rw [hf]; rfl, HK1.out.trans HK.out (fun _ _ e => e)⟩
end Go.Proofs.Ytbbgplnenbkfeaa
