/- Who may hear; hearing. -/
import Derived.Test.YtbbgplnenbkfeaaUa
namespace Go.Proofs.Ytbbgplnenbkfeaa
set_option linter.unusedVariables false
set_option linter.unusedSimpArgs false
open Go.RowKit Go.Deep Go.Maps

set_option maxRecDepth 100000 in
set_option maxHeartbeats 3200000 in
theorem mayHear_ok (c : Hc) (e : Ev) (b o : Nat) (w : World) (hc : w.rangeAt b o (hcell c)) (h : e.b.ok w) :
    Calls Try.prog 28 #[.pointer (some ⟨b, o, none⟩), .agg (ecell e).toArray] w fun r w' => r = .returned (.bool (mayHearP c e)) ∧ Kp (fun _ => False) w w' := by
  obtain ⟨⟨p, cap, ev, hr⟩, hn⟩ := h
  obtain ⟨n, hnn⟩ : ∃ n, n = e.b.xs.length := ⟨_, rfl⟩
  have HN : Hid (e.b.xs.length = n) := hnn.symm
  rw [← hnn] at ev hn
  obtain ⟨xa, hxa⟩ : ∃ xa, xa = (ecell e).toArray := ⟨_, rfl⟩
  rw [← hxa]
  have kk : Kp (fun _ => False) w (w.alloc (.cells xa 29)) := (Kp.refl _ _).alloc _
  have c2 : (w.alloc (.cells xa 29)).cell? ⟨w.heap.size, 2, none⟩ = some (.int .i64 e.kind) := (Lv.new w xa 29).cell (j := 2) (by rw [hxa]; rfl)
  have c3 : (w.alloc (.cells xa 29)).cell? ⟨w.heap.size, 3, none⟩ = some (.string e.key) := (Lv.new w xa 29).cell (j := 3) (by rw [hxa]; rfl)
  have c4 : (w.alloc (.cells xa 29)).cell? ⟨w.heap.size, 4, none⟩ = some (.slice p n cap) := (Lv.new w xa 29).cell (j := 4) (by rw [hxa, ← ev]; rfl)
  have d2 : (w.alloc (.cells xa 29)).cell? ⟨b, o + 2, none⟩ = some (.int .i64 c.e.kind) := kk.cellv (rng_cell hc (j := 2) rfl) id
  have d7 : (w.alloc (.cells xa 29)).cell? ⟨b, o + 7, none⟩ = some (.bool c.told) := kk.cellv (rng_cell hc (j := 7) rfl) id
  clear hxa hr hnn ev hc
  have HK : Hid (Kp (fun _ => False) w (w.alloc (.cells xa 29))) := kk
  clear kk
  obtain ⟨ck, hck⟩ : ∃ ck, ck = c.e.kind := ⟨_, rfl⟩
  obtain ⟨ct, hct⟩ : ∃ ct, ct = c.told := ⟨_, rfl⟩
  obtain ⟨kd, hkd⟩ : ∃ kd, kd = e.kind := ⟨_, rfl⟩
  obtain ⟨ky, hky⟩ : ∃ ky, ky = e.key := ⟨_, rfl⟩
  unfold mayHearP
  rw [HN.out]
  rw [← hck] at d2 ⊢
  rw [← hct] at d7 ⊢
  rw [← hkd] at c2 ⊢
  rw [← hky] at c3 ⊢
  clear hck hct hkd hky
  cases ct with
  | true =>
    go_enter Try.func28, Try.ntmps28
    go_wp2
    go_ret
    exact ⟨rfl, HK.out⟩
  | false =>
    cases hk : ky.toList.isEmpty with
    | true =>
      by_cases h1 : kd = 1
      · subst h1
        by_cases h2 : ck = 2
        · subst h2
          go_enter Try.func28, Try.ntmps28
          go_wp2
          go_ret
          exact ⟨rfl, HK.out⟩
        · have h2' : (ck == 2) = false := by simpa using h2
          by_cases h3 : 0 < n
          · have h3' : decide ((0 : Int) < (n : Int)) = true := by simpa using h3
            go_enter Try.func28, Try.ntmps28
            go_wp2
            go_ret
            exact ⟨by simp [h2, h3], HK.out⟩
          · have h3' : decide ((0 : Int) < (n : Int)) = false := by simpa using h3
            go_enter Try.func28, Try.ntmps28
            go_wp2
            go_ret
            exact ⟨by simp [h2, h3], HK.out⟩
      · have h1' : (kd == 1) = false := by simpa using h1
        by_cases h3 : 0 < n
        · have h3' : decide ((0 : Int) < (n : Int)) = true := by simpa using h3
          go_enter Try.func28, Try.ntmps28
          go_wp2
          go_ret
          exact ⟨by simp [h1, h3], HK.out⟩
        · have h3' : decide ((0 : Int) < (n : Int)) = false := by simpa using h3
          by_cases h4 : kd = 4
          · subst h4
            go_enter Try.func28, Try.ntmps28
            go_wp2
            go_ret
            exact ⟨by simp [h3], HK.out⟩
          · have h4' : (kd == 4) = false := by simpa using h4
            by_cases h5 : kd = 5
            · subst h5
              go_enter Try.func28, Try.ntmps28
              go_wp2
              go_ret
              exact ⟨by simp [h3], HK.out⟩
            · have h5' : (kd == 5) = false := by simpa using h5
              by_cases h6 : kd = 2
              · subst h6
                go_enter Try.func28, Try.ntmps28
                go_wp2
                go_ret
                exact ⟨by simp [h3], HK.out⟩
              · have h6' : (kd == 2) = false := by simpa using h6
                by_cases h7 : kd = 3
                · subst h7
                  go_enter Try.func28, Try.ntmps28
                  go_wp2
                  go_ret
                  exact ⟨by simp [h3], HK.out⟩
                · have h7' : (kd == 3) = false := by simpa using h7
                  go_enter Try.func28, Try.ntmps28
                  go_wp2
                  go_ret
                  exact ⟨by simp [h1, h3, h4, h5, h6, h7], HK.out⟩
    | false =>
      go_enter Try.func28, Try.ntmps28
      go_wp2
      go_ret
      exact ⟨by simp, HK.out⟩
end Go.Proofs.Ytbbgplnenbkfeaa
