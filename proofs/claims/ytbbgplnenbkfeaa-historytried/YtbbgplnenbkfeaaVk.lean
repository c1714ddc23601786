/- Whether a call of the document's is answered, and its span. -/
import Derived.Test.YtbbgplnenbkfeaaVi
namespace Go.Proofs.Ytbbgplnenbkfeaa
set_option linter.unusedVariables false
set_option linter.unusedSimpArgs false
open Go.RowKit Go.Deep Go.Maps

def ansR (r : Rc) : Bool := decide (0 ≤ r.to) && (r.says == 1 || r.says == 2 || r.says == 3)
def spanR (r : Rc) (en : Int) : Int := if ansR r then r.to else en

set_option maxRecDepth 100000 in
set_option maxHeartbeats 1600000 in
theorem answered_ok (r : Rc) (w : World) :
    Calls Try.prog 37 #[.agg (rcell r).toArray] w fun e w' => e = .returned (.bool (ansR r)) ∧ Kp (fun _ => False) w w' := by
  obtain ⟨xa, hxa⟩ : ∃ xa, xa = (rcell r).toArray := ⟨_, rfl⟩
  rw [← hxa]
  have kk : Kp (fun _ => False) w (w.alloc (.cells xa 51)) := (Kp.refl _ _).alloc _
  have c1 : (w.alloc (.cells xa 51)).cell? ⟨w.heap.size, 1, none⟩ = some (.int .i64 r.to) := (Lv.new w xa 51).cell (j := 1) (by rw [hxa]; rfl)
  have c3 : (w.alloc (.cells xa 51)).cell? ⟨w.heap.size, 3, none⟩ = some (.int .i64 r.says) := (Lv.new w xa 51).cell (j := 3) (by rw [hxa]; rfl)
  clear hxa
  have HK : Hid (Kp (fun _ => False) w (w.alloc (.cells xa 51))) := kk
  clear kk
  obtain ⟨t, ht⟩ : ∃ t, t = r.to := ⟨_, rfl⟩
  obtain ⟨s, hs⟩ : ∃ s, s = r.says := ⟨_, rfl⟩
  unfold ansR
  rw [← ht] at c1 ⊢
  rw [← hs] at c3 ⊢
  clear ht hs
  by_cases h0 : 0 ≤ t
  · by_cases h1 : s = 1
    · subst h1
      go_enter Try.func37, Try.ntmps37
      go_wp2
      go_ret
      exact ⟨by simp [h0], HK.out⟩
    · have h1' : (s == 1) = false := by simpa using h1
      by_cases h2 : s = 2
      · subst h2
        go_enter Try.func37, Try.ntmps37
        go_wp2
        go_ret
        exact ⟨by simp [h0], HK.out⟩
      · have h2' : (s == 2) = false := by simpa using h2
        go_enter Try.func37, Try.ntmps37
        go_wp2
        go_ret
        exact ⟨by simp [h0, h1', h2'], HK.out⟩
  · go_enter Try.func37, Try.ntmps37
    go_wp2
    go_ret
    exact ⟨by rw [decide_eq_false (show ¬ 0 ≤ t by omega)]; rfl, HK.out⟩

set_option maxRecDepth 100000 in
set_option maxHeartbeats 1600000 in
theorem span_ok (r : Rc) (en : Int) (w : World) :
    Calls Try.prog 38 #[.agg (rcell r).toArray, .int .i64 en] w fun e w' => e = .returned (.tuple #[.int .i64 r.fr, .int .i64 (spanR r en)]) ∧ Kp (fun _ => False) w w' := by
  obtain ⟨xa, hxa⟩ : ∃ xa, xa = (rcell r).toArray := ⟨_, rfl⟩
  have HA : Hid (∀ u, Calls Try.prog 37 #[.agg xa] u fun e w' => e = .returned (.bool (ansR r)) ∧ Kp (fun _ => False) u w') := fun u => by rw [hxa]; exact answered_ok r u
  rw [← hxa]
  have HK : Hid (Kp (fun _ => False) w (w.alloc (.cells xa 51))) := (Kp.refl _ _).alloc _
  have HL : Hid (Lv (w.alloc (.cells xa 51)) w.heap.size (rcell r)) := by
    have := Lv.new w xa 51
    have e : rcell r = xa.toList := by rw [hxa]
    rw [e]
    exact this
  have HX : Hid (xa = (rcell r).toArray) := hxa
  have hb : Hid (spanR r en = if ansR r then r.to else en) := rfl
  clear hxa
  obtain ⟨b, hbe⟩ : ∃ b, b = ansR r := ⟨_, rfl⟩
  obtain ⟨sp, hsp⟩ : ∃ s, s = spanR r en := ⟨_, rfl⟩
  rw [← hbe] at HA hb
  rw [← hsp] at hb ⊢
  clear hbe hsp
  go_enter Try.func38, Try.ntmps38
  cases b with
  | true =>
    have hs : sp = r.to := hb.out
    subst hs
    go_wp2_with (first
      | (refine wpList_load_all rfl 51 _ rfl 7 w.heap.size (rcell r) rfl HL.out dsRc szRc rfl ?_; rw [← HX.out])
      | (go_at_call 37; refine (HA.out _).mono ?_; rintro e9 w9 ⟨rfl, k9⟩; have hl9 : Lv w9 w.heap.size (rcell r) := HL.out.keep k9 id; have c0 : w9.cell? ⟨w.heap.size, 0, none⟩ = some (.int .i64 r.fr) := hl9.cell (j := 0) rfl; have c1 : w9.cell? ⟨w.heap.size, 1, none⟩ = some (.int .i64 r.to) := hl9.cell (j := 1) rfl; have HK9 : Hid (Kp (fun _ => False) w w9) := HK.out.trans k9 (fun _ _ e => e); clear k9 hl9))
    go_quiet (fail)
    go_wp2
    go_ret2
    exact ⟨rfl, HK9.out.drewN _⟩
  | false =>
    have hs : sp = en := hb.out
    subst hs
    go_wp2_with (first
      | (refine wpList_load_all rfl 51 _ rfl 7 w.heap.size (rcell r) rfl HL.out dsRc szRc rfl ?_; rw [← HX.out])
      | (go_at_call 37; refine (HA.out _).mono ?_; rintro e9 w9 ⟨rfl, k9⟩; have c0 := (HL.out.keep k9 id).cell (j := 0) rfl; have HK9 : Hid (Kp (fun _ => False) w w9) := HK.out.trans k9 (fun _ _ e => e); clear k9))
    go_ret2
    exact ⟨rfl, HK9.out⟩
end Go.Proofs.Ytbbgplnenbkfeaa
