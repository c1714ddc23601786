/- A shelf whose log may be written anew: write. -/
import Derived.Test.YtippipeebkkghaaGreatDoorJrq
namespace Go.Proofs.YtippipeebkkghaaGreatDoor
set_option linter.unusedVariables false
set_option linter.unusedSimpArgs false
open Go.RowKit Go.Deep Go.Maps

theorem fS_nn (h : List Rc) (x : K3) : 0 ≤ fS h x := by
  unfold fS
  split
  · exact Int.natCast_nonneg _
  · exact Int.le_refl _

theorem sumI_nn {f : K3 → Int} (hf : ∀ x, 0 ≤ f x) : ∀ l : List K3, 0 ≤ sumI (l.map f)
  | [] => Int.le_refl _
  | x :: l => by
    rw [List.map_cons, sumI_cons]
    have := sumI_nn hf l
    have := hf x
    omega

theorem keys_of : ∀ h : List Rc, ∃ ks : List K3, ks.Nodup ∧ ∀ r ∈ h, subS r ∈ ks
  | [] => ⟨[], List.nodup_nil, fun r hr => by cases hr⟩
  | r :: h => by
    obtain ⟨ks, h1, h2⟩ := keys_of h
    by_cases hm : subS r ∈ ks
    · exact ⟨ks, h1, fun q hq => (List.mem_cons.1 hq).elim (fun e => e ▸ hm) (h2 q)⟩
    · exact ⟨subS r :: ks, List.nodup_cons.2 ⟨hm, h1⟩, fun q hq => (List.mem_cons.1 hq).elim (fun e => e ▸ List.mem_cons_self) (fun e => List.mem_cons_of_mem _ (h2 q e))⟩

theorem stS_nn {h : List Rc} (hg : ∀ r ∈ h, GoodR r) (hn : h.length ≤ 1000) : 0 ≤ (stS h).2 := by
  obtain ⟨ks, h1, h2⟩ := keys_of h
  rw [stS_sum h ks h1 (fun x o ho => by rw [(stS_sub h x o ho).1]; exact h2 o ((stS_bd hg hn).2.2 x o ho))]
  exact sumI_nn (fS_nn h) ks

/-- what a call may write -/
abbrev SW6 (sh mp g m gf d : Nat) : Nat → Prop := fun x => x = d ∨ x = m ∨ x = g ∨ x = gf ∨ x = sh ∨ x = mp

/-- a shelf, its log and its plate, behind N records written -/
structure Shr (w : World) (Z : Nat → Prop) (sh mp g bp d m gf s b N : Nat) (h : List Rc) : Prop where
  lg : ∃ q a c e lt y dur T, Lg w g bp d m gf s q a b c e lt y (h.map wrS) dur T ∧ a ≤ N + 1 ∧ lt ≤ 2000 * N
  sk : Sk w Z sh mp g h
  tu : Turns w
  zb : ∀ x, Z x → x < w.heap.size
  ap : sh ≠ mp ∧ ¬ Z sh ∧ ¬ Z mp
  aq : ∀ x, (x = d ∨ x = m ∨ x = g ∨ x = gf) → ¬ Z x ∧ x ≠ sh ∧ x ≠ mp
  ar : bp ≠ sh ∧ bp ≠ mp
  at_ : (0 : Nat) ≠ sh ∧ (0 : Nat) ≠ mp
  rm : (totW (h.map wrS) : Int) + (stS h).2 ≤ (s : Int)
  hl : h.length ≤ N

/-- a record was written -/
def Wrd (w' : World) (w0 sh mp g bp d m gf s b N : Nat) (h : List Rc) (r : Rc) (Z : Nat → Prop) : Prop := ∃ Z' gf' h', (gf' = gf ∨ w0 ≤ gf') ∧ Shr w' Z' sh mp g bp d m gf' s b (N + 1) h' ∧ stS h' = stS (h ++ [r]) ∧ (∀ q ∈ h', q ∈ h ∨ q = r) ∧ ∀ v, Z' v → Z v ∨ w0 ≤ v

section
variable {w : World} {Z : Nat → Prop} {sh mp g bp d m gf s b N : Nat} {h : List Rc}

theorem Shr.keep {S : Nat → Prop} (x : Shr w Z sh mp g bp d m gf s b N h) {w' : World} (k : Kp S w w') (hS : ∀ v, (v = bp ∨ SW6 sh mp g m gf d v ∨ Z v ∨ v = (0 : Nat)) → ¬ S v) : Shr w' Z sh mp g bp d m gf s b N h := by
  obtain ⟨q, a, c, e, lt, y, dur, T, hl, h1, h2⟩ := x.lg
  have hs : ∀ v, SW6 sh mp g m gf d v → ¬ S v := fun v hv => hS v (Or.inr (Or.inl hv))
  exact ⟨⟨q, a, c, e, lt, y, dur, T, hl.keep k (hs _ (Or.inr (Or.inr (Or.inl rfl)))) (hS _ (Or.inl rfl)) (hs _ (Or.inl rfl)) (hs _ (Or.inr (Or.inl rfl))) (hs _ (Or.inr (Or.inr (Or.inr (Or.inl rfl))))), h1, h2⟩,
    x.sk.keep k (hs _ (Or.inr (Or.inr (Or.inr (Or.inr (Or.inl rfl)))))) (hs _ (Or.inr (Or.inr (Or.inr (Or.inr (Or.inr rfl)))))) (fun v hv => hS v (Or.inr (Or.inr (Or.inl hv)))), x.tu.keep k (hS _ (Or.inr (Or.inr (Or.inr rfl)))), fun v hv => Nat.lt_of_lt_of_le (x.zb v hv) k.size, x.ap, x.aq, x.ar, x.at_, x.rm, x.hl⟩

theorem Shr.keep0 (x : Shr w Z sh mp g bp d m gf s b N h) {w' : World} (k : Kp (fun _ => False) w w') : Shr w' Z sh mp g bp d m gf s b N h := x.keep k (fun _ _ e => e)

theorem Shr.blk (x : Shr w Z sh mp g bp d m gf s b N h) : ∀ v, SW6 sh mp g m gf d v → v < w.heap.size := fun v hv => by
  obtain ⟨q, a, c, e, lt, y, dur, T, hl, _⟩ := x.lg
  have h1 := hl.blk
  have h2 := x.sk.l.lt (by simp)
  have h3 : mp < w.heap.size := by obtain ⟨c9, T9, _, h2, _⟩ := x.sk.m; exact h2.lt
  rcases hv with e | e | e | e | e | e <;> omega

theorem Shr.write (x : Shr w Z sh mp g bp d m gf s b N h) (r : Rc) (p : Option Addr) (cp : Nat) (hr : Rb w p r.b.length r.b) (hg : GoodR r) (hN : N + 1 ≤ 1000) (hz : ∀ v, p = some v → v.block < w.heap.size ∧ ¬ SW6 sh mp g m gf d v.block)
    (hroom : 2 * (secS r : Int) + 2 * (stS h).2 ≤ (s : Int)) (w0 : Nat) (hw0 : w0 ≤ w.heap.size ∧ ∀ v, p = some v → w0 ≤ v.block) :
    Calls Tryz.prog 50 #[.pointer (some ⟨sh, 0, none⟩), rcV r p cp] w fun e9 w' => e9 = .returned (.int .i64 0) ∧ Kp (SW6 sh mp g m gf d) w w' ∧ Wrd w' w0 sh mp g bp d m gf s b N h r Z := by
  obtain ⟨q, a, c, e, lt, y, dur, T, hl, ha, hlt⟩ := x.lg
  have h1 := behS_le (stS h).1 (stS h).2 r
  have hln := x.hl
  have hrm := x.rm
  obtain ⟨Z', hZ'⟩ : ∃ Z' : Nat → Prop, Z' = fun v => Z v ∨ ∃ z, p = some z ∧ v = z.block := ⟨_, rfl⟩
  have hZ9 : ∀ v, Z' v → Z v ∨ w0 ≤ v := fun v hv => by
    rw [hZ'] at hv
    rcases hv with hv | ⟨z, hz1, rfl⟩
    · exact Or.inl hv
    · exact Or.inr (hw0.2 z hz1)
  have hZ : ∀ v, Z' v → Z v ∨ (v < w.heap.size ∧ ¬ SW6 sh mp g m gf d v) := fun v hv => by
    rw [hZ'] at hv
    rcases hv with hv | ⟨z, hz1, rfl⟩
    · exact Or.inl hv
    · exact Or.inr (hz z hz1)
  have sk' : Sk w Z' sh mp g h := x.sk.zm (fun v hv => by rw [hZ']; exact Or.inl hv)
  have hz' : ∀ v, p = some v → Z' v.block := fun v hv => by rw [hZ']; exact Or.inr ⟨v, hv, rfl⟩
  have zb' : ∀ v, Z' v → v < w.heap.size := fun v hv => (hZ v hv).elim (x.zb v) (fun e => e.1)
  have ap' : sh ≠ mp ∧ ¬ Z' sh ∧ ¬ Z' mp := ⟨x.ap.1, fun e => (hZ _ e).elim x.ap.2.1 (fun e => e.2 (Or.inr (Or.inr (Or.inr (Or.inr (Or.inl rfl)))))), fun e => (hZ _ e).elim x.ap.2.2 (fun e => e.2 (Or.inr (Or.inr (Or.inr (Or.inr (Or.inr rfl))))))⟩
  have aq' : ∀ v, (v = d ∨ v = m ∨ v = g ∨ v = gf) → ¬ Z' v ∧ v ≠ sh ∧ v ≠ mp := fun v hv => ⟨fun e => (hZ _ e).elim (x.aq v hv).1 (fun e => e.2 (by
    rcases hv with e | e | e | e
    · exact Or.inl e
    · exact Or.inr (Or.inl e)
    · exact Or.inr (Or.inr (Or.inl e))
    · exact Or.inr (Or.inr (Or.inr (Or.inl e))))), (x.aq v hv).2⟩
  have hnn : 0 ≤ behS (stS h).1 (stS h).2 r := by
    have h2 := stS_nn (h := h ++ [r]) (fun q hq => (List.mem_append.1 hq).elim (x.sk.g q) (fun e => by rw [List.mem_singleton.1 e]; exact hg)) (by rw [List.length_append]; simp only [List.length_cons, List.length_nil]; omega)
    rw [stS_snoc] at h2
    exact h2
  have hbd := hl.bounds
  have tu' : ∀ {w' : World}, Kp (SW6 sh mp g m gf d) w w' → Turns w' := fun k => x.tu.keep k (fun e => by
    rcases e with e | e | e | e | e | e
    · exact hl.lp.td e
    · exact hl.lp.tm e
    · exact hl.lp.tg e
    · exact hl.lp.tf e
    · exact x.at_.1 e
    · exact x.at_.2 e)
  by_cases hw : (s : Int) < (secS r : Int) + behS (stS h).1 (stS h).2 r + (totW (h.map wrS) : Int)
  · refine (swrite_ck hl sk' r p cp hr hg (by omega) hz' zb' ap' aq' x.ar hrm (by omega) (by omega) hw x.tu (by omega) (by omega)).mono ?_
    rintro e9 w' ⟨rfl, k, ss, gf', q', dur', T', hth, hgf, sk2, lg2⟩
    have hck := ckL_same hth x.sk.wf
    have hst : stS (ckL h ss ++ [r]) = stS (h ++ [r]) := by
      rw [stS_snoc, stS_snoc, hck.1, hck.2]
    have hcl : (ckL h ss).length ≤ h.length := by
      rw [← List.length_map (f := subS), (ckL_dst hth).2, srt3_len]
      exact hth.len2 x.sk
    have hbk := x.blk
    refine ⟨rfl, k, Z', gf', ckL h ss ++ [r], Or.inr (Nat.le_trans hw0.1 hgf), ⟨⟨q', _, _, _, _, _, dur', T', lg2, by omega, by omega⟩, sk2, tu' k, fun v hv => Nat.lt_of_lt_of_le (zb' v hv) k.size, ap', fun v hv => ?_, x.ar, x.at_, ?_, ?_⟩, hst, fun q hq => (List.mem_append.1 hq).elim (fun e => Or.inl ((stS_bd x.sk.g x.sk.n).2.2 _ _ (ckL_mem hth e).1)) (fun e => Or.inr (List.mem_singleton.1 e)), hZ9⟩
    · rcases hv with e | e | e | e
      · exact aq' v (Or.inl e)
      · exact aq' v (Or.inr (Or.inl e))
      · exact aq' v (Or.inr (Or.inr (Or.inl e)))
      · have b1 := hbk sh (Or.inr (Or.inr (Or.inr (Or.inr (Or.inl rfl)))))
        have b2 := hbk mp (Or.inr (Or.inr (Or.inr (Or.inr (Or.inr rfl)))))
        exact ⟨fun hv => by have := zb' v hv; omega, by omega, by omega⟩
    · rw [hst, List.map_append, totW_app, stS_snoc]
      have h3 := ckL_tot x.sk hth
      show ((totW ((ckL h ss).map wrS) + secS r : Nat) : Int) + behS _ _ _ ≤ _
      omega
    · rw [List.length_append]
      simp only [List.length_cons, List.length_nil]
      omega
  · refine (swrite_ok hl sk' r p cp hr hg (by omega) hz' ap' (fun v hv => aq' v (Or.inr hv)) ⟨x.ar.1, x.ar.2, (aq' d (Or.inl rfl)).2⟩ (by omega) (by omega) x.tu).mono ?_
    rintro e9 w' ⟨rfl, k, sk2, q', T', lg2⟩
    have k6 : Kp (SW6 sh mp g m gf d) w w' := k.mono (fun v _ e => Or.inr e)
    refine ⟨rfl, k6, Z', gf, h ++ [r], Or.inl rfl, ⟨⟨q', _, _, _, _, _, dur, T', lg2, by omega, by omega⟩, sk2, tu' k6, fun v hv => Nat.lt_of_lt_of_le (zb' v hv) k.size, ap', aq', x.ar, x.at_, ?_, ?_⟩, rfl, fun q hq => (List.mem_append.1 hq).elim Or.inl (fun e => Or.inr (List.mem_singleton.1 e)), hZ9⟩
    · rw [List.map_append, totW_app, stS_snoc]
      show ((totW (h.map wrS) + secS r : Nat) : Int) + behS _ _ _ ≤ _
      omega
    · rw [List.length_append]
      simp only [List.length_cons, List.length_nil]
      omega

end
end Go.Proofs.YtippipeebkkghaaGreatDoor
