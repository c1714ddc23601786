/- VoteKeeps: the walk (laid by scripts/mkvrq.py). -/
import Derived.Test.YtippipeebkkghaaGreatDoorVrn
import Derived.Lib.MinMax
import Derived.Handy
import Derived.BigQuiet
namespace Go.Proofs.YtippipeebkkghaaGreatDoor
set_option linter.unusedVariables false
set_option linter.unusedSimpArgs false
open Go.RowKit Go.Deep Go.Maps

abbrev zeroDo11 : List Value := .int .i64 0 :: .int .i64 0 :: .int .i64 0 :: .int .i64 0 :: .int .i64 0 :: (zeroC.toList ++ [.int .u64 0])
theorem sizeDo11 : (Tryz.prog.info? 34).map (·.size) = some 18 := by kernel_rfl
theorem dsDo11 : ∃ d, Tryz.prog.underlying 34 = some d ∧ d.isRow = true := ⟨_, Tryz.underlying34, rfl⟩
theorem doL_len {op bl sl tn nn mk : Int} {cs : List Value} (h : cs.length = 12) : (doL op bl sl tn nn cs mk).length = 18 := by simp [h]
theorem doL_one {op bl sl tn nn mk : Int} {cs : List Value} (h : ∀ u ∈ cs, u.oneCell' = true) : (doL op bl sl tn nn cs mk).toArray.all (·.oneCell') = true := all_oneCell_toArray (fun v hv => by
  simp only [List.mem_append, List.mem_cons, List.not_mem_nil, or_false] at hv
  rcases hv with (rfl | rfl | rfl | rfl | rfl) | hv | rfl
  · rfl
  · rfl
  · rfl
  · rfl
  · rfl
  · exact h v hv
  · rfl)

/-- the law's state ahead of a round, and behind its call -/
structure R11 (w u : World) (pb mv q ac sh mp g bp d m gf b N : Nat) (h : List Rc) (hi : Nat) (V : Nat → Nat) : Prop where
  a : A11 w u pb mv ac sh mp g bp d m gf b N h hi V
  mm : Mm u mv q (cntV V) (TV V)
  nm : ¬ SW6 sh mp g m gf d mv ∧ mv ≠ pb ∧ mv ≠ ac ∧ mv ≠ bp ∧ mv ≠ (0 : Nat)
  wm : w.heap.size ≤ mv
section
variable {w u u' : World} {pb mv q ac sh mp g bp d m gf b N : Nat} {h : List Rc} {hi : Nat} {V : Nat → Nat}
theorem R11.keep0 (x : R11 w u pb mv q ac sh mp g bp d m gf b N h hi V) (k : Kp (fun _ => False) u u') : R11 w u' pb mv q ac sh mp g bp d m gf b N h hi V :=
  ⟨x.a.keep0 k, x.mm.keep k id, x.nm, x.wm⟩
/-- Promised and Votes -/
theorem R11.prm (x : R11 w u pb mv q ac sh mp g bp d m gf b N h hi V) : Calls Tryz.prog 12 #[.pointer (some ⟨ac, 0, none⟩)] u fun e w' => e = .returned (.int .i64 (hi : Int)) ∧ Kp (fun _ => False) u w' := by
  obtain ⟨Z, hs, _⟩ := x.a.s
  exact vPromised_ok hs.sk x.a.hs x.a.c
theorem R11.vts (x : R11 w u pb mv q ac sh mp g bp d m gf b N h hi V) : Calls Tryz.prog 13 #[.pointer (some ⟨ac, 0, none⟩), .int .i64 1] u fun e w' => ∃ p c l, e = .returned (.slice p (cntV V) c) ∧ Kp (fun _ => False) u w' ∧ Fl w' (fun b => u.heap.size ≤ b ∧ b < w'.heap.size) p (vflat l) ∧ l.length = cntV V ∧ ∀ y ∈ l, ∃ s : Nat, (1 ≤ s ∧ s ≤ 5) ∧ V s ≠ 0 ∧ y.1 = voI (s : Int) (V s) ∧ y.2.oneCell' = true := by
  obtain ⟨Z, hs, _⟩ := x.a.s
  refine (votes_ok hs.sk x.a.hs x.a.c 1).mono ?_
  rintro e w' ⟨v, l, ss, rfl, k, o, hone, hm, hT⟩
  have hlen : l.length = cntV V := by
    have h1 := congrArg List.length hm
    rw [List.length_map, List.length_map, x.a.hs.cnt hT] at h1
    exact h1
  obtain ⟨p, c, rfl, hf⟩ := own_fl o
  refine ⟨p, c, l, by rw [hlen], k, hf, hlen, fun y hy => ?_⟩
  have h2 : y.1 ∈ (fromL 1 (ntsL (srt3 ss))).map (voV V) := by rw [← hm]; exact List.mem_map_of_mem hy
  obtain ⟨z, hz, e⟩ := List.mem_map.1 h2
  unfold fromL at hz
  obtain ⟨hz1, hz2⟩ := List.mem_filter.1 hz
  have hz3 := ((x.a.hs.nts hT).2.1 z).1 hz1
  have hz2 := of_decide_eq_true hz2
  have hz4 : 1 ≤ z ∧ z ≤ 5 ∧ V z.toNat ≠ 0 := by
    rcases hz3 with e1 | e1
    · exact absurd e1.1 hz2.1
    · exact e1
  have ez : z = ((z.toNat : Nat) : Int) := by omega
  refine ⟨z.toNat, by omega, hz4.2.2, ?_, hone y hy⟩
  rw [← e]
  unfold voV
  rw [← ez]

theorem R11.pa (x : R11 w u pb mv q ac sh mp g bp d m gf b N h hi V) : u.cell? ⟨pb, 0, none⟩ = some (.pointer (some ⟨ac, 0, none⟩)) ∧ u.cell? ⟨pb, 2, none⟩ = some (.pointer (some ⟨bp, 0, none⟩)) := by
  obtain ⟨ax, x3, hl⟩ := x.a.lp
  exact ⟨hl.cell (j := 0) rfl, hl.cell (j := 2) rfl⟩
theorem nm_step {gf' n : Nat} (hg : gf' = gf ∨ n ≤ gf') (hmv : mv < n) (h1 : ¬ SW6 sh mp g m gf d mv) : ¬ SW6 sh mp g m gf' d mv := fun e => h1 (sw6_back hg hmv e)
/-- Prepare -/
theorem R11.step {kk hi' : Nat} {Z : Nat → Prop} (x : R11 w u pb mv q ac sh mp g bp d m gf b N h hi V) (hZ : ¬ Z pb ∧ ¬ Z mv) (k : Kp (SW6 sh mp g m gf d) u u') (hR : ResD u' Z u.heap.size sh mp g bp d m gf b N kk hi' V) : ∃ gf' N' h', N' ≤ N + kk ∧ R11 w u' pb mv q ac sh mp g bp d m gf' b N' h' hi' V := by
  obtain ⟨gf', N', h', e, hn, ha⟩ := x.a.step hZ x.mm.lt k hR
  exact ⟨gf', N', h', hn, ha, x.mm.keep k x.nm.1, ⟨nm_step e x.mm.lt x.nm.1, x.nm.2⟩, x.wm⟩
/-- Accept, and the law's own map -/
theorem R11.put {kk bt s : Nat} {Z : Nat → Prop} {u2 : World} (x : R11 w u pb mv q ac sh mp g bp d m gf b N h hi V) (hZ : ¬ Z pb ∧ ¬ Z mv) (k : Kp (SW6 sh mp g m gf d) u u') (hs : 1 ≤ s ∧ s ≤ 5) (hb : bt ≠ 0) (hR : ResD u' Z u.heap.size sh mp g bp d m gf b N kk bt (fun t => if t = s then bt else V t)) (k2 : Kp (fun v => v = mv) u' u2) (hm : Mm u2 mv (q + 1) (cntV V + (if (TV V (s : Int)).isSome then 0 else 1)) (upd (TV V) (s : Int) (.int .i64 (bt : Int)))) : ∃ gf' N' h', N' ≤ N + kk ∧ R11 w u2 pb mv (q + 1) ac sh mp g bp d m gf' b N' h' bt (fun t => if t = s then bt else V t) := by
  obtain ⟨gf', N', h', e, hn, ha⟩ := x.a.step hZ x.mm.lt k hR
  have n1 := nm_step e x.mm.lt x.nm.1
  refine ⟨gf', N', h', hn, ha.keepT k2 (fun v hv e => ?_) (fun v e => Or.inr (Or.inr e)) (fun v e => by have e' : v = mv := e; have := x.wm; omega), ?_, ⟨n1, x.nm.2⟩, x.wm⟩
  · have e' : v = mv := e
    rw [e'] at hv
    rcases hv with hv | hv | hv | hv | hv
    · exact x.nm.2.2.2.1 hv
    · exact n1 hv
    · exact x.nm.2.2.2.2 hv
    · exact x.nm.2.2.1 hv
    · exact x.nm.2.1 hv
  · rw [TV_cnt hs hb, TV_put hs hb] at hm
    exact hm
/-- a crash: what is dirty, what of it is kept, the crash -/
theorem R11.crash {q7 : Nat} {mk tn nn : Int} (x : R11 w u pb mv q ac sh mp g bp d m gf b N h hi V) (hq : d < q7 ∧ m < q7) (hpb : pb ≠ d ∧ pb ≠ m) (hwf : (Lit.int .i64 tn).wf = true)
    (hS : u.cell? ⟨pb, 2, none⟩ = some (.pointer (some ⟨bp, 0, none⟩)) ∧ u.cell? ⟨q7, 17, none⟩ = some (.int .u64 mk) ∧ u.cell? ⟨q7, 3, none⟩ = some (.int .i64 tn) ∧ u.cell? ⟨q7, 4, none⟩ = some (.int .i64 nn)) :
    Calls Tryz.prog 9 #[.pointer (some ⟨bp, 0, none⟩)] u fun e w9 => ∃ v2, e = .returned v2 ∧ (w9.cell? ⟨pb, 2, none⟩ = some (.pointer (some ⟨bp, 0, none⟩)) ∧ w9.cell? ⟨q7, 17, none⟩ = some (.int .u64 mk) ∧ w9.cell? ⟨q7, 3, none⟩ = some (.int .i64 tn) ∧ w9.cell? ⟨q7, 4, none⟩ = some (.int .i64 nn)) ∧ (Calls Tryz.prog 8 #[v2, .int .u64 mk] w9 fun e w9 => ∃ v3, e = .returned v3 ∧ (w9.cell? ⟨pb, 2, none⟩ = some (.pointer (some ⟨bp, 0, none⟩)) ∧ w9.cell? ⟨q7, 17, none⟩ = some (.int .u64 mk) ∧ w9.cell? ⟨q7, 3, none⟩ = some (.int .i64 tn) ∧ w9.cell? ⟨q7, 4, none⟩ = some (.int .i64 nn)) ∧ (Calls Tryz.prog 7 #[.pointer (some ⟨bp, 0, none⟩), v3, .int .i64 tn, .int .i64 nn] w9 fun e w9 => e = .returned (.int .i64 0) ∧ (w9.cell? ⟨pb, 2, none⟩ = some (.pointer (some ⟨bp, 0, none⟩)) ∧ w9.cell? ⟨q7, 17, none⟩ = some (.int .u64 mk) ∧ w9.cell? ⟨q7, 3, none⟩ = some (.int .i64 tn) ∧ w9.cell? ⟨q7, 4, none⟩ = some (.int .i64 nn)) ∧ (Kp (fun v => v = d ∨ v = m) u w9 ∧ Cr11 w9 bp d m b N h))) := by
  have hkp : ∀ {S : Nat → Prop} {z z' : World}, Kp S z z' → (∀ v, S v → v = d ∨ v = m) → (z.cell? ⟨pb, 2, none⟩ = some (.pointer (some ⟨bp, 0, none⟩)) ∧ z.cell? ⟨q7, 17, none⟩ = some (.int .u64 mk) ∧ z.cell? ⟨q7, 3, none⟩ = some (.int .i64 tn) ∧ z.cell? ⟨q7, 4, none⟩ = some (.int .i64 nn)) → (z'.cell? ⟨pb, 2, none⟩ = some (.pointer (some ⟨bp, 0, none⟩)) ∧ z'.cell? ⟨q7, 17, none⟩ = some (.int .u64 mk) ∧ z'.cell? ⟨q7, 3, none⟩ = some (.int .i64 tn) ∧ z'.cell? ⟨q7, 4, none⟩ = some (.int .i64 nn)) := fun k hS9 hs => by
    have n1 : ∀ v, v = q7 → ¬ (v = d ∨ v = m) := fun v hv e => by rcases e with e | e <;> omega
    have n2 : ¬ (pb = d ∨ pb = m) := fun e => e.elim hpb.1 hpb.2
    exact ⟨k.cellv hs.1 (fun e => n2 (hS9 _ e)), k.cellv hs.2.1 (fun e => n1 q7 rfl (hS9 _ e)), k.cellv hs.2.2.1 (fun e => n1 q7 rfl (hS9 _ e)), k.cellv hs.2.2.2 (fun e => n1 q7 rfl (hS9 _ e))⟩
  obtain ⟨q0, a, c, e, lt, dur, T, hl, ha, hlt⟩ := x.a.du
  refine (dirty_ok hl.pt).mono ?_
  rintro e9 wa ⟨v2, rfl, ka, is2⟩
  obtain ⟨p2, cc2, rfl, rz2, hp2⟩ := is2.rz
  refine ⟨_, rfl, hkp ka (fun _ e => e.elim) hS, ?_⟩
  have hdl := dks_len T (2 + 398)
  refine (kept11_ok p2 (dks T (2 + 398)).length cc2 (dks T (2 + 398)) mk wa rfl rz2 (by omega)).mono ?_
  rintro e9 wb ⟨v3, ks, rfl, kb, is3, hin, hkl⟩
  obtain ⟨p3, cc3, rfl, rz3, hp3⟩ := is3.rz
  have hlb := (hl.keep0 ka).keep0 kb
  refine ⟨_, rfl, hkp kb (fun _ e => e.elim) (hkp ka (fun _ e => e.elim) hS), ?_⟩
  have hba := (hl.keep0 ka).blk
  refine (lg_crash hlb p3 cc3 ks tn nn (fun w' k' => rz3.keep k' (fun a ha e => by have h1 := (hp3 a ha).1; have e' : a.block = d := e; omega)) (fun z hz => by
    obtain ⟨j, hj, _, rfl⟩ := mem_dks.1 (hin z hz)
    exact wf_nat j (by omega)) hwf (by omega)).mono ?_
  rintro e9 wc ⟨rfl, kc, lc, _⟩
  refine ⟨rfl, hkp kc (fun _ e => e) (hkp kb (fun _ e => e.elim) (hkp ka (fun _ e => e.elim) hS)), ((ka.trans kb (fun _ _ e => e)).mono (fun _ _ e => e.elim)).trans kc (fun _ _ e => e), a, c, e, lt, _, _, lc, ha, hlt, ?_⟩
  have := hl.hl
  rw [List.length_map] at this
  exact this
/-- and all opened anew -/
theorem R11.again {w1 w3 : World} {sh' mp' g' gf' ac' : Nat} (x : R11 w u pb mv q ac sh mp g bp d m gf b N h hi V) (k1 : Kp (fun v => v = d ∨ v = m) u w1) (hz : w1.heap.size ≤ sh' ∧ w1.heap.size ≤ mp' ∧ w1.heap.size ≤ g' ∧ w1.heap.size ≤ gf') (k3 : Kp (fun v => v = d ∨ v = m) w1 w3) (hpb : pb ≠ d ∧ pb ≠ m) (hmd : mv ≠ d ∧ mv ≠ m)
    (hs : ∃ Z, Shr w3 Z sh' mp' g' bp d m gf' 398 (b + 1) (N + 1) h ∧ ¬ Z pb ∧ ¬ Z mv) (hd : Dur w3 g' bp d m gf' 398 (b + 1) (N + 1) h) {w4 w5 : World} (k4 : Kp (fun _ => False) w3 w4) (hac : w3.heap.size ≤ ac') (l4 : Lv w4 ac' [.pointer (some ⟨sh', 0, none⟩)]) (hw5 : w5 = w4.setCell ⟨pb, 0, none⟩ (.pointer (some ⟨ac', 0, none⟩))) (hlt3 : sh' < w3.heap.size ∧ mp' < w3.heap.size ∧ g' < w3.heap.size ∧ gf' < w3.heap.size) (htn : (0 : Nat) < w.heap.size) :
    R11 w w5 pb mv q ac' sh' mp' g' bp d m gf' (b + 1) (N + 1) h hi V := by
  obtain ⟨ax, x3, hlp⟩ := x.a.lp
  have hpl := hlp.lt (by simp)
  have hml := x.mm.lt
  have hb := x.a.blk
  have hdl := hb.1 d (Or.inl rfl)
  have hmm := hb.1 m (Or.inr (Or.inl rfl))
  have s1 := k1.size
  have s3 := k3.size
  have s4 := k4.size
  have hwu := x.a.k.size
  have hzd := x.a.z d (Or.inl rfl)
  have hzm := x.a.z m (Or.inr (Or.inl rfl))
  have k13 : Kp (fun v => v = d ∨ v = m) u w3 := k1.trans k3 (fun _ _ e => e)
  have lp4 := (hlp.keep k13 (fun e => e.elim hpb.1 hpb.2)).keep k4 id
  have k5 : Kp (fun v => v = pb) w4 w5 := by rw [hw5]; exact (Kp.refl (fun v => v = pb) w4).setCell (fun _ => rfl) _
  have l5 : Lv w5 pb [.pointer (some ⟨ac', 0, none⟩), ax, .pointer (some ⟨bp, 0, none⟩), x3] := by rw [hw5]; exact lp4.set1 0 (.pointer (some ⟨ac', 0, none⟩)) (by show 0 < 4; omega)
  have hnp := x.a.np.2.2
  obtain ⟨Z, hsZ, hz1, hz2⟩ := hs
  have hpbn : ∀ v, (v = bp ∨ SW6 sh' mp' g' m gf' d v ∨ v = (0 : Nat)) → ¬ v = pb := fun v hv e => by
    rcases hv with e1 | hv | e1
    · exact hnp (e ▸ e1)
    · rcases hv with e1 | e1 | e1 | e1 | e1 | e1
      · exact hpb.1 (e ▸ e1)
      · exact hpb.2 (e ▸ e1)
      · omega
      · omega
      · omega
      · omega
    · have h9 := x.a.pz; omega
  have hsw : ∀ v, SW6 sh' mp' g' m gf' d v → v = d ∨ v = m ∨ (w1.heap.size ≤ v ∧ v < w3.heap.size) := fun v hv => by
    rcases hv with e1 | e1 | e1 | e1 | e1 | e1
    · exact Or.inl e1
    · exact Or.inr (Or.inl e1)
    · exact Or.inr (Or.inr ⟨by omega, by omega⟩)
    · exact Or.inr (Or.inr ⟨by omega, by omega⟩)
    · exact Or.inr (Or.inr ⟨by omega, by omega⟩)
    · exact Or.inr (Or.inr ⟨by omega, by omega⟩)
  refine ⟨⟨⟨Z, (hsZ.keep0 k4).keep k5 (fun v hv => ?_), hz1, hz2⟩, (hd.keep k4 (fun _ _ e => e)).keep k5 (fun v hv => ?_), x.a.hs, k5.cellv (l4.cell (j := 0) rfl) (fun e => by have e' : ac' = pb := e; omega), fun hv => ?_, ⟨ax, x3, l5⟩, ⟨fun hv => ?_, by omega, hnp⟩, ((x.a.k.trans k13 (fun v hv e => by rcases e with e | e <;> omega)).trans k4 (fun _ _ e => e)).trans k5 (fun v hv e => by have e' : v = pb := e; have := x.a.pz; omega), fun v hv => ?_, x.a.pz⟩, ((x.mm.keep k13 (fun e => e.elim hmd.1 hmd.2)).keep k4 id).keep k5 (fun e => x.nm.2.1 e), ⟨fun hv => ?_, x.nm.2.1, by omega, x.nm.2.2.2.1, x.nm.2.2.2.2⟩, x.wm⟩
  · rcases hv with e | e | e | e
    · exact hpbn v (Or.inl e)
    · exact hpbn v (Or.inr (Or.inl e))
    · exact fun e2 => hz1 (e2 ▸ e)
    · exact hpbn v (Or.inr (Or.inr e))
  · rcases hv with e | e | e | e | e
    · exact hpbn v (Or.inl e)
    · exact hpbn v (Or.inr (Or.inl (Or.inl e)))
    · exact hpbn v (Or.inr (Or.inl (Or.inr (Or.inl e))))
    · exact hpbn v (Or.inr (Or.inl (Or.inr (Or.inr (Or.inl e)))))
    · exact hpbn v (Or.inr (Or.inl (Or.inr (Or.inr (Or.inr (Or.inl e))))))
  · rcases hsw _ hv with e | e | e <;> omega
  · rcases hsw _ hv with e | e | e
    · exact hpb.1 e
    · exact hpb.2 e
    · omega
  · rcases hsw _ hv with e | e | e <;> omega
  · rcases hsw _ hv with e | e | e
    · exact hmd.1 e
    · exact hmd.2 e
    · omega
end

end Go.Proofs.YtippipeebkkghaaGreatDoor
