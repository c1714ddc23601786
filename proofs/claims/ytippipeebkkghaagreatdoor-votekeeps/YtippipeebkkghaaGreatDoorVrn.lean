/- VoteKeeps, ahead of its walk. -/
import Derived.Test.YtippipeebkkghaaGreatDoorVrl
import Derived.Test.YtippipeebkkghaaGreatDoorVrm
import Derived.Test.YtippipeebkkghaaGreatDoorVok
import Derived.Test.YtippipeebkkghaaGreatDoorVox
import Derived.Test.YtippipeebkkghaaGreatDoorMz
namespace Go.Proofs.YtippipeebkkghaaGreatDoor
set_option linter.unusedVariables false
set_option linter.unusedSimpArgs false
open Go.RowKit Go.Deep Go.Maps

theorem uII11 : Tryz.prog.underlying 25 = some (.map 3 3) := Tryz.underlying25
theorem zII11 (w : World) : (zeroValue 3).run Tryz.prog w = .ok (.int .i64 0) w := by kernel_rfl
theorem md4 (z : Int) : ∃ f : Nat, wrap64 ((IntKind.u64.wrap z).tmod 4) = (f : Int) ∧ f ≤ 3 := by
  have h1 : IntKind.u64.wrap z = z % 18446744073709551616 := by simp [IntKind.wrap, IntKind.bits, IntKind.signed]
  have h0 : 0 ≤ IntKind.u64.wrap z := by rw [h1]; omega
  have h2 : (IntKind.u64.wrap z).tmod 4 = IntKind.u64.wrap z % 4 := Int.tmod_eq_emod_of_nonneg h0
  refine ⟨((IntKind.u64.wrap z).tmod 4).toNat, ?_, ?_⟩
  · rw [h2]; unfold wrap64; omega
  · rw [h2]; omega
theorem md5 (z : Int) : ∃ f : Nat, wrap64 ((IntKind.u64.wrap z).tmod 5) = (f : Int) ∧ f ≤ 4 := by
  have h1 : IntKind.u64.wrap z = z % 18446744073709551616 := by simp [IntKind.wrap, IntKind.bits, IntKind.signed]
  have h0 : 0 ≤ IntKind.u64.wrap z := by rw [h1]; omega
  have h2 : (IntKind.u64.wrap z).tmod 5 = IntKind.u64.wrap z % 5 := Int.tmod_eq_emod_of_nonneg h0
  refine ⟨((IntKind.u64.wrap z).tmod 5).toNat, ?_, ?_⟩
  · rw [h2]; unfold wrap64; omega
  · rw [h2]; omega
theorem md20 (z : Int) : ∃ f : Nat, wrap64 ((IntKind.u64.wrap z).tmod 20) = (f : Int) ∧ f ≤ 19 := by
  have h1 : IntKind.u64.wrap z = z % 18446744073709551616 := by simp [IntKind.wrap, IntKind.bits, IntKind.signed]
  have h0 : 0 ≤ IntKind.u64.wrap z := by rw [h1]; omega
  have h2 : (IntKind.u64.wrap z).tmod 20 = IntKind.u64.wrap z % 20 := Int.tmod_eq_emod_of_nonneg h0
  refine ⟨((IntKind.u64.wrap z).tmod 20).toNat, ?_, ?_⟩
  · rw [h2]; unfold wrap64; omega
  · rw [h2]; omega
/-- the law's map -/
def TV (V : Nat → Nat) : Int → Option Value := fun z => if 1 ≤ z ∧ z ≤ 5 ∧ V z.toNat ≠ 0 then some (.int .i64 (V z.toNat : Int)) else none
theorem TV_put {V : Nat → Nat} {s b : Nat} (hs : 1 ≤ s ∧ s ≤ 5) (hb : b ≠ 0) : upd (TV V) (s : Int) (.int .i64 (b : Int)) = TV (fun t => if t = s then b else V t) := by
  funext z
  unfold upd TV
  by_cases e : z = (s : Int)
  · subst e
    have e9 : ((s : Int)).toNat = s := by omega
    rw [if_pos rfl, e9]
    have e8 : (fun t => if t = s then b else V t) s = b := if_pos rfl
    rw [e8, if_pos ⟨by omega, by omega, hb⟩]
  · rw [if_neg e]
    by_cases hz : 1 ≤ z ∧ z ≤ 5
    · have e8 : (fun t => if t = s then b else V t) z.toNat = V z.toNat := if_neg (by omega)
      rw [e8]
    · rw [if_neg (fun h => hz ⟨h.1, h.2.1⟩), if_neg (fun h => hz ⟨h.1, h.2.1⟩)]
theorem TV_some {V : Nat → Nat} {s : Nat} (hs : 1 ≤ s ∧ s ≤ 5) : (TV V (s : Int)).isSome = decide (V s ≠ 0) := by
  unfold TV
  have e9 : ((s : Int)).toNat = s := by omega
  rw [e9]
  by_cases h : V s = 0
  · rw [if_neg (fun e => e.2.2 h)]; simp [h]
  · rw [if_pos ⟨by omega, by omega, h⟩]; simp [h]
theorem TV_cnt {V : Nat → Nat} {s b : Nat} (hs : 1 ≤ s ∧ s ≤ 5) (hb : b ≠ 0) : cntV V + (if (TV V (s : Int)).isSome then 0 else 1) = cntV (fun t => if t = s then b else V t) := by
  rw [cntV_put hs hb, TV_some hs]
  by_cases h : V s = 0 <;> simp [h]
theorem TV_at {V : Nat → Nat} {z : Int} (hz : 1 ≤ z ∧ z ≤ 5 ∧ V z.toNat ≠ 0) : (TV V z).getD (.int .i64 0) = .int .i64 (V z.toNat : Int) := by
  unfold TV
  rw [if_pos hz]
  rfl
theorem TV_nil : TV (fun _ => 0) = fun _ => none := by
  funext z
  unfold TV
  rw [if_neg (fun e => e.2.2 rfl)]
theorem cntV_le (V : Nat → Nat) : cntV V ≤ 5 := by
  unfold cntV
  have := List.length_filter_le (fun i => decide (V (i + 1) ≠ 0)) (List.range 5)
  rw [List.length_range] at this
  exact this

section
variable {w u u' : World} {pb mv ac sh mp g bp d m gf b N : Nat} {h : List Rc} {hi : Nat} {V : Nat → Nat}
theorem A11.blk (x : A11 w u pb mv ac sh mp g bp d m gf b N h hi V) : (∀ v, SW6 sh mp g m gf d v → v < u.heap.size) ∧ bp < u.heap.size ∧ (0 : Nat) < u.heap.size := by
  obtain ⟨Z, hs, _⟩ := x.s
  obtain ⟨q, a, c, e, lt, y, dur, T, hl, _⟩ := hs.lg
  exact ⟨hs.blk, hl.blk.2.1, World.block_lt_of_cell? _ _ (hs.tu 0 (by decide))⟩
theorem A11.keepT {S : Nat → Prop} (x : A11 w u pb mv ac sh mp g bp d m gf b N h hi V) (k : Kp S u u') (hS : ∀ v, (v = bp ∨ SW6 sh mp g m gf d v ∨ v = (0 : Nat) ∨ v = ac ∨ v = pb) → ¬ S v) (hZ : ∀ v, S v → u.heap.size ≤ v ∨ v = pb ∨ v = mv) (hw : ∀ v, S v → w.heap.size ≤ v) : A11 w u' pb mv ac sh mp g bp d m gf b N h hi V := by
  obtain ⟨Z, hs, hz1, hz2⟩ := x.s
  obtain ⟨ax, x3, hl⟩ := x.lp
  refine ⟨⟨Z, hs.keep k (fun v hv => ?_), hz1, hz2⟩, x.du.keep k (fun v hv => ?_), x.hs, k.cellv x.c (hS ac (Or.inr (Or.inr (Or.inr (Or.inl rfl))))), x.na, ⟨ax, x3, hl.keep k (hS pb (Or.inr (Or.inr (Or.inr (Or.inr rfl)))))⟩, x.np, x.k.trans k (fun v hv e => by have := hw v e; omega), x.z, x.pz⟩
  · rcases hv with e | e | e | e
    · exact hS v (Or.inl e)
    · exact hS v (Or.inr (Or.inl e))
    · intro hSv
      rcases hZ v hSv with e2 | e2
      · have := hs.zb v e; omega
      · rcases e2 with e2 | e2
        · exact hz1 (e2 ▸ e)
        · exact hz2 (e2 ▸ e)
    · exact hS v (Or.inr (Or.inr (Or.inl e)))
  · rcases hv with e | e | e | e | e
    · exact hS v (Or.inl e)
    · exact hS v (Or.inr (Or.inl (Or.inl e)))
    · exact hS v (Or.inr (Or.inl (Or.inr (Or.inl e))))
    · exact hS v (Or.inr (Or.inl (Or.inr (Or.inr (Or.inl e)))))
    · exact hS v (Or.inr (Or.inl (Or.inr (Or.inr (Or.inr (Or.inl e))))))
theorem A11.keep0 (x : A11 w u pb mv ac sh mp g bp d m gf b N h hi V) (k : Kp (fun _ => False) u u') : A11 w u' pb mv ac sh mp g bp d m gf b N h hi V :=
  x.keepT k (fun _ _ e => e) (fun _ e => e.elim) (fun _ e => e.elim)
/-- a call that has synced -/
theorem A11.step {kk hi' : Nat} {V' : Nat → Nat} (x : A11 w u pb mv ac sh mp g bp d m gf b N h hi V) {Z : Nat → Prop} (hZ : ¬ Z pb ∧ ¬ Z mv) (hmv : mv < u.heap.size) (k : Kp (SW6 sh mp g m gf d) u u') (hR : ResD u' Z u.heap.size sh mp g bp d m gf b N kk hi' V') : ∃ gf' N' h', (gf' = gf ∨ u.heap.size ≤ gf') ∧ N' ≤ N + kk ∧ A11 w u' pb mv ac sh mp g bp d m gf' b N' h' hi' V' := by
  obtain ⟨Z', gf', N', h', e, hn, hs, hh, hd, hzz⟩ := hR
  obtain ⟨ax, x3, hl⟩ := x.lp
  have hac := World.block_lt_of_cell? _ _ x.c
  have hac : ac < u.heap.size := hac
  have hpb := hl.lt (by simp)
  refine ⟨gf', N', h', e, hn, ⟨Z', hs, fun hv => (hzz pb hv).elim hZ.1 (fun e => by omega), fun hv => (hzz mv hv).elim hZ.2 (fun e => by omega)⟩, hd, hh, k.cellv x.c x.na, fun hv => x.na (sw6_back e hac hv), ⟨ax, x3, hl.keep k x.np.1⟩, ⟨fun hv => x.np.1 (sw6_back e hpb hv), x.np.2⟩, x.k.trans k (fun v hv e => by have := x.z v e; omega), fun v hv => ?_, x.pz⟩
  by_cases hlt : v < u.heap.size
  · exact x.z v (sw6_back e hlt hv)
  · have := x.k.size
    omega
/-- what a crash leaves -/
def Cr11 (w' : World) (bp d m b N : Nat) (h : List Rc) : Prop := ∃ a c e lt dur rdW, Lc w' bp d m 398 0 a b c e h.length (h.map wrS) dur (fun _ => none) rdW ∧ a ≤ N + 1 ∧ lt ≤ 2000 * N ∧ lt + 1 = e + h.length
/-- all is opened anew -/
theorem A11.reopen {w1 : World} (x : A11 w u pb mv ac sh mp g bp d m gf b N h hi V) (k : Kp (fun v => v = d ∨ v = m) u w1) (hc : Cr11 w1 bp d m b N h) (hb : b ≤ 1000) (hN : N + 1 ≤ 1000) (hmv : mv < u.heap.size) :
    Calls Tryz.prog 10 #[.pointer (some ⟨bp, 0, none⟩)] w1 fun e9 w' => ∃ sh' mp' g' gf', e9 = .returned (.tuple #[.pointer (some ⟨sh', 0, none⟩), .int .i64 0]) ∧ Kp (fun v => v = d ∨ v = m) w1 w' ∧ (w1.heap.size ≤ sh' ∧ w1.heap.size ≤ mp' ∧ w1.heap.size ≤ g' ∧ w1.heap.size ≤ gf') ∧ (∃ Z, Shr w' Z sh' mp' g' bp d m gf' 398 (b + 1) (N + 1) h ∧ ¬ Z pb ∧ ¬ Z mv) ∧ Dur w' g' bp d m gf' 398 (b + 1) (N + 1) h := by
  obtain ⟨Z, hs, _⟩ := x.s
  obtain ⟨a, c, e, lt, dur, rdW, hl, ha, hlt, hle⟩ := hc
  have hcn : ∀ r ∈ h, Cn r := fun r hr => (x.hs.gr r hr).cn
  have hhl := hs.hl
  have htu : Turns w1 := hs.tu.keep k (fun ee => by
    obtain ⟨q, a, c, e, lt, y, dur, T, hlg, _⟩ := hs.lg
    rcases ee with ee | ee
    · exact hlg.lp.td ee
    · exact hlg.lp.tm ee)
  obtain ⟨kk, h1, h2, hop⟩ := sopen_any hl hcn (by omega) (by omega) (by omega) htu
  have hkk : kk = h.length := by omega
  subst hkk
  rw [List.take_length] at hop
  refine hop.mono ?_
  rintro e9 w' ⟨sh', mp', g', gf', dur2, N2, rfl, k2, hz, hN2, s2⟩
  have hd := x.blk
  have hdd : d < u.heap.size := hd.1 d (Or.inl rfl)
  have hks := k.size
  obtain ⟨q9, lt9, T9, l9⟩ := s2.lg
  have hnn := s2.sk
  have hNs : ¬ (N2 ≤ sh') := s2.ap.2.1
  have hdN : d < N2 := by omega
  obtain ⟨ax, x3, hlp⟩ := x.lp
  have hpbl := hlp.lt (by simp)
  have h9 := s2.shr9 (N := N + 1) rfl (fun r hr => ⟨(x.hs.gr r hr).cn, by have := (x.hs.gr r hr).sec; omega, Or.inr (x.hs.gr r hr).g.2.1⟩) ⟨by omega, by omega⟩ hdN hN2 (by omega) (by omega) hs.rm (by omega)
  exact ⟨sh', mp', g', gf', rfl, k2, hz, ⟨_, h9.1, fun e => by have := e.1; omega, fun e => by have := e.1; omega⟩, h9.2⟩
end
end Go.Proofs.YtippipeebkkghaaGreatDoor
