/- Free sectors are cleaned: slices.Clone of places; clean. -/
import Derived.Test.YtippipeebkkghaaGreatDoorBb
import Derived.Test.YtippipeebkkghaaGreatDoorPl5
namespace Go.Proofs.YtippipeebkkghaaGreatDoor
set_option linter.unusedVariables false
set_option linter.unusedSimpArgs false
open Go.RowKit Go.Deep

set_option maxRecDepth 100000 in
theorem places_not_nil (p : Addr) (n c : Nat) (w : World) : (binOp .eql 135 (.slice (some p) n c) (.slice none 0 0)).run Tryz.prog w = .ok (.bool false) w := by rfl
theorem infoI8 : (Tryz.prog.info? 3).map (fun i => (i.zero, i.size, i.bytes)) = some (some (.int .i64 0), 1, 8) := by kernel_rfl
set_option maxRecDepth 100000 in
set_option maxHeartbeats 800000 in
theorem clonePl_ok (g k c : Nat) (l : List Nat) (w : World) (h : w.ownsRow 0 3 1 (.slice (some ⟨g, 0, none⟩) k c) k (nls l)) (hk : Hid (k ≤ 8192)) :
    Calls Tryz.prog 186 #[.slice (some ⟨g, 0, none⟩) k c] w fun e w' => ∃ g' c', w.heap.size ≤ g' ∧ e = .returned (.slice (some ⟨g', 0, none⟩) k c') ∧ Kp (fun _ => False) w w' ∧ w'.ownsRow 0 3 1 (.slice (some ⟨g', 0, none⟩) k c') k (nls l) := by
  have hnn := places_not_nil ⟨g, 0, none⟩ k c
  have hl : (nls l).length = k := by have := h.1; omega
  have HS : Hid (Src Tryz.prog 1 135 (.slice (some ⟨g, 0, none⟩) k c) k (nls l) (w.alloc (.cells #[] 3))) := by
    refine Src.ofSlice _ Tryz.underlying135 ⟨g, 0, none⟩ k c (nls l) (by omega) (fun j u hj => ?_) (fun z hz => ?_)
    · have := h.cells (g := g) rfl j u hj
      exact ((Kp.refl (fun _ => False) w).alloc (.cells #[] 3)).cellv this id
    · unfold nls at hz
      obtain ⟨x, _, rfl⟩ := List.mem_map.1 hz
      rfl
  clear h hl
  go_enter Tryz.func186, Tryz.ntmps186
  obtain ⟨ti, hi0, hz0, hz1, hz2⟩ := info_parts infoI8
  go_wp2_with (at_builtin; go_must (refine wpList_append_own_src _ rfl _ _ 135 135 rfl w.heap.size 3 ti (.int .i64 0) 1 8 Tryz.underlying135 hi0 hz0 hz1 hz2 rfl (by decide) _ 0 [] rfl (by exact World.ownsRow_made w #[] 0 (Nat.le_refl _) (by unfold maxLen; omega) rfl) _ k (nls l) rfl HS.out (by have := hk.out; unfold maxLen; omega) (by have := hk.out; omega) (by simp) ?_); intro v' w3 hown' hk3 hblk3)
  have hg : ∃ g' c', w.heap.size ≤ g' ∧ v' = .slice (some ⟨g', 0, none⟩) k c' := by
    rw [Nat.zero_add] at hown'
    rcases Joins.ownsRow_forms hown' with ⟨e1, e2⟩ | ⟨g', c', e⟩
    · rw [e1] at hblk3
      rcases hblk3 with h9 | h9 <;> cases h9
    · exact ⟨g', c', (ownBlock_lt hown' (by rw [e]; rfl)).1, e⟩
  obtain ⟨g', c', hg1, rfl⟩ := hg
  go_ret
  have k3 := grownBy_kp hk3
  refine ⟨_, _, hg1, rfl, Kp.trans ((Kp.refl _ _).alloc _) k3 (fun b hb e => ?_), by simpa using ownsRow_base hown' (Nat.zero_le _)⟩
  have e' : some w.heap.size = some b := e
  have := Option.some.inj e'
  omega

/-- the table where the sectors of j places from e on were made noughts -/
def Cln (dur : List Nat) (T : Nat → Option (List Nat)) (s e j n : Nat) (now : Nat → List Nat) : Prop := ∀ i, i < n → (now i = nouW 64 ∨ now i = nowOf dur T i) ∧ ((∃ t, t < j ∧ i = 2 + (e + t) % s) → now i = nouW 64) ∧ ((∀ t, t < j → ¬ i = 2 + (e + t) % s) → now i = nowOf dur T i)
theorem Cln.zero (dur : List Nat) (T : Nat → Option (List Nat)) (s e n : Nat) : Cln dur T s e 0 n (nowOf dur T) := fun i _ => ⟨.inr rfl, fun ⟨t, h, _⟩ => absurd h (Nat.not_lt_zero _), fun _ => rfl⟩
theorem Cln.same {dur : List Nat} {T : Nat → Option (List Nat)} {s e j n : Nat} {now : Nat → List Nat} (h : Cln dur T s e j n now) (hb : now (2 + (e + j) % s) = nouW 64) : Cln dur T s e (j + 1) n now := fun i hi => by
  obtain ⟨h1, h2, h3⟩ := h i hi
  refine ⟨h1, fun ⟨t, ht, ei⟩ => ?_, fun hn => h3 fun t ht => hn t (by omega)⟩
  by_cases htj : t < j
  · exact h2 ⟨t, htj, ei⟩
  · have : t = j := by omega
    subst this
    rw [ei]
    exact hb
theorem Cln.put {dur dur2 : List Nat} {T T2 : Nat → Option (List Nat)} {s e j n : Nat} (h : Cln dur T s e j n (nowOf dur2 T2)) : Cln dur T s e (j + 1) n (nowOf dur2 (fun i => if i = 2 + (e + j) % s then some (nouW 64) else T2 i)) := fun i hi => by
  obtain ⟨h1, h2, h3⟩ := h i hi
  by_cases hij : i = 2 + (e + j) % s
  · have h9 : nowOf dur2 (fun i => if i = 2 + (e + j) % s then some (nouW 64) else T2 i) i = nouW 64 := by unfold nowOf; dsimp only; rw [if_pos hij]; rfl
    exact ⟨.inl h9, fun _ => h9, fun hn => absurd hij (hn j (by omega))⟩
  · have h9 : nowOf dur2 (fun i => if i = 2 + (e + j) % s then some (nouW 64) else T2 i) i = nowOf dur2 T2 i := by unfold nowOf; dsimp only; rw [if_neg hij]
    rw [h9]
    refine ⟨h1, fun ⟨t, ht, ei⟩ => h2 ⟨t, ?_, ei⟩, fun hn => h3 fun t ht => hn t (by omega)⟩
    by_cases htj : t < j
    · exact htj
    · have : t = j := by omega
      subst this
      exact absurd ei hij

set_option maxRecDepth 100000 in
set_option maxHeartbeats 3200000 in
theorem clean_ok {w : World} {bp d m n q s e k gf c : Nat} {dur : List Nat} {T : Nat → Option (List Nat)} {l : List Nat} (h : Pt w bp d m n q dur T) (hs : n = 2 + s ∧ 1 ≤ s) (hq : (q : Int) ≤ 9000000000000000000) (hk : k ≤ 8192) (he : (e : Int) ≤ 900000000000000000) (hf : w.ownsRow 0 3 1 (.slice (some ⟨gf, 0, none⟩) k c) k (nls l)) (hl : Free l e k) :
    Calls Tryz.prog 147 #[ringV bp s, .slice (some ⟨gf, 0, none⟩) k c] w fun e9 w' => e9 = .returned .nilIface ∧ Kp (fun x => x = d ∨ x = m) w w' ∧ ∃ dur', Pt w' bp d m n 0 dur' (fun _ => none) ∧ Cln dur T s e k n (nowOf dur' (fun _ => none)) := by
  have HP : Hid (Pt w bp d m n q dur T) := h
  have HN : Hid (n = 2 + s ∧ 1 ≤ s ∧ n ≤ 8192 ∧ (q : Int) ≤ 9000000000000000000 ∧ k ≤ 8192 ∧ (e : Int) ≤ 900000000000000000) := ⟨hs.1, hs.2, h.n2, hq, hk, he⟩
  have HFr : Hid (Free l e k) := hl
  have HM : Hid (m < w.heap.size ∧ d < w.heap.size ∧ bp < w.heap.size) := ⟨h.mp.lt, h.row.lt, h.lt⟩
  obtain ⟨r, hr⟩ : ∃ r, r = w.heap.size := ⟨_, rfl⟩
  obtain ⟨w0, hw0⟩ : ∃ y, y = w.alloc (.cells #[.pointer (some ⟨bp, 0, none⟩), .int .i64 (s : Int)] 132) := ⟨_, rfl⟩
  have HK0 : Hid (Kp (fun _ => False) w w0) := by rw [hw0]; exact (Kp.refl _ _).alloc _
  have HL0 : Hid (Lv w0 r [.pointer (some ⟨bp, 0, none⟩), .int .i64 (s : Int)]) := by rw [hw0, hr]; exact Lv.new w _ _
  have HR0 : Hid (w.heap.size ≤ r ∧ r < w0.heap.size) := ⟨by omega, HL0.out.lt (by simp)⟩
  have hnn := nil_neq
  have HCl : Hid (∀ u, Kp (fun _ => False) w u → Calls _ _ _ u _) := fun u k0 => clonePl_ok gf k c l u (ownsRow_keep hf k0 (fun _ _ e => e)) hk
  clear h hs hq hk he hf hl
  go_enter Tryz.func147, Tryz.ntmps147
  go_wp2_with fail
  rw [← hw0]
  refine (HCl.out w0 HK0.out).mono ?_
  rintro e9 w1 ⟨g1, c1, hg1, rfl, k1, o1⟩
  obtain ⟨h1, hh1⟩ : ∃ h1, h1 = w1.heap.size := ⟨_, rfl⟩
  obtain ⟨w2, hw2⟩ : ∃ y, y = w1.alloc (.cells #[.slice (some ⟨g1, 0, none⟩) k c1] 135) := ⟨_, rfl⟩
  have k2 : Kp (fun _ => False) w1 w2 := by rw [hw2]; exact (Kp.refl _ _).alloc _
  have HK2 : Hid (Kp (fun _ => False) w0 w2) := k1.trans k2 (fun _ _ e => e)
  have HI2 : Hid (Ip w2 h1 0 g1 c1 [] [] l) := by
    have hll := HFr.out.len
    refine ⟨?_, rfl, ?_, ?_⟩
    · rw [hw2, hh1, hll]; exact Lv.new _ _ _
    · rw [hll]; exact ownsRow_keep o1 k2 (fun _ _ e => e)
    · have := (ownBlock_lt o1 (g := g1) rfl).2; omega
  have HB2 : Hid (w0.heap.size ≤ g1 ∧ w0.heap.size ≤ h1) := ⟨hg1, by have := k1.size; omega⟩
  go_upto_region 2 with fail
  rw [← hw2, ← hh1, ← hr]
  clear hw0 hr hw2 hh1 k1 k2 o1 hg1 HCl
  go_loopg [5] k (fun gk pv wr => ∃ (i hh gg cc : Nat) (lz : List Nat) (q1 : Nat) (T1 : Nat → Option (List Nat)), i ≤ k ∧ gk = k - i ∧ pv = .pointer (some ⟨hh, 0, none⟩) ∧ Hid (Kp (fun x => x = m) w0 wr) ∧ Hid (Ip wr hh 0 gg cc [] [] lz ∧ Free lz (e + i) (k - i) ∧ w0.heap.size ≤ gg ∧ w0.heap.size ≤ hh) ∧ Hid (Pt wr bp d m n q1 dur T1 ∧ q1 ≤ q + i ∧ Cln dur T s e i n (nowOf dur T1)))
  case atStart => exact ⟨0, h1, g1, c1, l, q, T, Nat.zero_le _, rfl, rfl, HK2.out.mono (fun _ _ e => e.elim), ⟨HI2.out, HFr.out, HB2.out.1, HB2.out.2⟩, ⟨HP.out.keep0 (HK0.out.trans HK2.out (fun _ _ e => e)), Nat.le_refl _, Cln.zero _ _ _ _ _⟩⟩
  case round =>
    obtain ⟨i, hh, gg, cc, lz, q1, T1, hi, rfl, rfl, HK, HI, HQ⟩ := hrel
    have HNe : Hid (¬ r = m ∧ ¬ r = hh ∧ ¬ r = gg ∧ ¬ bp = hh ∧ ¬ bp = gg ∧ ¬ d = hh ∧ ¬ d = gg ∧ ¬ m = hh ∧ ¬ m = gg) := by
      have h1 := HR0.out
      have h2 := HM.out
      have h3 := HI.out.2.2
      refine ⟨?_, ?_, ?_, ?_, ?_, ?_, ?_, ?_, ?_⟩ <;> omega
    have q0 := (HL0.out.keep HK.out HNe.out.1).cell (j := 0) rfl
    have q9 := (HL0.out.keep HK.out HNe.out.1).cell (j := 1) rfl
    have p0 := HI.out.1.c0
    rw [HI.out.2.1.len] at p0
    by_cases hlt : i < k
    · obtain ⟨kk, hkk⟩ : ∃ kk, k - i = kk + 1 := ⟨k - i - 1, by omega⟩
      obtain ⟨E, hE⟩ : ∃ E, E = e + i := ⟨_, rfl⟩
      have HE : Hid (E = e + i ∧ k - i = kk + 1 ∧ i < k) := ⟨hE, hkk, hlt⟩
      have hfr := HI.out.2.1
      rw [hkk, ← hE] at hfr
      obtain ⟨p1, p2, p3⟩ := hfr.pop
      have HF3 : Hid (Free (popIL lz) (E + 1) kk) := p3
      have hlz := hfr.len
      rw [hkk] at p0
      have HLen : Hid (∀ u, Calls Tryz.prog 187 #[.slice (some ⟨gg, 0, none⟩) (kk + 1) cc] u fun e w' => e = .returned (.int .i64 ((kk + 1 : Nat) : Int)) ∧ w' = u) := fun u => ilen (some ⟨gg, 0, none⟩) (kk + 1) cc u
      have hpos : ((kk + 1 : Nat) : Int) > 0 := by omega
      have hta := fun w => tasI (.int .i64 (E : Int)) w
      obtain ⟨sc, hsc⟩ : ∃ sc, sc = 2 + E % s := ⟨_, rfl⟩
      have HSc : Hid (sc = 2 + (e + i) % s ∧ sc < n) := ⟨by rw [hsc, hE], by have := HN.out; have := Nat.mod_lt E (show 0 < s by omega); omega⟩
      have H1 : Hid (∀ u, Kp (fun _ => False) wr u → Calls Tryz.prog 170 #[.iface 275 (.pointer (some ⟨hh, 0, none⟩))] u fun e w' => e = .returned (.iface 3 (.int .i64 (E : Int))) ∧ Kp (fun b => b = hh ∨ b = gg) u w' ∧ Ip w' hh 0 gg cc [] [] (popIL lz)) := fun u ku => by
        have := heapPopI (HI.out.1.keep0 ku) (by have := HN.out; omega)
        rw [p2] at this
        exact this
      have H2 : Hid (∀ u, Calls Tryz.prog 168 #[ringV bp s, .int .i64 (E : Int)] u fun e9 w' => e9 = .returned (.int .i64 (sc : Int)) ∧ Kp (fun _ => False) u w') := fun u => by
        rw [hsc]
        exact rsector_ok bp s E u (by have := HN.out; omega) (by have := HN.out; omega) (by have := HN.out; omega)
      have HSS : Hid (∀ z, Kp (fun b => b = hh ∨ b = gg) wr z → Kp (fun b => b = hh ∨ b = gg) wr z ∧ z.cell? ⟨r, 0, none⟩ = some (.pointer (some ⟨bp, 0, none⟩)) ∧ z.cell? ⟨r, 1, none⟩ = some (.int .i64 (s : Int))) := fun z kz => ⟨kz, kz.cellv q0 (fun e => e.elim HNe.out.2.1 HNe.out.2.2.1), kz.cellv q9 (fun e => e.elim HNe.out.2.1 HNe.out.2.2.1)⟩
      have HTr : Hid (∀ u u' : World, Kp (fun b => b = hh ∨ b = gg) wr u → Kp (fun _ => False) u u' → Kp (fun b => b = hh ∨ b = gg) wr u') := fun u u' h1 h2 => h1.trans h2 (fun _ _ e => e.elim)
      have HTs : Hid (∀ u u' : World, Kp (fun _ => False) wr u → Kp (fun b => b = hh ∨ b = gg) u u' → Kp (fun b => b = hh ∨ b = gg) wr u') := fun u u' h1 h2 => (h1.mono (fun _ _ e => e.elim)).trans h2 (fun _ _ e => e)
      clear hE hsc hfr p1 p2 p3 hlz hkk hlt
      go_wp2_with fail
      refine (HLen.out _).mono ?_
      rintro e9 w9 ⟨rfl, hw9⟩
      have hw8 := hw9.symm
      subst hw8
      clear hw9 HLen
      go_upto_region 3 with fail
      have kd : Kp (fun _ => False) wr wr.drew := (Kp.refl _ _).drew
      have kD : Kp (fun b => b = hh ∨ b = gg) wr wr.drew := (Kp.refl _ _).drew
      go_region_held3 (fun z => Kp (fun b => b = hh ∨ b = gg) wr z ∧ z.cell? ⟨r, 0, none⟩ = some (.pointer (some ⟨bp, 0, none⟩)) ∧ z.cell? ⟨r, 1, none⟩ = some (.int .i64 (s : Int)))
        (first
          | exact HSS.out _ kD
          | exact HSS.out _ km1
          | exact HSS.out _ km2)
        (first
          | (go_at_call 170; refine (H1.out _ kd).mono ?_; rintro e9 wA ⟨rfl, kA, ipA⟩; have km1 := HTs.out _ _ kd kA)
          | (go_at_call 168; refine (H2.out _).mono ?_; rintro e9 wX ⟨rfl, kX⟩; have km2 := HTr.out _ _ km1 kX))
      all_goals
        have HKX : Hid (Kp (fun b => b = hh ∨ b = gg) wr wX) := km2
        have HIX : Hid (Ip wX hh 0 gg cc [] [] (popIL lz)) := ipA.keep0 kX
        have HPX : Hid (Pt wX bp d m n q1 dur T1) := HQ.out.1.keep km2 (fun e => e.elim HNe.out.2.2.2.1 HNe.out.2.2.2.2.1) (fun e => e.elim HNe.out.2.2.2.2.2.1 HNe.out.2.2.2.2.2.2.1) (fun e => e.elim HNe.out.2.2.2.2.2.2.2.1 HNe.out.2.2.2.2.2.2.2.2)
        have z0 := (HSS.out _ km2).2.1
        have z1 := (HSS.out _ km2).2.2
        clear kd kD km1 km2 kA kX ipA
        go_simp
        go_wp2_with fail
        refine (rread_ok HPX.out s sc (by have := HSc.out; omega)).mono ?_
        rintro e9 w3 ⟨gq, cq, hgq, hcq, rfl, k3, rb3⟩
        obtain ⟨X, hX⟩ : ∃ X, X = nowOf dur T1 sc := ⟨_, rfl⟩
        rw [← hX] at rb3
        have HX : Hid (X = nowOf dur T1 (2 + (e + i) % s)) := by show _ = _; rw [hX, HSc.out.1]
        have HIs : Hid (Calls _ _ _ w3 _) := isBlank_ok gq 0 cq X w3 rb3
        obtain ⟨B, hB⟩ : ∃ B, B = decide (X = nouW 64) := ⟨_, rfl⟩
        rw [← hB] at HIs
        have HB : Hid (B = decide (X = nouW 64)) := hB
        have HK3 : Hid (Kp (fun _ => False) wX w3) := k3
        clear hX hB hgq hcq k3 rb3 z0 z1
        go_wp2_with fail
        refine HIs.out.mono ?_
        rintro e9 w4 ⟨rfl, k4⟩
        have HX4 : Hid (Kp (fun _ => False) wX w4) := HK3.out.trans k4 (fun _ _ e => e)
        have HK4 : Hid (Kp (fun x => x = m) w0 w4) := HK.out.trans (HKX.out.trans HX4.out (fun _ _ e => e.elim)) (fun b hb e9 => absurd hb (by have := HI.out.2.2; have e' : b = hh ∨ b = gg := e9; omega))
        have HI4 : Hid (Ip w4 hh 0 gg cc [] [] (popIL lz)) := HIX.out.keep0 HX4.out
        have HP4 : Hid (Pt w4 bp d m n q1 dur T1) := HPX.out.keep0 HX4.out
        clear k4 HIs
        cases B with
        | true =>
          have HC : Hid (Cln dur T s e (i + 1) n (nowOf dur T1)) := HQ.out.2.2.same (by rw [← HX.out]; exact of_decide_eq_true HB.out.symm)
          have c0 := HI4.out.c0
          rw [HF3.out.len] at c0
          obtain ⟨wN, hwN⟩ : ∃ y, y = w4.alloc (.cells #[.slice (some ⟨gg, 0, none⟩) kk cc] 135) := ⟨_, rfl⟩
          obtain ⟨hN, hhN⟩ : ∃ y, y = w4.heap.size := ⟨_, rfl⟩
          have kN : Kp (fun _ => False) w4 wN := by rw [hwN]; exact (Kp.refl _ _).alloc _
          have HF : Hid (Kp (fun x => x = m) w0 wN ∧ Ip wN hN 0 gg cc [] [] (popIL lz) ∧ w0.heap.size ≤ hN ∧ Free (popIL lz) (e + (i + 1)) (k - (i + 1))) := by
            refine ⟨HK4.out.trans kN (fun _ _ e => e.elim), ⟨?_, rfl, ownsRow_keep HI4.out.ow kN (fun _ _ e => e), ?_⟩, ?_, ?_⟩
            · rw [HF3.out.len, hwN, hhN]; exact Lv.new _ _ _
            · have := HI4.out.gb; omega
            · have := HK4.out.size; omega
            · have h1 := HE.out
              rw [show e + (i + 1) = E + 1 by omega, show k - (i + 1) = kk by omega]
              exact HF3.out
          have HPN : Hid (Pt wN bp d m n _ dur _) := HP4.out.keep0 kN
          clear kN
          go_wp2
          rw [← hwN, ← hhN]
          go_roundg (k - (i + 1))
          case rel => exact ⟨i + 1, hN, gg, cc, popIL lz, _, _, by have := HE.out; omega, rfl, rfl, HF.out.1, ⟨HF.out.2.1, HF.out.2.2.2, HI.out.2.2.1, HF.out.2.2.1⟩, ⟨HPN.out, by have := HQ.out.2.1; omega, HC.out⟩⟩
          case measure => have := HE.out; omega
        | false =>
          have HC : Hid (Cln dur T s e (i + 1) n (nowOf dur (fun j => if j = 2 + (e + i) % s then some (nouW 64) else T1 j))) := HQ.out.2.2.put
          have z0 := (HL0.out.keep HK4.out HNe.out.1).cell (j := 0) rfl
          have z1 := (HL0.out.keep HK4.out HNe.out.1).cell (j := 1) rfl
          have HSS : Hid (∀ z, Kp (fun b => b = m) w4 z → Kp (fun b => b = m) w4 z ∧ z.cell? ⟨r, 0, none⟩ = some (.pointer (some ⟨bp, 0, none⟩)) ∧ z.cell? ⟨r, 1, none⟩ = some (.int .i64 (s : Int))) := fun z kz => ⟨kz, kz.cellv z0 HNe.out.1, kz.cellv z1 HNe.out.1⟩
          have H3 : Hid (∀ u g9, Kp (fun _ => False) w4 u → Rb u (some ⟨g9, 0, none⟩) 64 (nouW 64) → Calls Tryz.prog 167 #[ringV bp s, .int .i64 (sc : Int), .slice (some ⟨g9, 0, none⟩) 64 64] u fun e9 w' => e9 = .returned .nilIface ∧ Kp (fun x => x = m) u w' ∧ Pt w' bp d m n (q1 + 1) dur (fun j => if j = 2 + (e + i) % s then some (nouW 64) else T1 j)) := fun u g9 ku hb => by
            have := rwrite_ok (HP4.out.keep0 ku) (by have := HN.out; have := HQ.out.2.1; have := HE.out; omega) s sc (by have := HSc.out; omega) g9 0 64 (nouW 64) hb
            rw [HSc.out.1] at this ⊢
            exact this
          have HTm : Hid (∀ u, Kp (fun _ => False) w4 u → Kp (fun x => x = m) w4 u) := fun u h => h.mono (fun _ _ e => e.elim)
          have HTt : Hid (∀ u u' : World, Kp (fun _ => False) w4 u → Kp (fun _ => False) u u' → Kp (fun _ => False) w4 u') := fun u u' h1 h2 => h1.trans h2 (fun _ _ e => e)
          have HTw : Hid (∀ u u' : World, Kp (fun _ => False) w4 u → Kp (fun x => x = m) u u' → Kp (fun x => x = m) w4 u') := fun u u' h1 h2 => (h1.mono (fun _ _ e => e.elim)).trans h2 (fun _ _ e => e)
          go_upto_region 8 with fail
          have kd : Kp (fun _ => False) w4 w4.drew := (Kp.refl _ _).drew
          have kD : Kp (fun b => b = m) w4 w4.drew := (Kp.refl _ _).drew
          go_region_held3 (fun z => Kp (fun b => b = m) w4 z ∧ z.cell? ⟨r, 0, none⟩ = some (.pointer (some ⟨bp, 0, none⟩)) ∧ z.cell? ⟨r, 1, none⟩ = some (.int .i64 (s : Int)))
            (first
              | exact HSS.out _ kD
              | exact HSS.out _ km1
              | exact HSS.out _ km2)
            (first
              | (go_at_call 182; refine (blankS_ok _).mono ?_; rintro e9 wA ⟨g9, hg9, rfl, kA, bk9⟩; have kw1 := HTt.out _ _ kd kA; have km1 := HTm.out _ kw1)
              | (go_at_call 167; refine (H3.out _ _ kw1 bk9.rb).mono ?_; rintro e9 wY ⟨rfl, kY, pY⟩; have km2 := HTw.out _ _ kw1 kY))
          all_goals
            have HKY : Hid (Kp (fun x => x = m) w0 wY) := HK4.out.trans km2 (fun _ _ e => e)
            have HIY : Hid (Ip wY hh 0 gg cc [] [] (popIL lz)) := HI4.out.keep km2 (fun e => HNe.out.2.2.2.2.2.2.2.1 e.symm) (fun e => HNe.out.2.2.2.2.2.2.2.2 e.symm)
            have HPY : Hid (Pt wY bp d m n (q1 + 1) dur (fun j => if j = 2 + (e + i) % s then some (nouW 64) else T1 j)) := pY
            clear kd kD kw1 km1 km2 kA hg9 bk9 kY pY z0 z1
            go_simp
            have c0 := HIY.out.c0
            rw [HF3.out.len] at c0
            obtain ⟨wN, hwN⟩ : ∃ y, y = wY.alloc (.cells #[.slice (some ⟨gg, 0, none⟩) kk cc] 135) := ⟨_, rfl⟩
            obtain ⟨hN, hhN⟩ : ∃ y, y = wY.heap.size := ⟨_, rfl⟩
            have kN : Kp (fun _ => False) wY wN := by rw [hwN]; exact (Kp.refl _ _).alloc _
            have HF : Hid (Kp (fun x => x = m) w0 wN ∧ Ip wN hN 0 gg cc [] [] (popIL lz) ∧ w0.heap.size ≤ hN ∧ Free (popIL lz) (e + (i + 1)) (k - (i + 1))) := by
              refine ⟨HKY.out.trans kN (fun _ _ e => e.elim), ⟨?_, rfl, ownsRow_keep HIY.out.ow kN (fun _ _ e => e), ?_⟩, ?_, ?_⟩
              · rw [HF3.out.len, hwN, hhN]; exact Lv.new _ _ _
              · have := HIY.out.gb; omega
              · have := HKY.out.size; omega
              · have h1 := HE.out
                rw [show e + (i + 1) = E + 1 by omega, show k - (i + 1) = kk by omega]
                exact HF3.out
            have HPN : Hid (Pt wN bp d m n _ dur _) := HPY.out.keep0 kN
            clear kN
            go_wp2
            rw [← hwN, ← hhN]
            go_roundg (k - (i + 1))
            case rel => exact ⟨i + 1, hN, gg, cc, popIL lz, _, _, by have := HE.out; omega, rfl, rfl, HF.out.1, ⟨HF.out.2.1, HF.out.2.2.2, HI.out.2.2.1, HF.out.2.2.1⟩, ⟨HPN.out, by have := HQ.out.2.1; omega, HC.out⟩⟩
            case measure => have := HE.out; omega
    · have hik : i = k := by omega
      subst hik
      have hk0 : i - i = 0 := by omega
      rw [hk0] at p0
      have HLen : Hid (∀ u, Calls Tryz.prog 187 #[.slice (some ⟨gg, 0, none⟩) 0 cc] u fun e w' => e = .returned (.int .i64 ((0 : Nat) : Int)) ∧ w' = u) := fun u => ilen (some ⟨gg, 0, none⟩) 0 cc u
      have HSy : Hid (Calls _ _ _ wr _) := rsync_ok HQ.out.1 s
      have HC : Hid (Cln dur T s e i n (nowOf (durAll dur T1 n) (fun _ => none))) := fun j hj => by
        rw [nowOf_sync HQ.out.1 hj]
        exact HQ.out.2.2 j hj
      clear hk0
      go_wp2_with fail
      refine (HLen.out _).mono ?_
      rintro e9 w9 ⟨rfl, hw9⟩
      have hw8 := hw9.symm
      subst hw8
      clear hw9 HLen
      go_wp2_with fail
      refine HSy.out.mono ?_
      rintro e9 w5 ⟨rfl, k5, p5⟩
      have HF : Hid (Kp (fun x => x = d ∨ x = m) w w5 ∧ Pt w5 bp d m n 0 (durAll dur T1 n) (fun _ => none)) := ⟨((HK0.out.mono (fun _ _ e => e.elim)).trans (HK.out.mono (fun _ _ e => Or.inr e)) (fun _ _ e => e)).trans k5 (fun _ _ e => e), p5⟩
      clear k5 p5 HSy
      go_wp2
      go_ret
      exact ⟨rfl, HF.out.1, _, HF.out.2, HC.out⟩
end Go.Proofs.YtippipeebkkghaaGreatDoor
