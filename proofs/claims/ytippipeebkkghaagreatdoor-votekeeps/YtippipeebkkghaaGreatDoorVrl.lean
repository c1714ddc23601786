/- VoteKeeps: both on new plates. -/
import Derived.Test.YtippipeebkkghaaGreatDoorVrk
import Derived.Test.YtippipeebkkghaaGreatDoorVom
namespace Go.Proofs.YtippipeebkkghaaGreatDoor
set_option linter.unusedVariables false
set_option linter.unusedSimpArgs false
open Go.RowKit Go.Deep Go.Maps

set_option maxRecDepth 100000 in
set_option maxHeartbeats 6400000 in
theorem popen_ok {w : World} {pb bp d m x tb tw td : Nat} (p1 : Pt w bp d m 400 0 (List.replicate (400 * 64) 0) (fun _ => none)) (r : Rp w x tb tw td 400 (fun _ => List.replicate 64 0) (fun _ => List.replicate 64 0) (fun _ => false) (fun z => z = d ∨ z = m)) (L : Lv w pb [.pointer none, .pointer none, .pointer (some ⟨bp, 0, none⟩), .pointer (some ⟨x, 0, none⟩)]) (ht : Turns w)
    (ha : (pb ≠ d ∧ pb ≠ m ∧ pb ≠ tb ∧ pb ≠ tw ∧ pb ≠ td) ∧ (x ≠ d ∧ x ≠ m ∧ tb ≠ d ∧ tb ≠ m ∧ tw ≠ d ∧ tw ≠ m ∧ td ≠ d ∧ td ≠ m) ∧ (bp ≠ tb ∧ bp ≠ tw ∧ bp ≠ td) ∧ (¬ (0 : Nat) = d ∧ ¬ (0 : Nat) = m ∧ ¬ (0 : Nat) = tb ∧ ¬ (0 : Nat) = tw ∧ ¬ (0 : Nat) = td ∧ ¬ (0 : Nat) = pb) ∧ pb ≠ bp) :
    Calls Tryz.prog 16 #[.pointer (some ⟨pb, 0, none⟩)] w fun e w' => ∃ ac sh mp g gf ax, e = .returned (.bool true) ∧ Kp (fun z => z = d ∨ z = m ∨ z = tb ∨ z = tw ∨ z = td ∨ z = pb) w w' ∧ (w.heap.size ≤ ac ∧ w.heap.size ≤ sh ∧ w.heap.size ≤ mp ∧ w.heap.size ≤ g ∧ w.heap.size ≤ gf) ∧ (ac ≠ sh ∧ ac ≠ mp ∧ ac ≠ g ∧ ac ≠ gf) ∧ (∃ Z, Shr w' Z sh mp g bp d m gf 398 1 0 []) ∧ Dur w' g bp d m gf 398 1 0 [] ∧ Lv w' pb [.pointer (some ⟨ac, 0, none⟩), ax, .pointer (some ⟨bp, 0, none⟩), .pointer (some ⟨x, 0, none⟩)] ∧ w'.cell? ⟨ac, 0, none⟩ = some (.pointer (some ⟨sh, 0, none⟩)) := by
  have HA : Hid _ := ha
  have HO : Hid (Calls _ _ _ w _) := sopen_new (s := 398) p1 (by decide) ht ⟨ha.2.2.2.1.1, ha.2.2.2.1.2.1⟩
  have HR : Hid (Rp w x tb tw td 400 (fun _ => List.replicate 64 0) (fun _ => List.replicate 64 0) (fun _ => false) (fun z => z = d ∨ z = m)) := r
  have HL : Hid (Lv w pb [.pointer none, .pointer none, .pointer (some ⟨bp, 0, none⟩), .pointer (some ⟨x, 0, none⟩)]) := L
  have HB : Hid ((x < w.heap.size ∧ tb < w.heap.size ∧ tw < w.heap.size ∧ td < w.heap.size) ∧ pb < w.heap.size ∧ (bp < w.heap.size ∧ d < w.heap.size ∧ m < w.heap.size) ∧ (0 : Nat) < w.heap.size) := ⟨r.lt, L.lt (by simp), ⟨p1.lt, p1.row.lt, p1.mp.lt⟩, World.block_lt_of_cell? _ _ (ht 0 (by decide))⟩
  have c2 : w.cell? ⟨pb, 2, none⟩ = some (.pointer (some ⟨bp, 0, none⟩)) := L.cell (j := 2) rfl
  clear p1 r L ht ha
  go_enter Tryz.func16, Tryz.ntmps16
  go_wp2_with fail
  refine HO.out.mono ?_
  rintro e9 w1 ⟨sh, mp, g, gf, dur, rfl, k1, hz, s1⟩
  have hA := HA.out
  have hB := HB.out
  have hk1 := k1.size
  have hsh := s1.shr9 (N := 0) rfl (fun q hq => absurd hq List.not_mem_nil) ⟨by omega, by omega⟩ (by omega) (Nat.le_refl _) (by decide) (by decide) (by
    rw [stS_nil]
    show ((totW [] : Nat) : Int) + 0 ≤ _
    have : totW [] = 0 := rfl
    omega) (by decide)
  have HS1 : Hid ((∃ Z, Shr w1 Z sh mp g bp d m gf 398 1 0 []) ∧ Dur w1 g bp d m gf 398 1 0 []) := ⟨⟨_, hsh.1⟩, hsh.2⟩
  have hlt1 := hsh.1.blk
  have HZ : Hid ((w.heap.size ≤ sh ∧ w.heap.size ≤ mp ∧ w.heap.size ≤ g ∧ w.heap.size ≤ gf) ∧ (sh < w1.heap.size ∧ mp < w1.heap.size ∧ g < w1.heap.size ∧ gf < w1.heap.size)) := ⟨hz, hlt1 sh (Or.inr (Or.inr (Or.inr (Or.inr (Or.inl rfl))))), hlt1 mp (Or.inr (Or.inr (Or.inr (Or.inr (Or.inr rfl))))), hlt1 g (Or.inr (Or.inr (Or.inl rfl))), hlt1 gf (Or.inr (Or.inr (Or.inr (Or.inl rfl))))⟩
  have HK1 : Hid (Kp (fun z => z = d ∨ z = m) w w1) := k1
  have r1 := HR.out.keep k1 (fun z e => e) (fun e => by rcases e with e | e; exact hA.2.1.1 e; exact hA.2.1.2.1 e) (fun e => by rcases e with e | e; exact hA.2.1.2.2.1 e; exact hA.2.1.2.2.2.1 e) (fun e => by rcases e with e | e; exact hA.2.1.2.2.2.2.1 e; exact hA.2.1.2.2.2.2.2.1 e) (fun e => by rcases e with e | e; exact hA.2.1.2.2.2.2.2.2.1 e; exact hA.2.1.2.2.2.2.2.2.2 e)
  have HL1 : Hid (Lv w1 pb [.pointer none, .pointer none, .pointer (some ⟨bp, 0, none⟩), .pointer (some ⟨x, 0, none⟩)]) := HL.out.keep k1 (fun e => by rcases e with e | e; exact hA.1.1 e; exact hA.1.2.1 e)
  have HX : Hid (Calls _ _ _ w1 _) := x08open0_ok r1 (fun z e => by rcases e with e | e <;> omega) (by omega)
  have c3 : w1.cell? ⟨pb, 3, none⟩ = some (.pointer (some ⟨x, 0, none⟩)) := HL1.out.cell (j := 3) rfl
  clear hA hB hk1 hsh hlt1 r1 k1 hz s1 HO HR HL c2
  go_wp2_with fail
  refine HX.out.mono ?_
  rintro e9 w2 ⟨wx, sx, rfl, k2, hsx, l2⟩
  have hA := HA.out
  have hB := HB.out
  have hZ := HZ.out
  have hk1 := HK1.out.size
  have hni : ∀ v, (v = bp ∨ SW6 sh mp g m gf d v ∨ v = (0 : Nat)) → ¬ (v = tb ∨ v = tw ∨ v = td) := fun v hv e => by
    rcases hv with e1 | hv | e1
    · rcases e with e | e | e <;> omega
    · rcases hv with e1 | e1 | e1 | e1 | e1 | e1 <;> rcases e with e | e | e <;> omega
    · rcases e with e | e | e <;> omega
  have HS2 : Hid ((∃ Z, Shr w2 Z sh mp g bp d m gf 398 1 0 []) ∧ Dur w2 g bp d m gf 398 1 0 []) := by
    obtain ⟨⟨Z, a1⟩, a2⟩ := HS1.out
    have a1' : Shr w1 (fun _ => False) sh mp g bp d m gf 398 1 0 [] := a1.none
    refine ⟨⟨_, a1'.keep k2 (fun v hv => ?_)⟩, a2.keep k2 (fun v hv => ?_)⟩
    · rcases hv with e | e | e | e
      · exact hni v (Or.inl e)
      · exact hni v (Or.inr (Or.inl e))
      · exact e.elim
      · exact hni v (Or.inr (Or.inr e))
    · rcases hv with e | e | e | e | e
      · exact hni v (Or.inl e)
      · exact hni v (Or.inr (Or.inl (Or.inl e)))
      · exact hni v (Or.inr (Or.inl (Or.inr (Or.inl e))))
      · exact hni v (Or.inr (Or.inl (Or.inr (Or.inr (Or.inl e)))))
      · exact hni v (Or.inr (Or.inl (Or.inr (Or.inr (Or.inr (Or.inl e))))))
  have HL2 : Hid (Lv w2 pb [.pointer none, .pointer none, .pointer (some ⟨bp, 0, none⟩), .pointer (some ⟨x, 0, none⟩)]) := HL1.out.keep k2 (fun e => by rcases e with e | e | e; exact hA.1.2.2.1 e; exact hA.1.2.2.2.1 e; exact hA.1.2.2.2.2 e)
  have HK2 : Hid (Kp (fun z => z = d ∨ z = m ∨ z = tb ∨ z = tw ∨ z = td) w w2) := (HK1.out.mono (S' := fun z => z = d ∨ z = m ∨ z = tb ∨ z = tw ∨ z = td) (fun z _ e => by rcases e with e | e; exact Or.inl e; exact Or.inr (Or.inl e))).trans k2 (fun z _ e => Or.inr (Or.inr e))
  have HG2 : Hid (w1.heap.size ≤ w2.heap.size) := k2.size
  have HLs : Hid (Lv w2 sx [.pointer (some ⟨wx, 0, none⟩), .slice none 0 0, .slice none 0 0, .slice none 0 0]) := l2
  obtain ⟨⟨Z2, hs2⟩, _⟩ := HS2.out
  have HVo : Hid (Calls _ _ _ w2 _) := vopen_ok hs2 Hs.nil
  clear hA hB hZ hk1 hni k2 hsx l2 hs2 HX HS1 HL1 c3 HK1
  go_wp2_with fail
  refine HVo.out.mono ?_
  rintro e9 w3 ⟨ac, rfl, k3, hac, l3⟩
  have HXo : Hid (Calls _ _ _ w3 _) := x11open0_ok (HLs.out.keep k3 id)
  have HK3 : Hid (Kp (fun _ => False) w2 w3) := k3
  have HAc : Hid (w2.heap.size ≤ ac ∧ Lv w3 ac [.pointer (some ⟨sh, 0, none⟩)]) := ⟨hac, l3⟩
  clear k3 hac l3 HVo HLs
  go_wp2_with fail
  refine HXo.out.mono ?_
  rintro e9 w4 ⟨ax, rfl, k4⟩
  have HK4 : Hid (Kp (fun _ => False) w2 w4) := HK3.out.trans k4 (fun _ _ e => e)
  have la : Lv w4 ac [.pointer (some ⟨sh, 0, none⟩)] := HAc.out.2.keep k4 id
  have lp := HL2.out.keep HK4.out id
  have q0 : w4.cell? ⟨pb, 0, none⟩ = some (.pointer none) := lp.cell (j := 0) rfl
  have q1 : w4.cell? ⟨pb, 1, none⟩ = some (.pointer none) := lp.cell (j := 1) rfl
  have f0 : w4.frozen? ⟨pb, 0, none⟩ = false := lp.fz (show 0 < 4 by omega)
  have f1 : w4.frozen? ⟨pb, 1, none⟩ = false := lp.fz (show 1 < 4 by omega)
  obtain ⟨w5, hw5⟩ : ∃ y, y = (w4.setCell ⟨pb, 0, none⟩ (.pointer (some ⟨ac, 0, none⟩))).setCell ⟨pb, 1, none⟩ (.pointer (some ⟨ax, 0, none⟩)) := ⟨_, rfl⟩
  have k5 : Kp (fun z => z = pb) w4 w5 := by rw [hw5]; exact ((Kp.refl (fun z => z = pb) w4).setCell (fun _ => rfl) _).setCell (fun _ => rfl) _
  have l5 : Lv w5 pb [.pointer (some ⟨ac, 0, none⟩), .pointer (some ⟨ax, 0, none⟩), .pointer (some ⟨bp, 0, none⟩), .pointer (some ⟨x, 0, none⟩)] := by
    rw [hw5]
    exact (lp.set1 0 (.pointer (some ⟨ac, 0, none⟩)) (by show 0 < 4; omega)).set1 1 (.pointer (some ⟨ax, 0, none⟩)) (by show 1 < 4; omega)
  have HF : Hid (Kp (fun z => z = d ∨ z = m ∨ z = tb ∨ z = tw ∨ z = td ∨ z = pb) w w5 ∧ (w.heap.size ≤ ac ∧ w.heap.size ≤ sh ∧ w.heap.size ≤ mp ∧ w.heap.size ≤ g ∧ w.heap.size ≤ gf) ∧ (ac ≠ sh ∧ ac ≠ mp ∧ ac ≠ g ∧ ac ≠ gf) ∧ (∃ Z, Shr w5 Z sh mp g bp d m gf 398 1 0 []) ∧ Dur w5 g bp d m gf 398 1 0 [] ∧ Lv w5 pb [.pointer (some ⟨ac, 0, none⟩), .pointer (some ⟨ax, 0, none⟩), .pointer (some ⟨bp, 0, none⟩), .pointer (some ⟨x, 0, none⟩)] ∧ w5.cell? ⟨ac, 0, none⟩ = some (.pointer (some ⟨sh, 0, none⟩))) := by
    have hA := HA.out
    have hB := HB.out
    have hZ := HZ.out
    have h2 := HK2.out.size
    have h3 := HAc.out.1
    have h4 := HG2.out
    have hnp : ∀ v, (v = bp ∨ SW6 sh mp g m gf d v ∨ v = (0 : Nat)) → ¬ v = pb := fun v hv e => by
      rcases hv with e1 | hv | e1
      · omega
      · rcases hv with e1 | e1 | e1 | e1 | e1 | e1 <;> omega
      · omega
    obtain ⟨⟨Z, a1⟩, a2⟩ := HS2.out
    refine ⟨(HK2.out.mono (S' := fun z => z = d ∨ z = m ∨ z = tb ∨ z = tw ∨ z = td ∨ z = pb) (fun z _ e => by rcases e with e | e | e | e | e; exact Or.inl e; exact Or.inr (Or.inl e); exact Or.inr (Or.inr (Or.inl e)); exact Or.inr (Or.inr (Or.inr (Or.inl e))); exact Or.inr (Or.inr (Or.inr (Or.inr (Or.inl e)))))).trans ((HK4.out.mono (fun _ _ e => e.elim)).trans k5 (S := fun z => z = pb) (fun _ _ e => e)) (fun z _ e => Or.inr (Or.inr (Or.inr (Or.inr (Or.inr e))))), ⟨by omega, by omega, by omega, by omega, by omega⟩, ⟨by omega, by omega, by omega, by omega⟩, ⟨_, ((a1.none).keep0 HK4.out).keep k5 (fun v hv => ?_)⟩, (a2.keep HK4.out (fun _ _ e => e)).keep k5 (fun v hv => ?_), l5, k5.cellv (la.cell (j := 0) rfl) (fun e => by have e' : ac = pb := e; omega)⟩
    · rcases hv with e | e | e | e
      · exact hnp v (Or.inl e)
      · exact hnp v (Or.inr (Or.inl e))
      · exact e.elim
      · exact hnp v (Or.inr (Or.inr e))
    · rcases hv with e | e | e | e | e
      · exact hnp v (Or.inl e)
      · exact hnp v (Or.inr (Or.inl (Or.inl e)))
      · exact hnp v (Or.inr (Or.inl (Or.inr (Or.inl e))))
      · exact hnp v (Or.inr (Or.inl (Or.inr (Or.inr (Or.inl e)))))
      · exact hnp v (Or.inr (Or.inl (Or.inr (Or.inr (Or.inr (Or.inl e))))))
  rw [hw5] at HF
  clear k4 la lp k5 l5 HXo hw5
  go_wp2_with fail
  go_ret
  exact ⟨ac, sh, mp, g, gf, _, rfl, HF.out⟩
/-- an acceptor of the law's, its shelf and its plate -/
structure A11 (w u : World) (pb mv ac sh mp g bp d m gf b N : Nat) (h : List Rc) (hi : Nat) (V : Nat → Nat) : Prop where
  s : ∃ Z, Shr u Z sh mp g bp d m gf 398 b N h ∧ ¬ Z pb ∧ ¬ Z mv
  du : Dur u g bp d m gf 398 b N h
  hs : Hs h hi V
  c : u.cell? ⟨ac, 0, none⟩ = some (.pointer (some ⟨sh, 0, none⟩))
  na : ¬ SW6 sh mp g m gf d ac
  lp : ∃ ax x, Lv u pb [.pointer (some ⟨ac, 0, none⟩), ax, .pointer (some ⟨bp, 0, none⟩), x]
  np : ¬ SW6 sh mp g m gf d pb ∧ pb ≠ ac ∧ pb ≠ bp
  k : Kp (fun _ => False) w u
  z : ∀ v, SW6 sh mp g m gf d v → w.heap.size ≤ v
  pz : w.heap.size ≤ pb

set_option maxRecDepth 100000 in
set_option maxHeartbeats 6400000 in
theorem vbegin_ok {w : World} (ht : Turns w) :
    Calls Tryz.prog 4 #[] w fun e w' => ∃ pb ac sh mp g bp d m gf, e = .returned (.pointer (some ⟨pb, 0, none⟩)) ∧ ∀ mv, A11 w w' pb mv ac sh mp g bp d m gf 1 0 [] 0 (fun _ => 0) := by
  have HNw : Hid (Calls Tryz.prog 14 #[.int .i64 400] w _) := new_ok 400 w (by omega) (by omega)
  have HT : Hid (Turns w ∧ (0 : Nat) < w.heap.size) := ⟨ht, World.block_lt_of_cell? _ _ (ht 0 (by decide))⟩
  clear ht
  go_enter Tryz.func4, Tryz.ntmps4
  go_wp2_with fail
  refine HNw.out.mono ?_
  rintro e9 w1 ⟨bp, d, m, rfl, k1, hb, hd, hm, p1⟩
  have HK1 : Hid (Kp (fun _ => False) w w1) := k1
  have HP1 : Hid (Pt w1 bp d m 400 0 (List.replicate (400 * 64) 0) (fun _ => none)) := p1
  have HZ1 : Hid (w.heap.size ≤ bp ∧ w.heap.size ≤ d ∧ w.heap.size ≤ m ∧ bp < w1.heap.size ∧ d < w1.heap.size ∧ m < w1.heap.size) := ⟨hb, hd, hm, p1.lt, p1.row.lt, p1.mp.lt⟩
  have HRn : Hid (Calls Tryz.prog 15 #[.int .i64 400] w1 _) := refNew_ok (n := 400) (Y := fun z => z = d ∨ z = m) (fun z e => by have := HZ1.out; rcases e with e | e <;> omega) (by omega) (by omega)
  clear k1 hb hd hm p1 HNw
  go_wp2_with fail
  refine HRn.out.mono ?_
  rintro e9 w2 ⟨x, tb, tw, td, rfl, k2, hx, htb, htw, htd, r2⟩
  have HK2 : Hid (Kp (fun _ => False) w1 w2) := k2
  have HZ2 : Hid ((w1.heap.size ≤ x ∧ w1.heap.size ≤ tb ∧ w1.heap.size ≤ tw ∧ w1.heap.size ≤ td) ∧ (x < w2.heap.size ∧ tb < w2.heap.size ∧ tw < w2.heap.size ∧ td < w2.heap.size)) := ⟨⟨hx, htb, htw, htd⟩, r2.lt⟩
  obtain ⟨pb, hpb⟩ : ∃ y, y = w2.heap.size := ⟨_, rfl⟩
  obtain ⟨w3, hw3⟩ : ∃ y, y = w2.alloc (.cells #[.pointer none, .pointer none, .pointer (some ⟨bp, 0, none⟩), .pointer (some ⟨x, 0, none⟩)] 44) := ⟨_, rfl⟩
  have k3 : Kp (fun _ => False) w2 w3 := by rw [hw3]; exact (Kp.refl _ _).alloc _
  have l3 : Lv w3 pb [.pointer none, .pointer none, .pointer (some ⟨bp, 0, none⟩), .pointer (some ⟨x, 0, none⟩)] := by rw [hw3, hpb]; exact Lv.new _ _ _
  have hk1 := HK1.out.size
  have hk2 := k2.size
  have hz1 := HZ1.out
  have hz2 := HZ2.out
  have htl := HT.out.2
  have HPo : Hid (Calls _ _ _ w3 _) := popen_ok ((HP1.out.keep k2 id id id).keep k3 id id id) (r2.keep k3 (fun _ e => e.elim) id id id id) l3 (fun j hj => k3.cellv (k2.cellv (HK1.out.cellv (HT.out.1 j hj) id) id) id)
    ⟨⟨by omega, by omega, by omega, by omega, by omega⟩, ⟨by omega, by omega, by omega, by omega, by omega, by omega, by omega, by omega⟩, ⟨by omega, by omega, by omega⟩, ⟨by omega, by omega, by omega, by omega, by omega, by omega⟩, by omega⟩
  have HK3 : Hid (Kp (fun _ => False) w w3) := (HK1.out.trans k2 (fun _ _ e => e)).trans k3 (fun _ _ e => e)
  have HZ3 : Hid (pb = w2.heap.size ∧ w2.heap.size < w3.heap.size) := ⟨hpb, by have := l3.lt (by simp); omega⟩
  clear k2 hx htb htw htd r2 k3 l3 hk1 hk2 hz1 hz2 htl HRn HP1
  go_upto_region 4 with fail
  rw [← hw3, ← hpb]
  clear hw3 hpb
  go_wp2_with fail
  refine HPo.out.mono ?_
  rintro e9 w4 ⟨ac, sh, mp, g, gf, ax, rfl, k4, hz4, hac, hs4, hd4, l4, c4⟩
  have HF : Hid (∀ mv, A11 w w4 pb mv ac sh mp g bp d m gf 1 0 [] 0 (fun _ => 0)) := fun mv => by
    have hk1 := HK1.out.size
    have hk2 := HK2.out.size
    have hz1 := HZ1.out
    have hz2 := HZ2.out
    have hz3 := HZ3.out
    have hp4 := l4.lt (by simp)
    obtain ⟨Z4, hs4⟩ := hs4
    refine ⟨⟨_, hs4.none, id, id⟩, hd4, Hs.nil, c4, fun e => ?_, ⟨_, _, l4⟩, ⟨fun e => ?_, by omega, by omega⟩, HK3.out.trans k4 (fun v hv e => ?_), fun v hv => ?_, by omega⟩
    · rcases e with e | e | e | e | e | e <;> omega
    · rcases e with e | e | e | e | e | e <;> omega
    · rcases e with e | e | e | e | e | e <;> omega
    · rcases hv with e | e | e | e | e | e <;> omega
  clear k4 hz4 hac hs4 hd4 l4 c4 HPo
  go_wp2_with fail
  go_ret
  exact ⟨pb, ac, sh, mp, g, bp, d, m, gf, rfl, HF.out⟩
end Go.Proofs.YtippipeebkkghaaGreatDoor
