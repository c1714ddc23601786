/- Calls of a shelf with room for few records, as the laws make them. -/
import Derived.Test.YtmooddbhcccicaaGreatDoorIq
namespace Go.Proofs.YtmooddbhcccicaaGreatDoor
set_option linter.unusedVariables false
set_option linter.unusedSimpArgs false
open Go.RowKit Go.Deep Go.Maps

/-- a shelf that is the law's own, made behind w: N was the heap's size then -/
structure D8 (w u : World) (N sh mp g bp d m gf : Nat) (dur : List Nat) (h : List Rc) : Prop where
  s : Shf u (fun x => N ≤ x) sh mp g bp d m gf 298 1 1 0 1 0 dur h
  k : Kp (fun _ => False) w u
  n : N ≤ u.heap.size
  z : w.heap.size ≤ sh ∧ w.heap.size ≤ mp ∧ w.heap.size ≤ g ∧ w.heap.size ≤ gf ∧ w.heap.size ≤ m
  g : ∀ r ∈ h, GoodR r ∧ r.b.length ≤ 600
/-- bytes of one's own are kept -/
structure Oks (N : Nat) (u u' : World) : Prop where
  sz : u.heap.size ≤ u'.heap.size
  row : ∀ (t : TypeId) (k n : Nat) (v : Value) (xs : List Value), u.ownsRow N t k v n xs → u'.ownsRow N t k v n xs
theorem Oks.ow {N : Nat} {u u' : World} (o : Oks N u u') {v : Value} {xs : List Nat} (h : Ow u N v xs) : Ow u' N v xs := o.row _ _ _ _ _ h
section
variable {w u : World} {N sh mp g bp d m gf : Nat} {dur : List Nat} {h : List Rc}
theorem D8.keep0 (x : D8 w u N sh mp g bp d m gf dur h) {u' : World} (k : Kp (fun _ => False) u u') : D8 w u' N sh mp g bp d m gf dur h ∧ Oks N u u' :=
  ⟨⟨x.s.keep0 k, x.k.trans k (fun _ _ e => e), Nat.le_trans x.n k.size, x.z, x.g⟩, k.size, fun t q n v xs o => ownsRow_keep o k (fun _ _ e => e)⟩
theorem D8.put (x : D8 w u N sh mp g bp d m gf dur h) {u' : World} {h' : List Rc} (k : Kp (SW sh mp g m gf) u u') (s : Shf u' (fun x => N ≤ x) sh mp g bp d m gf 298 1 1 0 1 0 dur h') (hg : ∀ r ∈ h', GoodR r ∧ r.b.length ≤ 600) : D8 w u' N sh mp g bp d m gf dur h' ∧ Oks N u u' := by
  have z := x.z
  refine ⟨⟨s, x.k.trans k (fun b hb e => ?_), Nat.le_trans x.n k.size, x.z, hg⟩, k.size, fun t q n v xs o => ownsRow_keep o k (fun b hb e => ?_)⟩
  · rcases e with e | e | e | e | e <;> omega
  · have hb := (ownBlock_lt o hb).1
    rcases e with e | e | e | e | e
    · exact (x.s.aq m (Or.inl rfl)).1 (e ▸ hb)
    · exact (x.s.aq g (Or.inr (Or.inl rfl))).1 (e ▸ hb)
    · exact (x.s.aq gf (Or.inr (Or.inr rfl))).1 (e ▸ hb)
    · exact x.s.ap.2.1 (e ▸ hb)
    · exact x.s.ap.2.2 (e ▸ hb)
theorem D8.more (x : D8 w u N sh mp g bp d m gf dur h) {r : Rc} (hr : GoodR r ∧ r.b.length ≤ 600) : ∀ q ∈ h ++ [r], GoodR q ∧ q.b.length ≤ 600 := fun q hq => by
  rcases List.mem_append.1 hq with hq | hq
  · exact x.g q hq
  · rw [List.mem_singleton.1 hq]; exact hr
theorem D8.drop_none (x : D8 w u N sh mp g bp d m gf dur h) (bl ix : Nat) (hbl : bl ≤ 1152921504606846976) (hix : ix ≤ 1152921504606846976) (hn : h.length ≤ 5) (hno : (stS h).1 ⟨1, (bl : Int), (ix : Int)⟩ = none) :
    Calls Tryz.prog 22 #[.pointer (some ⟨sh, 0, none⟩), .int .i64 (bl : Int), .int .i64 (ix : Int)] u fun e9 u' => e9 = .returned (.int .i64 80) ∧ D8 w u' N sh mp g bp d m gf dur h ∧ Oks N u u' := by
  have hr := fits_small x.g (good2 hbl hix) hn
  refine (sdrop_ok x.s bl ix hbl hix (by omega) hr.1 hr.2).mono ?_
  rintro e9 u' (⟨_, rfl, k⟩ | ⟨⟨o, ho⟩, _⟩)
  · exact ⟨rfl, x.keep0 k⟩
  · rw [hno] at ho; cases ho
theorem D8.drop_some (x : D8 w u N sh mp g bp d m gf dur h) (bl ix : Nat) (hbl : bl ≤ 1152921504606846976) (hix : ix ≤ 1152921504606846976) (hn : h.length ≤ 5) {o : Rc} (ho : (stS h).1 ⟨1, (bl : Int), (ix : Int)⟩ = some o) :
    Calls Tryz.prog 22 #[.pointer (some ⟨sh, 0, none⟩), .int .i64 (bl : Int), .int .i64 (ix : Int)] u fun e9 u' => e9 = .returned (.int .i64 0) ∧ D8 w u' N sh mp g bp d m gf dur (h ++ [⟨2, bl, ix, 0, []⟩]) ∧ Oks N u u' := by
  have hr := fits_small x.g (good2 hbl hix) hn
  refine (sdrop_ok x.s bl ix hbl hix (by omega) hr.1 hr.2).mono ?_
  rintro e9 u' (⟨hno, _⟩ | ⟨_, rfl, k, s⟩)
  · rw [hno] at ho; cases ho
  · exact ⟨rfl, x.put k s (x.more (good2 hbl hix))⟩
theorem D8.fence (x : D8 w u N sh mp g bp d m gf dur h) (bl ix ep : Nat) (hbl : bl ≤ 1152921504606846976) (hix : ix ≤ 1152921504606846976) (hep : ep ≤ 1152921504606846976) (hn : h.length ≤ 5) (hf : fncd h bl ix < ep) :
    Calls Tryz.prog 15 #[.pointer (some ⟨sh, 0, none⟩), .int .i64 (bl : Int), .int .i64 (ix : Int), .int .i64 (ep : Int)] u fun e9 u' => e9 = .returned (.int .i64 0) ∧ D8 w u' N sh mp g bp d m gf dur (h ++ [⟨3, bl, ix, ep, []⟩]) ∧ Oks N u u' := by
  have hr := fits_small x.g (good3 hbl hix hep) hn
  refine (sfence_new x.s bl ix ep hbl hix hep hf (by omega) hr.1 hr.2).mono ?_
  rintro e9 u' ⟨rfl, k, s⟩
  exact ⟨rfl, x.put k s (x.more (good3 hbl hix hep))⟩
theorem D8.store_new (x : D8 w u N sh mp g bp d m gf dur h) (bl ix ep : Nat) (hbl : bl ≤ 1152921504606846976) (hix : ix ≤ 1152921504606846976) (hep : ep ≤ 1152921504606846976) (hn : h.length ≤ 5) {base : Nat} {v : Value} {xs : List Nat} (hv : Ow u base v xs) (hx1 : 1 ≤ xs.length ∧ xs.length ≤ 600) (hxb : ∀ v ∈ xs, v < 256)
    (hf : fncd h bl ix ≤ ep) (hno : (stS h).1 ⟨1, (bl : Int), (ix : Int)⟩ = none) :
    Calls Tryz.prog 14 #[.pointer (some ⟨sh, 0, none⟩), .int .i64 (bl : Int), .int .i64 (ix : Int), .int .i64 (ep : Int), v] u fun e9 u' => e9 = .returned (.int .i64 0) ∧ D8 w u' N sh mp g bp d m gf dur (h ++ [⟨1, bl, ix, 0, xs⟩]) ∧ Oks N u u' := by
  have hg := good1 (xs := xs) hbl hix hxb hx1.2
  have hr := fits_small x.g hg hn
  obtain ⟨p, c, rfl, _, hb, _⟩ := hv.rb hxb
  refine (sstore_ok x.s bl ix ep hbl hix hep p xs.length c xs hb rfl (by omega) hxb (fun v hv => Nat.le_trans x.n hv) (by omega) hr.1 hr.2).mono ?_
  rintro e9 u' (⟨h1, _⟩ | ⟨_, _, rfl, k, s⟩ | ⟨_, o, ho, _⟩)
  · omega
  · exact ⟨rfl, x.put k s (x.more hg)⟩
  · rw [hno] at ho; cases ho
theorem D8.store_low (x : D8 w u N sh mp g bp d m gf dur h) (bl ix ep : Nat) (hbl : bl ≤ 1152921504606846976) (hix : ix ≤ 1152921504606846976) (hep : ep ≤ 1152921504606846976) (hn : h.length ≤ 5) {base : Nat} {v : Value} {xs : List Nat} (hv : Ow u base v xs) (hx1 : 1 ≤ xs.length ∧ xs.length ≤ 600) (hxb : ∀ v ∈ xs, v < 256)
    (hf : ep < fncd h bl ix) :
    Calls Tryz.prog 14 #[.pointer (some ⟨sh, 0, none⟩), .int .i64 (bl : Int), .int .i64 (ix : Int), .int .i64 (ep : Int), v] u fun e9 u' => e9 = .returned (.int .i64 81) ∧ D8 w u' N sh mp g bp d m gf dur h ∧ Oks N u u' := by
  have hg := good1 (xs := xs) hbl hix hxb hx1.2
  have hr := fits_small x.g hg hn
  obtain ⟨p, c, rfl, _, hb, _⟩ := hv.rb hxb
  refine (sstore_ok x.s bl ix ep hbl hix hep p xs.length c xs hb rfl (by omega) hxb (fun v hv => Nat.le_trans x.n hv) (by omega) hr.1 hr.2).mono ?_
  rintro e9 u' (⟨_, rfl, k⟩ | ⟨h1, _⟩ | ⟨h1, _⟩)
  · exact ⟨rfl, x.keep0 k⟩
  · omega
  · omega
theorem D8.store_there (x : D8 w u N sh mp g bp d m gf dur h) (bl ix ep : Nat) (hbl : bl ≤ 1152921504606846976) (hix : ix ≤ 1152921504606846976) (hep : ep ≤ 1152921504606846976) (hn : h.length ≤ 5) {base : Nat} {v : Value} {xs : List Nat} (hv : Ow u base v xs) (hx1 : 1 ≤ xs.length ∧ xs.length ≤ 600) (hxb : ∀ v ∈ xs, v < 256)
    (hf : fncd h bl ix ≤ ep) {o : Rc} (ho : (stS h).1 ⟨1, (bl : Int), (ix : Int)⟩ = some o) :
    Calls Tryz.prog 14 #[.pointer (some ⟨sh, 0, none⟩), .int .i64 (bl : Int), .int .i64 (ix : Int), .int .i64 (ep : Int), v] u fun e9 u' => e9 = .returned (.int .i64 (if o.b = xs then 0 else 82)) ∧ D8 w u' N sh mp g bp d m gf dur h ∧ Oks N u u' := by
  have hg := good1 (xs := xs) hbl hix hxb hx1.2
  have hr := fits_small x.g hg hn
  obtain ⟨p, c, rfl, _, hb, _⟩ := hv.rb hxb
  refine (sstore_ok x.s bl ix ep hbl hix hep p xs.length c xs hb rfl (by omega) hxb (fun v hv => Nat.le_trans x.n hv) (by omega) hr.1 hr.2).mono ?_
  rintro e9 u' (⟨h1, _⟩ | ⟨_, h1, _⟩ | ⟨_, o', h1, rfl, k⟩)
  · omega
  · rw [h1] at ho; cases ho
  · rw [ho] at h1
    cases h1
    exact ⟨rfl, x.keep0 k⟩
theorem D8.fetch_low (x : D8 w u N sh mp g bp d m gf dur h) (bl ix ep : Nat) (hbl : bl ≤ 1152921504606846976) (hix : ix ≤ 1152921504606846976) (hep : ep ≤ 1152921504606846976) (hf : ep < fncd h bl ix) :
    Calls Tryz.prog 17 #[.pointer (some ⟨sh, 0, none⟩), .int .i64 (bl : Int), .int .i64 (ix : Int), .int .i64 (ep : Int)] u fun e9 u' => e9 = .returned (.tuple #[.slice none 0 0, .int .i64 81]) ∧ D8 w u' N sh mp g bp d m gf dur h ∧ Oks N u u' := by
  refine (sfetch_ok x.s bl ix ep hbl hix hep).mono ?_
  rintro e9 u' ⟨k, ⟨_, rfl⟩ | ⟨h1, _⟩ | ⟨h1, _⟩⟩
  · exact ⟨rfl, x.keep0 k⟩
  · omega
  · omega
theorem D8.fetch_none (x : D8 w u N sh mp g bp d m gf dur h) (bl ix ep : Nat) (hbl : bl ≤ 1152921504606846976) (hix : ix ≤ 1152921504606846976) (hep : ep ≤ 1152921504606846976) (hf : fncd h bl ix ≤ ep) (hno : (stS h).1 ⟨1, (bl : Int), (ix : Int)⟩ = none) :
    Calls Tryz.prog 17 #[.pointer (some ⟨sh, 0, none⟩), .int .i64 (bl : Int), .int .i64 (ix : Int), .int .i64 (ep : Int)] u fun e9 u' => e9 = .returned (.tuple #[.slice none 0 0, .int .i64 80]) ∧ D8 w u' N sh mp g bp d m gf dur h ∧ Oks N u u' := by
  refine (sfetch_ok x.s bl ix ep hbl hix hep).mono ?_
  rintro e9 u' ⟨k, ⟨h1, _⟩ | ⟨_, _, rfl⟩ | ⟨_, o, v, ho, _⟩⟩
  · omega
  · exact ⟨rfl, x.keep0 k⟩
  · rw [hno] at ho; cases ho
theorem D8.fetch_some (x : D8 w u N sh mp g bp d m gf dur h) (bl ix ep : Nat) (hbl : bl ≤ 1152921504606846976) (hix : ix ≤ 1152921504606846976) (hep : ep ≤ 1152921504606846976) (hf : fncd h bl ix ≤ ep) {o : Rc} (ho : (stS h).1 ⟨1, (bl : Int), (ix : Int)⟩ = some o) :
    Calls Tryz.prog 17 #[.pointer (some ⟨sh, 0, none⟩), .int .i64 (bl : Int), .int .i64 (ix : Int), .int .i64 (ep : Int)] u fun e9 u' => ∃ v, e9 = .returned (.tuple #[v, .int .i64 0]) ∧ Ow u' N v o.b ∧ D8 w u' N sh mp g bp d m gf dur h ∧ Oks N u u' := by
  refine (sfetch_ok x.s bl ix ep hbl hix hep).mono ?_
  rintro e9 u' ⟨k, ⟨h1, _⟩ | ⟨_, h1, _⟩ | ⟨_, o', v, h1, rfl, ow⟩⟩
  · omega
  · rw [h1] at ho; cases ho
  · rw [ho] at h1
    cases h1
    exact ⟨v, rfl, ownsRow_base ow x.n, x.keep0 k⟩
theorem sfence_same {Z : Nat → Prop} {s a b c e y : Nat} (x : Shf u Z sh mp g bp d m gf s a b c e y dur h) (bl ix ep : Nat) (hbl : bl ≤ 1152921504606846976) (hix : ix ≤ 1152921504606846976) (hep : ep ≤ 1152921504606846976) (hf : ep ≤ fncd h bl ix) :
    Calls Tryz.prog 15 #[.pointer (some ⟨sh, 0, none⟩), .int .i64 (bl : Int), .int .i64 (ix : Int), .int .i64 (ep : Int)] u fun e9 w' => e9 = .returned (.int .i64 0) ∧ Kp (fun _ => False) u w' := by
  obtain ⟨r0, hr0⟩ : ∃ r0, r0 = u.heap.size := ⟨_, rfl⟩
  obtain ⟨w0, hw0⟩ : ∃ y, y = u.alloc (.cells #[.int .i64 (bl : Int), .int .i64 (ix : Int), .int .i64 (ep : Int)] 3) := ⟨_, rfl⟩
  have HK0 : Hid (Kp (fun _ => False) u w0) := by rw [hw0]; exact (Kp.refl _ _).alloc _
  have HS0 : Hid (Shf w0 Z sh mp g bp d m gf s a b c e y dur h) := x.keep0 HK0.out
  have HA : Hid (Calls Tryz.prog 44 #[.pointer (some ⟨sh, 0, none⟩), .slice (some ⟨r0, 0, none⟩) 3 3] w0 fun e w' => e = .returned (.int .i64 0) ∧ w' = w0) := by
    have h1 := asked_ok (HS0.out.sk.l.cell (j := 0) rfl) (some ⟨r0, 0, none⟩) 3 3 [(bl : Int), (ix : Int), (ep : Int)] (by rw [hw0, hr0]; exact rz3 u _ _ _ _) rfl (by omega)
    rw [upTo3 hbl hix hep] at h1
    exact h1
  have HFe : Hid (Calls _ _ _ w0 _) := fenced_ok HS0.out.sk bl ix hbl hix
  obtain ⟨F, hF⟩ : ∃ F, F = fncd h bl ix := ⟨_, rfl⟩
  rw [← hF] at HFe hf
  have hle : (ep : Int) ≤ (F : Int) := by omega
  clear x hbl hix hep hf hF
  go_enter Tryz.func15, Tryz.ntmps15
  go_wp2_with fail
  rw [← hw0, ← hr0]
  clear hw0 hr0
  refine HA.out.mono ?_
  rintro e9 w9 ⟨rfl, hw9⟩
  have hw8 := hw9.symm
  subst hw8
  clear hw9 HA
  go_wp2_with fail
  refine HFe.out.mono ?_
  rintro e9 w9 ⟨rfl, hw9⟩
  have hw8 := hw9.symm
  subst hw8
  clear hw9 HFe
  go_wp2
  go_ret
  exact ⟨rfl, HK0.out⟩
theorem D8.fence_any (x : D8 w u N sh mp g bp d m gf dur h) (bl ix ep : Nat) (hbl : bl ≤ 1152921504606846976) (hix : ix ≤ 1152921504606846976) (hep : ep ≤ 1152921504606846976) (hn : h.length ≤ 5) (hf : fncd h bl ix ≤ ep) :
    Calls Tryz.prog 15 #[.pointer (some ⟨sh, 0, none⟩), .int .i64 (bl : Int), .int .i64 (ix : Int), .int .i64 (ep : Int)] u fun e9 u' => e9 = .returned (.int .i64 0) ∧ Oks N u u' ∧ ∃ h', D8 w u' N sh mp g bp d m gf dur h' ∧ h'.length ≤ h.length + 1 ∧ fncd h' bl ix = ep ∧ ∀ b i : Int, (stS h').1 ⟨1, b, i⟩ = (stS h).1 ⟨1, b, i⟩ := by
  by_cases h1 : fncd h bl ix < ep
  · refine (x.fence bl ix ep hbl hix hep hn h1).mono ?_
    rintro e9 u' ⟨rfl, x', o⟩
    have h2 := stS_fence h bl ix ep (by omega)
    exact ⟨rfl, o, _, x', by simp, h2.1, h2.2⟩
  · refine (sfence_same x.s bl ix ep hbl hix hep (by omega)).mono ?_
    rintro e9 u' ⟨rfl, k⟩
    have h2 := x.keep0 k
    exact ⟨rfl, h2.2, h, h2.1, by omega, by omega, fun _ _ => rfl⟩
theorem D8.fenced (x : D8 w u N sh mp g bp d m gf dur h) (bl ix : Nat) (hbl : bl ≤ 1152921504606846976) (hix : ix ≤ 1152921504606846976) :
    Calls Tryz.prog 19 #[.pointer (some ⟨sh, 0, none⟩), .int .i64 (bl : Int), .int .i64 (ix : Int)] u fun e9 u' => e9 = .returned (.int .i64 (fncd h bl ix : Int)) ∧ u' = u := fenced_ok x.s.sk bl ix hbl hix
/-- two of one's own, held against each other -/
theorem eq_own {u : World} {b1 b2 : Nat} {v1 v2 : Value} {xs ys : List Nat} (h1 : Ow u b1 v1 xs) (h2 : Ow u b2 v2 ys) (hx : ∀ x ∈ xs, x < 256) (hy : ∀ x ∈ ys, x < 256) :
    Calls Tryz.prog 20 #[v1, v2] u fun e u' => e = .returned (.bool (decide (xs = ys))) ∧ u' = u := by
  obtain ⟨p, c, rfl, _, r1, _⟩ := h1.rb hx
  obtain ⟨q, d, rfl, _, r2, _⟩ := h2.rb hy
  exact equal_any c d u r1 r2
end
end Go.Proofs.YtmooddbhcccicaaGreatDoor
