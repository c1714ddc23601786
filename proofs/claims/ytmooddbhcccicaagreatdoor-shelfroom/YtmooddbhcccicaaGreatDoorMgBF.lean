/- Texts of this proof, joined: Ir, Jre, Ft. -/
import Derived.Test.YtmooddbhcccicaaGreatDoorMgBB
import Derived.Test.YtmooddbhcccicaaGreatDoorMgBE
import Derived.Test.YtmooddbhcccicaaGreatDoorMgBC
import Derived.Test.YtmooddbhcccicaaGreatDoorMgAA
import Derived.ShutString
import Derived.ChangeOld
import Derived.Below
import Derived.SizedLaws
import Derived.Test.YtmooddbhcccicaaGreatDoorRows
import Derived.ProofKit
import Derived.OpenShut
/- Calls of a shelf with room for few records, as the laws make them. -/
namespace Go.Proofs.YtmooddbhcccicaaGreatDoor
set_option linter.unusedVariables false
set_option linter.unusedSimpArgs false
open Go.RowKit Go.Deep Go.Maps

/-- a shelf that is the law's own, made behind w: N was the heap's size then -/
structure D8 (w u : World) (N sh mp g bp d m gf : Nat) (dur : List Nat) (h : List Rc) : Prop where
  s : Shf u (fun x => N ≤ x) sh mp g bp d m gf 298 1 1 0 1 0 dur h
  k : Kp (fun _ => False) w u
  n : N ≤ u.heap.size
  z : w.heap.size ≤ sh ∧ w.heap.size ≤ mp ∧ w.heap.size ≤ g ∧ w.heap.size ≤ gf ∧ w.heap.size ≤ m
  g : ∀ r ∈ h, GoodR r ∧ r.b.length ≤ 600
/-- bytes of one's own are kept -/
structure Oks (N : Nat) (u u' : World) : Prop where
  sz : u.heap.size ≤ u'.heap.size
  row : ∀ (t : TypeId) (k n : Nat) (v : Value) (xs : List Value), u.ownsRow N t k v n xs → u'.ownsRow N t k v n xs
theorem Oks.ow {N : Nat} {u u' : World} (o : Oks N u u') {v : Value} {xs : List Nat} (h : Ow u N v xs) : Ow u' N v xs := o.row _ _ _ _ _ h
section
variable {w u : World} {N sh mp g bp d m gf : Nat} {dur : List Nat} {h : List Rc}
theorem D8.keep0 (x : D8 w u N sh mp g bp d m gf dur h) {u' : World} (k : Kp (fun _ => False) u u') : D8 w u' N sh mp g bp d m gf dur h ∧ Oks N u u' :=
  ⟨⟨x.s.keep0 k, x.k.trans k (fun _ _ e => e), Nat.le_trans x.n k.size, x.z, x.g⟩, k.size, fun t q n v xs o => ownsRow_keep o k (fun _ _ e => e)⟩
theorem D8.put (x : D8 w u N sh mp g bp d m gf dur h) {u' : World} {h' : List Rc} (k : Kp (SW sh mp g m gf) u u') (s : Shf u' (fun x => N ≤ x) sh mp g bp d m gf 298 1 1 0 1 0 dur h') (hg : ∀ r ∈ h', GoodR r ∧ r.b.length ≤ 600) : D8 w u' N sh mp g bp d m gf dur h' ∧ Oks N u u' := by
  have z := x.z
  refine ⟨⟨s, x.k.trans k (fun b hb e => ?_), Nat.le_trans x.n k.size, x.z, hg⟩, k.size, fun t q n v xs o => ownsRow_keep o k (fun b hb e => ?_)⟩
  · rcases e with e | e | e | e | e <;> omega
  · have hb := (ownBlock_lt o hb).1
    rcases e with e | e | e | e | e
    · exact (x.s.aq m (Or.inl rfl)).1 (e ▸ hb)
    · exact (x.s.aq g (Or.inr (Or.inl rfl))).1 (e ▸ hb)
    · exact (x.s.aq gf (Or.inr (Or.inr rfl))).1 (e ▸ hb)
    · exact x.s.ap.2.1 (e ▸ hb)
    · exact x.s.ap.2.2 (e ▸ hb)
theorem D8.more (x : D8 w u N sh mp g bp d m gf dur h) {r : Rc} (hr : GoodR r ∧ r.b.length ≤ 600) : ∀ q ∈ h ++ [r], GoodR q ∧ q.b.length ≤ 600 := fun q hq => by
  rcases List.mem_append.1 hq with hq | hq
  · exact x.g q hq
  · rw [List.mem_singleton.1 hq]; exact hr
theorem D8.drop_none (x : D8 w u N sh mp g bp d m gf dur h) (bl ix : Nat) (hbl : bl ≤ 1152921504606846976) (hix : ix ≤ 1152921504606846976) (hn : h.length ≤ 5) (hno : (stS h).1 ⟨1, (bl : Int), (ix : Int)⟩ = none) :
    Calls Tryz.prog 22 #[.pointer (some ⟨sh, 0, none⟩), .int .i64 (bl : Int), .int .i64 (ix : Int)] u fun e9 u' => e9 = .returned (.int .i64 80) ∧ D8 w u' N sh mp g bp d m gf dur h ∧ Oks N u u' := by
  have hr := fits_small x.g (good2 hbl hix) hn
  refine (sdrop_ok x.s bl ix hbl hix (by omega) hr.1 hr.2).mono ?_
  rintro e9 u' (⟨_, rfl, k⟩ | ⟨⟨o, ho⟩, _⟩)
  · exact ⟨rfl, x.keep0 k⟩
  · rw [hno] at ho; cases ho
theorem D8.drop_some (x : D8 w u N sh mp g bp d m gf dur h) (bl ix : Nat) (hbl : bl ≤ 1152921504606846976) (hix : ix ≤ 1152921504606846976) (hn : h.length ≤ 5) {o : Rc} (ho : (stS h).1 ⟨1, (bl : Int), (ix : Int)⟩ = some o) :
    Calls Tryz.prog 22 #[.pointer (some ⟨sh, 0, none⟩), .int .i64 (bl : Int), .int .i64 (ix : Int)] u fun e9 u' => e9 = .returned (.int .i64 0) ∧ D8 w u' N sh mp g bp d m gf dur (h ++ [⟨2, bl, ix, 0, []⟩]) ∧ Oks N u u' := by
  have hr := fits_small x.g (good2 hbl hix) hn
  refine (sdrop_ok x.s bl ix hbl hix (by omega) hr.1 hr.2).mono ?_
  rintro e9 u' (⟨hno, _⟩ | ⟨_, rfl, k, s⟩)
  · rw [hno] at ho; cases ho
  · exact ⟨rfl, x.put k s (x.more (good2 hbl hix))⟩
theorem D8.fence (x : D8 w u N sh mp g bp d m gf dur h) (bl ix ep : Nat) (hbl : bl ≤ 1152921504606846976) (hix : ix ≤ 1152921504606846976) (hep : ep ≤ 1152921504606846976) (hn : h.length ≤ 5) (hf : fncd h bl ix < ep) :
    Calls Tryz.prog 15 #[.pointer (some ⟨sh, 0, none⟩), .int .i64 (bl : Int), .int .i64 (ix : Int), .int .i64 (ep : Int)] u fun e9 u' => e9 = .returned (.int .i64 0) ∧ D8 w u' N sh mp g bp d m gf dur (h ++ [⟨3, bl, ix, ep, []⟩]) ∧ Oks N u u' := by
  have hr := fits_small x.g (good3 hbl hix hep) hn
  refine (sfence_new x.s bl ix ep hbl hix hep hf (by omega) hr.1 hr.2).mono ?_
  rintro e9 u' ⟨rfl, k, s⟩
  exact ⟨rfl, x.put k s (x.more (good3 hbl hix hep))⟩
theorem D8.store_new (x : D8 w u N sh mp g bp d m gf dur h) (bl ix ep : Nat) (hbl : bl ≤ 1152921504606846976) (hix : ix ≤ 1152921504606846976) (hep : ep ≤ 1152921504606846976) (hn : h.length ≤ 5) {base : Nat} {v : Value} {xs : List Nat} (hv : Ow u base v xs) (hx1 : 1 ≤ xs.length ∧ xs.length ≤ 600) (hxb : ∀ v ∈ xs, v < 256)
    (hf : fncd h bl ix ≤ ep) (hno : (stS h).1 ⟨1, (bl : Int), (ix : Int)⟩ = none) :
    Calls Tryz.prog 14 #[.pointer (some ⟨sh, 0, none⟩), .int .i64 (bl : Int), .int .i64 (ix : Int), .int .i64 (ep : Int), v] u fun e9 u' => e9 = .returned (.int .i64 0) ∧ D8 w u' N sh mp g bp d m gf dur (h ++ [⟨1, bl, ix, 0, xs⟩]) ∧ Oks N u u' := by
  have hg := good1 (xs := xs) hbl hix hxb hx1.2
  have hr := fits_small x.g hg hn
  obtain ⟨p, c, rfl, _, hb, _⟩ := hv.rb hxb
  refine (sstore_ok x.s bl ix ep hbl hix hep p xs.length c xs hb rfl (by omega) hxb (fun v hv => Nat.le_trans x.n hv) (by omega) hr.1 hr.2).mono ?_
  rintro e9 u' (⟨h1, _⟩ | ⟨_, _, rfl, k, s⟩ | ⟨_, o, ho, _⟩)
  · omega
  · exact ⟨rfl, x.put k s (x.more hg)⟩
  · rw [hno] at ho; cases ho
theorem D8.store_low (x : D8 w u N sh mp g bp d m gf dur h) (bl ix ep : Nat) (hbl : bl ≤ 1152921504606846976) (hix : ix ≤ 1152921504606846976) (hep : ep ≤ 1152921504606846976) (hn : h.length ≤ 5) {base : Nat} {v : Value} {xs : List Nat} (hv : Ow u base v xs) (hx1 : 1 ≤ xs.length ∧ xs.length ≤ 600) (hxb : ∀ v ∈ xs, v < 256)
    (hf : ep < fncd h bl ix) :
    Calls Tryz.prog 14 #[.pointer (some ⟨sh, 0, none⟩), .int .i64 (bl : Int), .int .i64 (ix : Int), .int .i64 (ep : Int), v] u fun e9 u' => e9 = .returned (.int .i64 81) ∧ D8 w u' N sh mp g bp d m gf dur h ∧ Oks N u u' := by
  have hg := good1 (xs := xs) hbl hix hxb hx1.2
  have hr := fits_small x.g hg hn
  obtain ⟨p, c, rfl, _, hb, _⟩ := hv.rb hxb
  refine (sstore_ok x.s bl ix ep hbl hix hep p xs.length c xs hb rfl (by omega) hxb (fun v hv => Nat.le_trans x.n hv) (by omega) hr.1 hr.2).mono ?_
  rintro e9 u' (⟨_, rfl, k⟩ | ⟨h1, _⟩ | ⟨h1, _⟩)
  · exact ⟨rfl, x.keep0 k⟩
  · omega
  · omega
theorem D8.store_there (x : D8 w u N sh mp g bp d m gf dur h) (bl ix ep : Nat) (hbl : bl ≤ 1152921504606846976) (hix : ix ≤ 1152921504606846976) (hep : ep ≤ 1152921504606846976) (hn : h.length ≤ 5) {base : Nat} {v : Value} {xs : List Nat} (hv : Ow u base v xs) (hx1 : 1 ≤ xs.length ∧ xs.length ≤ 600) (hxb : ∀ v ∈ xs, v < 256)
    (hf : fncd h bl ix ≤ ep) {o : Rc} (ho : (stS h).1 ⟨1, (bl : Int), (ix : Int)⟩ = some o) :
    Calls Tryz.prog 14 #[.pointer (some ⟨sh, 0, none⟩), .int .i64 (bl : Int), .int .i64 (ix : Int), .int .i64 (ep : Int), v] u fun e9 u' => e9 = .returned (.int .i64 (if o.b = xs then 0 else 82)) ∧ D8 w u' N sh mp g bp d m gf dur h ∧ Oks N u u' := by
  have hg := good1 (xs := xs) hbl hix hxb hx1.2
  have hr := fits_small x.g hg hn
  obtain ⟨p, c, rfl, _, hb, _⟩ := hv.rb hxb
  refine (sstore_ok x.s bl ix ep hbl hix hep p xs.length c xs hb rfl (by omega) hxb (fun v hv => Nat.le_trans x.n hv) (by omega) hr.1 hr.2).mono ?_
  rintro e9 u' (⟨h1, _⟩ | ⟨_, h1, _⟩ | ⟨_, o', h1, rfl, k⟩)
  · omega
  · rw [h1] at ho; cases ho
  · rw [ho] at h1
    cases h1
    exact ⟨rfl, x.keep0 k⟩
theorem D8.fetch_low (x : D8 w u N sh mp g bp d m gf dur h) (bl ix ep : Nat) (hbl : bl ≤ 1152921504606846976) (hix : ix ≤ 1152921504606846976) (hep : ep ≤ 1152921504606846976) (hf : ep < fncd h bl ix) :
    Calls Tryz.prog 17 #[.pointer (some ⟨sh, 0, none⟩), .int .i64 (bl : Int), .int .i64 (ix : Int), .int .i64 (ep : Int)] u fun e9 u' => e9 = .returned (.tuple #[.slice none 0 0, .int .i64 81]) ∧ D8 w u' N sh mp g bp d m gf dur h ∧ Oks N u u' := by
  refine (sfetch_ok x.s bl ix ep hbl hix hep).mono ?_
  rintro e9 u' ⟨k, ⟨_, rfl⟩ | ⟨h1, _⟩ | ⟨h1, _⟩⟩
  · exact ⟨rfl, x.keep0 k⟩
  · omega
  · omega
theorem D8.fetch_none (x : D8 w u N sh mp g bp d m gf dur h) (bl ix ep : Nat) (hbl : bl ≤ 1152921504606846976) (hix : ix ≤ 1152921504606846976) (hep : ep ≤ 1152921504606846976) (hf : fncd h bl ix ≤ ep) (hno : (stS h).1 ⟨1, (bl : Int), (ix : Int)⟩ = none) :
    Calls Tryz.prog 17 #[.pointer (some ⟨sh, 0, none⟩), .int .i64 (bl : Int), .int .i64 (ix : Int), .int .i64 (ep : Int)] u fun e9 u' => e9 = .returned (.tuple #[.slice none 0 0, .int .i64 80]) ∧ D8 w u' N sh mp g bp d m gf dur h ∧ Oks N u u' := by
  refine (sfetch_ok x.s bl ix ep hbl hix hep).mono ?_
  rintro e9 u' ⟨k, ⟨h1, _⟩ | ⟨_, _, rfl⟩ | ⟨_, o, v, ho, _⟩⟩
  · omega
  · exact ⟨rfl, x.keep0 k⟩
  · rw [hno] at ho; cases ho
theorem D8.fetch_some (x : D8 w u N sh mp g bp d m gf dur h) (bl ix ep : Nat) (hbl : bl ≤ 1152921504606846976) (hix : ix ≤ 1152921504606846976) (hep : ep ≤ 1152921504606846976) (hf : fncd h bl ix ≤ ep) {o : Rc} (ho : (stS h).1 ⟨1, (bl : Int), (ix : Int)⟩ = some o) :
    Calls Tryz.prog 17 #[.pointer (some ⟨sh, 0, none⟩), .int .i64 (bl : Int), .int .i64 (ix : Int), .int .i64 (ep : Int)] u fun e9 u' => ∃ v, e9 = .returned (.tuple #[v, .int .i64 0]) ∧ Ow u' N v o.b ∧ D8 w u' N sh mp g bp d m gf dur h ∧ Oks N u u' := by
  refine (sfetch_ok x.s bl ix ep hbl hix hep).mono ?_
  rintro e9 u' ⟨k, ⟨h1, _⟩ | ⟨_, h1, _⟩ | ⟨_, o', v, h1, rfl, ow⟩⟩
  · omega
  · rw [h1] at ho; cases ho
  · rw [ho] at h1
    cases h1
    exact ⟨v, rfl, ownsRow_base ow x.n, x.keep0 k⟩
theorem sfence_same {Z : Nat → Prop} {s a b c e y : Nat} (x : Shf u Z sh mp g bp d m gf s a b c e y dur h) (bl ix ep : Nat) (hbl : bl ≤ 1152921504606846976) (hix : ix ≤ 1152921504606846976) (hep : ep ≤ 1152921504606846976) (hf : ep ≤ fncd h bl ix) :
    Calls Tryz.prog 15 #[.pointer (some ⟨sh, 0, none⟩), .int .i64 (bl : Int), .int .i64 (ix : Int), .int .i64 (ep : Int)] u fun e9 w' => e9 = .returned (.int .i64 0) ∧ Kp (fun _ => False) u w' := by
  obtain ⟨r0, hr0⟩ : ∃ r0, r0 = u.heap.size := ⟨_, rfl⟩
  obtain ⟨w0, hw0⟩ : ∃ y, y = u.alloc (.cells #[.int .i64 (bl : Int), .int .i64 (ix : Int), .int .i64 (ep : Int)] 3) := ⟨_, rfl⟩
  have HK0 : Hid (Kp (fun _ => False) u w0) := by rw [hw0]; exact (Kp.refl _ _).alloc _
  have HS0 : Hid (Shf w0 Z sh mp g bp d m gf s a b c e y dur h) := x.keep0 HK0.out
  have HA : Hid (Calls Tryz.prog 44 #[.pointer (some ⟨sh, 0, none⟩), .slice (some ⟨r0, 0, none⟩) 3 3] w0 fun e w' => e = .returned (.int .i64 0) ∧ w' = w0) := by
    have h1 := asked_ok (HS0.out.sk.l.cell (j := 0) rfl) (some ⟨r0, 0, none⟩) 3 3 [(bl : Int), (ix : Int), (ep : Int)] (by rw [hw0, hr0]; exact rz3 u _ _ _ _) rfl (by omega)
    rw [upTo3 hbl hix hep] at h1
    exact h1
  have HFe : Hid (Calls _ _ _ w0 _) := fenced_ok HS0.out.sk bl ix hbl hix
  obtain ⟨F, hF⟩ : ∃ F, F = fncd h bl ix := ⟨_, rfl⟩
  rw [← hF] at HFe hf
  have hle : (ep : Int) ≤ (F : Int) := by omega
  clear x hbl hix hep hf hF
  go_enter Tryz.func15, Tryz.ntmps15
  go_wp2_with fail
  rw [← hw0, ← hr0]
  clear hw0 hr0
  refine HA.out.mono ?_
  rintro e9 w9 ⟨rfl, hw9⟩
  have hw8 := hw9.symm
  subst hw8
  clear hw9 HA
  go_wp2_with fail
  refine HFe.out.mono ?_
  rintro e9 w9 ⟨rfl, hw9⟩
  have hw8 := hw9.symm
  subst hw8
  clear hw9 HFe
  go_wp2
  go_ret
  exact ⟨rfl, HK0.out⟩
theorem D8.fence_any (x : D8 w u N sh mp g bp d m gf dur h) (bl ix ep : Nat) (hbl : bl ≤ 1152921504606846976) (hix : ix ≤ 1152921504606846976) (hep : ep ≤ 1152921504606846976) (hn : h.length ≤ 5) (hf : fncd h bl ix ≤ ep) :
    Calls Tryz.prog 15 #[.pointer (some ⟨sh, 0, none⟩), .int .i64 (bl : Int), .int .i64 (ix : Int), .int .i64 (ep : Int)] u fun e9 u' => e9 = .returned (.int .i64 0) ∧ Oks N u u' ∧ ∃ h', D8 w u' N sh mp g bp d m gf dur h' ∧ h'.length ≤ h.length + 1 ∧ fncd h' bl ix = ep ∧ ∀ b i : Int, (stS h').1 ⟨1, b, i⟩ = (stS h).1 ⟨1, b, i⟩ := by
  by_cases h1 : fncd h bl ix < ep
  · refine (x.fence bl ix ep hbl hix hep hn h1).mono ?_
    rintro e9 u' ⟨rfl, x', o⟩
    have h2 := stS_fence h bl ix ep (by omega)
    exact ⟨rfl, o, _, x', by simp, h2.1, h2.2⟩
  · refine (sfence_same x.s bl ix ep hbl hix hep (by omega)).mono ?_
    rintro e9 u' ⟨rfl, k⟩
    have h2 := x.keep0 k
    exact ⟨rfl, h2.2, h, h2.1, by omega, by omega, fun _ _ => rfl⟩
theorem D8.fenced (x : D8 w u N sh mp g bp d m gf dur h) (bl ix : Nat) (hbl : bl ≤ 1152921504606846976) (hix : ix ≤ 1152921504606846976) :
    Calls Tryz.prog 19 #[.pointer (some ⟨sh, 0, none⟩), .int .i64 (bl : Int), .int .i64 (ix : Int)] u fun e9 u' => e9 = .returned (.int .i64 (fncd h bl ix : Int)) ∧ u' = u := fenced_ok x.s.sk bl ix hbl hix
/-- two of one's own, held against each other -/
theorem eq_own {u : World} {b1 b2 : Nat} {v1 v2 : Value} {xs ys : List Nat} (h1 : Ow u b1 v1 xs) (h2 : Ow u b2 v2 ys) (hx : ∀ x ∈ xs, x < 256) (hy : ∀ x ∈ ys, x < 256) :
    Calls Tryz.prog 20 #[v1, v2] u fun e u' => e = .returned (.bool (decide (xs = ys))) ∧ u' = u := by
  obtain ⟨p, c, rfl, _, r1, _⟩ := h1.rb hx
  obtain ⟨q, d, rfl, _, r2, _⟩ := h2.rb hy
  exact equal_any c d u r1 r2
end
end Go.Proofs.YtmooddbhcccicaaGreatDoor

/- A shelf's Store, Drop, Sync, whatever is asked. -/
namespace Go.Proofs.YtmooddbhcccicaaGreatDoor
set_option linter.unusedVariables false
set_option linter.unusedSimpArgs false
open Go.RowKit Go.Deep Go.Maps

theorem secS_3 {b i : Nat} {xs : List Nat} (hb : b ≤ 1152921504606846976) (hi : i ≤ 1152921504606846976) (hx : xs.length ≤ 100) : secS ⟨1, b, i, 0, xs⟩ ≤ 3 := by
  have h1 := numB_len hb
  have h2 := numB_len hi
  have h3 : (wrS ⟨1, b, i, 0, xs⟩).length ≤ 119 := by
    unfold wrS
    simp only [if_neg (show ¬ (1 : Nat) = 4 by decide), if_neg (show ¬ (1 : Nat) = 3 by decide), List.length_append, List.length_cons, List.length_nil]
    omega
  unfold secS needW
  omega
theorem secS_d {b i : Nat} (hb : b ≤ 1152921504606846976) (hi : i ≤ 1152921504606846976) : secS ⟨2, b, i, 0, []⟩ ≤ 3 := by
  have h1 := numB_len hb
  have h2 := numB_len hi
  have h3 : (wrS ⟨2, b, i, 0, []⟩).length ≤ 19 := by
    unfold wrS
    simp only [if_neg (show ¬ (2 : Nat) = 4 by decide), if_neg (show ¬ (2 : Nat) = 3 by decide), List.length_append, List.length_cons, List.length_nil]
    omega
  unfold secS needW
  omega
/-- records that take three sectors at most -/
def Sm (h : List Rc) : Prop := ∀ r ∈ h, Cn r ∧ secS r ≤ 3 ∧ (r.k = 2 ∨ 1 ≤ r.b.length)
theorem Sm.tot : ∀ {h : List Rc}, Sm h → totW (h.map wrS) ≤ 3 * h.length
  | [], _ => Nat.le_refl _
  | r :: l, h => by
    have h1 := (h r List.mem_cons_self).2.1
    have h2 := Sm.tot (h := l) (fun x hx => h x (List.mem_cons_of_mem _ hx))
    show secS r + totW (l.map wrS) ≤ 3 * (l.length + 1)
    omega
theorem Sm.fits {h : List Rc} {r : Rc} (hs : Sm h) (hr : secS r ≤ 3) (hn : h.length ≤ 45) : 2 * (secS r : Int) + (stS h).2 + (totW (h.map wrS) : Int) ≤ ((298 : Nat) : Int) ∧ totW (h.map wrS) + secS r ≤ 298 := by
  have h2 := hs.tot
  have h3 := stS_le h
  omega
theorem Sm.snoc {h : List Rc} {r : Rc} (hs : Sm h) (hc : Cn r) (hr : secS r ≤ 3) (hk : r.k = 2 ∨ 1 ≤ r.b.length) : Sm (h ++ [r]) := fun x hx => by
  rcases List.mem_append.1 hx with hx | hx
  · exact hs x hx
  · rw [List.mem_singleton.1 hx]; exact ⟨hc, hr, hk⟩
theorem cn1 {b i : Nat} {xs : List Nat} (hb : b ≤ 1152921504606846976) (hi : i ≤ 1152921504606846976) (hx : ∀ x ∈ xs, x < 256) (hl : xs.length ≤ 100) (h1 : 1 ≤ xs.length) : Cn ⟨1, b, i, 0, xs⟩ :=
  ⟨(good1 hb hi hx (by omega)).1, fun h => absurd (show 1 = 4 from h) (by decide), fun _ => rfl, fun _ => h1⟩
theorem cn2 {b i : Nat} (hb : b ≤ 1152921504606846976) (hi : i ≤ 1152921504606846976) : Cn ⟨2, b, i, 0, []⟩ :=
  ⟨(good2 hb hi).1, fun h => absurd (show 2 = 4 from h) (by decide), fun _ => rfl, fun h => absurd (show 2 = 1 from h) (by decide)⟩
theorem upTo_nat {z : Int} (h : upTo 1152921504606846976 [z] = true) : ∃ n : Nat, z = (n : Int) ∧ n ≤ 1152921504606846976 := by
  unfold upTo at h
  simp at h
  exact ⟨z.toNat, by omega, by omega⟩

section
variable {w : World} {Z : Nat → Prop} {sh mp g bp d m gf a b c e y : Nat} {dur : List Nat} {h : List Rc}
/-- what Store and Drop come to, whatever is asked -/
def Put8 (w w' : World) (Z : Nat → Prop) (sh mp g bp d m gf a b c e y : Nat) (dur : List Nat) (h : List Rc) : Prop := Kp (SW sh mp g m gf) w w' ∧ ∃ h', (h' = h ∨ ∃ r, Cn r ∧ secS r ≤ 3 ∧ (r.k = 2 ∨ 1 ≤ r.b.length) ∧ h' = h ++ [r]) ∧ Shf w' Z sh mp g bp d m gf 298 a b c e y dur h'
set_option maxRecDepth 100000 in
set_option maxHeartbeats 1600000 in
theorem sstore_any (x : Shf w Z sh mp g bp d m gf 298 a b c e y dur h) (hs : Sm h) (hn : h.length ≤ 45) (z0 z1 z2 : Int) (p : Option Addr) (n cp : Nat) (xs : List Nat) (hr : Rb w p n xs) (hn1 : n ≤ 100) (hZ : ∀ v, w.heap.size ≤ v → Z v) :
    Calls Tryz.prog 14 #[.pointer (some ⟨sh, 0, none⟩), .int .i64 z0, .int .i64 z1, .int .i64 z2, .slice p n cp] w fun e9 w' => (∃ q, e9 = .returned (.int .i64 q)) ∧ Put8 w w' Z sh mp g bp d m gf a b c e y dur h := by
  have hrl := hr.len
  by_cases hu : upTo 1152921504606846976 [z0, z1, z2] = true
  · by_cases h1 : 1 ≤ n
    · have hu2 : (0 ≤ z0 ∧ z0 ≤ 1152921504606846976) ∧ (0 ≤ z1 ∧ z1 ≤ 1152921504606846976) ∧ (0 ≤ z2 ∧ z2 ≤ 1152921504606846976) := by
        unfold upTo at hu
        simp at hu
        omega
      obtain ⟨bl, rfl⟩ : ∃ bl : Nat, z0 = (bl : Int) := ⟨z0.toNat, by omega⟩
      obtain ⟨ix, rfl⟩ : ∃ bl : Nat, z1 = (bl : Int) := ⟨z1.toNat, by omega⟩
      obtain ⟨ep, rfl⟩ : ∃ bl : Nat, z2 = (bl : Int) := ⟨z2.toNat, by omega⟩
      have hbl : bl ≤ 1152921504606846976 := by omega
      have hix : ix ≤ 1152921504606846976 := by omega
      have hcn := cn1 hbl hix hr.byte (by omega) (by omega)
      have hse := secS_3 (xs := xs) hbl hix (by omega)
      have hf := hs.fits hse hn
      refine (sstore_ok x bl ix ep hbl hix (by omega) p n cp xs hr (by omega) ⟨h1, by omega⟩ hr.byte hZ (by omega) hf.1 hf.2).mono ?_
      rintro e9 w' (⟨_, rfl, k⟩ | ⟨_, _, rfl, k, s⟩ | ⟨_, o, _, rfl, k⟩)
      · exact ⟨⟨_, rfl⟩, k.mono (fun _ _ e => e.elim), h, Or.inl rfl, x.keep0 k⟩
      · exact ⟨⟨_, rfl⟩, k, _, Or.inr ⟨_, hcn, hse, Or.inr (show 1 ≤ xs.length by omega), rfl⟩, s⟩
      · exact ⟨⟨_, rfl⟩, k.mono (fun _ _ e => e.elim), h, Or.inl rfl, x.keep0 k⟩
    · have hn0 : n = 0 := by omega
      subst hn0
      obtain ⟨r0, hr0⟩ : ∃ r0, r0 = w.heap.size := ⟨_, rfl⟩
      obtain ⟨w0, hw0⟩ : ∃ y, y = w.alloc (.cells #[.int .i64 z0, .int .i64 z1, .int .i64 z2] 3) := ⟨_, rfl⟩
      have HK0 : Hid (Kp (fun _ => False) w w0) := by rw [hw0]; exact (Kp.refl _ _).alloc _
      have HS0 : Hid (Shf w0 Z sh mp g bp d m gf 298 a b c e y dur h) := x.keep0 HK0.out
      have HA : Hid (Calls Tryz.prog 44 #[.pointer (some ⟨sh, 0, none⟩), .slice (some ⟨r0, 0, none⟩) 3 3] w0 fun e w' => e = .returned (.int .i64 0) ∧ w' = w0) := by
        have h1 := asked_ok (HS0.out.sk.l.cell (j := 0) rfl) (some ⟨r0, 0, none⟩) 3 3 [z0, z1, z2] (by rw [hw0, hr0]; exact rz3 w _ _ _ _) rfl (by omega)
        rw [hu, if_pos rfl] at h1
        exact h1
      have HF : Hid (Put8 w w0 Z sh mp g bp d m gf a b c e y dur h) := ⟨HK0.out.mono (fun _ _ e => e.elim), h, Or.inl rfl, HS0.out⟩
      clear x hs hn hr hrl h1 hZ hn1 hu HK0 HS0
      go_enter Tryz.func14, Tryz.ntmps14
      go_wp2_with fail
      rw [← hw0, ← hr0]
      clear hw0 hr0
      refine HA.out.mono ?_
      rintro e9 w9 ⟨rfl, hw9⟩
      have hw8 := hw9.symm
      subst hw8
      clear hw9 HA
      go_wp2
      go_ret
      exact ⟨⟨_, rfl⟩, HF.out⟩
  · obtain ⟨r0, hr0⟩ : ∃ r0, r0 = w.heap.size := ⟨_, rfl⟩
    obtain ⟨w0, hw0⟩ : ∃ y, y = w.alloc (.cells #[.int .i64 z0, .int .i64 z1, .int .i64 z2] 3) := ⟨_, rfl⟩
    have HK0 : Hid (Kp (fun _ => False) w w0) := by rw [hw0]; exact (Kp.refl _ _).alloc _
    have HS0 : Hid (Shf w0 Z sh mp g bp d m gf 298 a b c e y dur h) := x.keep0 HK0.out
    have HA : Hid (Calls Tryz.prog 44 #[.pointer (some ⟨sh, 0, none⟩), .slice (some ⟨r0, 0, none⟩) 3 3] w0 fun e w' => e = .returned (.int .i64 1) ∧ w' = w0) := by
      have h1 := asked_ok (HS0.out.sk.l.cell (j := 0) rfl) (some ⟨r0, 0, none⟩) 3 3 [z0, z1, z2] (by rw [hw0, hr0]; exact rz3 w _ _ _ _) rfl (by omega)
      rw [if_neg hu] at h1
      exact h1
    have HF : Hid (Put8 w w0 Z sh mp g bp d m gf a b c e y dur h) := ⟨HK0.out.mono (fun _ _ e => e.elim), h, Or.inl rfl, HS0.out⟩
    clear x hs hn hr hrl hZ hn1 hu HK0 HS0
    go_enter Tryz.func14, Tryz.ntmps14
    go_wp2_with fail
    rw [← hw0, ← hr0]
    clear hw0 hr0
    refine HA.out.mono ?_
    rintro e9 w9 ⟨rfl, hw9⟩
    have hw8 := hw9.symm
    subst hw8
    clear hw9 HA
    go_wp2
    go_ret
    exact ⟨⟨_, rfl⟩, HF.out⟩
set_option maxRecDepth 100000 in
set_option maxHeartbeats 1600000 in
theorem sdrop_any (x : Shf w Z sh mp g bp d m gf 298 a b c e y dur h) (hs : Sm h) (hn : h.length ≤ 45) (z0 z1 : Int) :
    Calls Tryz.prog 22 #[.pointer (some ⟨sh, 0, none⟩), .int .i64 z0, .int .i64 z1] w fun e9 w' => (∃ q, e9 = .returned (.int .i64 q)) ∧ Put8 w w' Z sh mp g bp d m gf a b c e y dur h := by
  by_cases hu : upTo 1152921504606846976 [z0, z1] = true
  · have hu2 : (0 ≤ z0 ∧ z0 ≤ 1152921504606846976) ∧ (0 ≤ z1 ∧ z1 ≤ 1152921504606846976) := by
      unfold upTo at hu
      simp at hu
      omega
    obtain ⟨bl, rfl⟩ : ∃ bl : Nat, z0 = (bl : Int) := ⟨z0.toNat, by omega⟩
    obtain ⟨ix, rfl⟩ : ∃ bl : Nat, z1 = (bl : Int) := ⟨z1.toNat, by omega⟩
    have hbl : bl ≤ 1152921504606846976 := by omega
    have hix : ix ≤ 1152921504606846976 := by omega
    have hcn := cn2 hbl hix
    have hse := secS_d hbl hix
    have hf := hs.fits hse hn
    refine (sdrop_ok x bl ix hbl hix (by omega) hf.1 hf.2).mono ?_
    rintro e9 w' (⟨_, rfl, k⟩ | ⟨_, rfl, k, s⟩)
    · exact ⟨⟨_, rfl⟩, k.mono (fun _ _ e => e.elim), h, Or.inl rfl, x.keep0 k⟩
    · exact ⟨⟨_, rfl⟩, k, _, Or.inr ⟨_, hcn, hse, Or.inl rfl, rfl⟩, s⟩
  · obtain ⟨r0, hr0⟩ : ∃ r0, r0 = w.heap.size := ⟨_, rfl⟩
    obtain ⟨w0, hw0⟩ : ∃ y, y = w.alloc (.cells #[.int .i64 z0, .int .i64 z1] 3) := ⟨_, rfl⟩
    have HK0 : Hid (Kp (fun _ => False) w w0) := by rw [hw0]; exact (Kp.refl _ _).alloc _
    have HS0 : Hid (Shf w0 Z sh mp g bp d m gf 298 a b c e y dur h) := x.keep0 HK0.out
    have HA : Hid (Calls Tryz.prog 44 #[.pointer (some ⟨sh, 0, none⟩), .slice (some ⟨r0, 0, none⟩) 2 2] w0 fun e w' => e = .returned (.int .i64 1) ∧ w' = w0) := by
      have h1 := asked_ok (HS0.out.sk.l.cell (j := 0) rfl) (some ⟨r0, 0, none⟩) 2 2 [z0, z1] (by rw [hw0, hr0]; exact rz2 w _ _ _) rfl (by omega)
      rw [if_neg hu] at h1
      exact h1
    have HF : Hid (Put8 w w0 Z sh mp g bp d m gf a b c e y dur h) := ⟨HK0.out.mono (fun _ _ e => e.elim), h, Or.inl rfl, HS0.out⟩
    clear x hs hn hu HK0 HS0
    go_enter Tryz.func22, Tryz.ntmps22
    go_wp2_with fail
    rw [← hw0, ← hr0]
    clear hw0 hr0
    refine HA.out.mono ?_
    rintro e9 w9 ⟨rfl, hw9⟩
    have hw8 := hw9.symm
    subst hw8
    clear hw9 HA
    go_wp2
    go_ret
    exact ⟨⟨_, rfl⟩, HF.out⟩
set_option maxRecDepth 100000 in
set_option maxHeartbeats 1600000 in
theorem ssync_ok {s : Nat} (x : Shf w Z sh mp g bp d m gf s a b c e y dur h) (hdz : ¬ Z d ∧ d ≠ g ∧ d ≠ gf) :
    Calls Tryz.prog 21 #[.pointer (some ⟨sh, 0, none⟩)] w fun e9 w' => e9 = .returned (.int .i64 0) ∧ Kp (fun b => b = d ∨ b = m) w w' ∧ ∃ dur', Shf w' Z sh mp g bp d m gf s a b c e h.length dur' h := by
  obtain ⟨q, lt, T, hl⟩ := x.lg
  have c0 : w.cell? ⟨sh, 0, none⟩ = some (.pointer (some ⟨g, 0, none⟩)) := x.sk.l.cell (j := 0) rfl
  have HM : Hid (Calls _ _ _ w _) := smade_ok c0
  have HL : Hid (Calls _ _ _ w _) := lg_sync hl
  have HF : Hid (∀ w', Kp (fun b => b = d ∨ b = m) w w' → Lg w' g bp d m gf s 0 a b c e lt (h.map wrS).length (h.map wrS) (durAll dur T (2 + s)) (fun _ => none) → ∃ dur', Shf w' Z sh mp g bp d m gf s a b c e h.length dur' h) := fun w' k l => by
    rw [List.length_map] at l
    have hm := x.aq m (Or.inl rfl)
    refine ⟨_, ⟨0, _, _, l⟩, x.sk.keep k (fun e => ?_) (fun e => ?_) (fun b hb e => ?_), ?_, x.ap, x.aq, x.ar, x.at_⟩
    · rcases e with e | e
      · exact x.ar.2.2.1 e.symm
      · exact hm.2.1 e.symm
    · rcases e with e | e
      · exact x.ar.2.2.2 e.symm
      · exact hm.2.2 e.symm
    · rcases e with e | e
      · exact hdz.1 (e ▸ hb)
      · exact hm.1 (e ▸ hb)
    · exact fun j hj => k.cellv (x.tu j hj) (fun e => by
        rcases e with e | e
        · exact hl.lp.td e
        · exact hl.lp.tm e)
  clear x hl hdz
  go_enter Tryz.func21, Tryz.ntmps21
  go_wp2_with fail
  refine HM.out.mono ?_
  rintro e9 w9 ⟨rfl, hw9⟩
  have hw8 := hw9.symm
  subst hw8
  clear hw9 HM
  go_wp2_with fail
  refine HL.out.mono ?_
  rintro e9 w9 ⟨rfl, k9, l9⟩
  have HE : Hid (Kp (fun b => b = d ∨ b = m) _ w9 ∧ _) := ⟨k9, HF.out w9 k9 l9⟩
  clear k9 l9 HL HF
  go_wp2
  go_ret
  exact ⟨rfl, HE.out.1, HE.out.2⟩
/-- the records' bytes lie in blocks that are there -/
theorem Sk.zb {w : World} {Z : Nat → Prop} {sh mp g : Nat} {h : List Rc} (x : Sk w Z sh mp g h) (hs : Sm h) : Sk w (fun b => Z b ∧ b < w.heap.size) sh mp g h := by
  obtain ⟨c, T, h1, h2, h3⟩ := x.m
  refine ⟨x.l, ⟨c, T, h1, h2, fun y hw => ⟨(h3 y hw).1, fun o ho => ?_⟩⟩, x.g, x.n⟩
  obtain ⟨p, cp, e, hr, hz⟩ := (h3 y hw).2 o ho
  refine ⟨p, cp, e, hr, fun a ha => ⟨hz a ha, ?_⟩⟩
  have hm := (stS_bd x.g x.n).2.2 y o ho
  have hst := (stS_sub h y o ho).2
  have h1 : 1 ≤ o.b.length := by
    rcases (hs o hm).2.2 with e2 | e2
    · rw [show staysS o = false by unfold staysS; simp [e2]] at hst
      cases hst
    · exact e2
  obtain ⟨b, o', e3, hb⟩ := hr.pt h1
  rw [ha] at e3
  cases e3
  exact World.block_lt_of_cell? _ _ (hb 0 h1)
theorem Sk.zm {w : World} {Z Z' : Nat → Prop} {sh mp g : Nat} {h : List Rc} (x : Sk w Z sh mp g h) (hz : ∀ b, Z b → Z' b) : Sk w Z' sh mp g h := by
  obtain ⟨c, T, h1, h2, h3⟩ := x.m
  exact ⟨x.l, ⟨c, T, h1, h2, fun y hw => ⟨(h3 y hw).1, fun o ho => by
    obtain ⟨p, cp, e, hr, hq⟩ := (h3 y hw).2 o ho
    exact ⟨p, cp, e, hr, fun a ha => hz _ (hq a ha)⟩⟩⟩, x.g, x.n⟩
end
end Go.Proofs.YtmooddbhcccicaaGreatDoor

/- What the rows' frames share: how bytes come in, as lists that the walks take. -/
namespace Go.Proofs.YtmooddbhcccicaaGreatDoor
open Go.ChangeShapes Go.WideShapes Go.ChangeAt Go.RowKit

theorem laidOut : laidOutB Tryz.prog = true := by kernel_rfl

theorem sized_bytes {H : Type} {ts : List TypeId} {ds : List (DataW H)} {j : Nat} {elems spare : List (DataW H)} (h : (DataW.weightsEach Tryz.prog ts ds).all (· ≤ reachBytes) = true) (ht : ts[j]? = some 34) (hd : ds[j]? = some (.slice elems spare)) :
    elems.length + spare.length ≤ 140737488355328 := by
  have hr : reachBytes ≤ 140737488355328 := by have := reachBytes_lt; omega
  have b2 : Tryz.prog.bytesOf 5 = 1 := by kernel_rfl
  have := sized_slice h ht hd Tryz.underlying34
  rw [b2] at this; omega

theorem rb_of_trod {H : Type} {enc : TypeId × Value → H} {W : World} {a : Option Addr} {len cap : Nat} {d : DataW H} {p : List MemPlace}
    (h : DataW.Trod enc Tryz.prog W 0 (fun _ => true) true 34 (.slice a len cap) d p)
    (hw : ∀ elems spare, d = .slice elems spare → elems.length + spare.length ≤ 140737488355328) : ∃ xs, Rb W a len xs ∧ len ≤ cap ∧ Hid (len ≤ 140737488355328) := by
  obtain ⟨fuel, hf⟩ := h
  rcases open_ints Tryz.underlying34 Tryz.underlying5 (by kernel_rfl) hf with ⟨hcs, _⟩ | ⟨x, l, c, zs, hcs, hxx, hl, hm, hz, hDx, hcell, hwz⟩
  · simp [Value.cells] at hcs
    obtain ⟨rfl, rfl, rfl⟩ := hcs
    exact ⟨[], Rb.nil _ _, Nat.le_refl _, Nat.zero_le _⟩
  · simp [Value.cells] at hcs
    obtain ⟨rfl, rfl, rfl⟩ := hcs
    have hz' : zs.length = cap := by simpa using hz
    have hd := (Prod.mk.inj hDx).1
    have hlen := hw _ _ hd
    simp only [lits, List.length_map, List.length_take, List.length_drop] at hlen
    refine ⟨(zs.take len).map Int.toNat, ⟨by rw [List.length_map, List.length_take]; omega, fun y hy => ?_, fun j hj => ?_⟩, hl, by show len ≤ _; omega⟩
    · obtain ⟨z, hzm, rfl⟩ := List.mem_map.1 hy
      have := bounds_u8 (hwz z (List.mem_of_mem_take hzm))
      omega
    · obtain ⟨b, off, spot⟩ := x
      have hc := hcell j (by omega)
      have hspot : spot = none := by
        have := World.cell?_spot (hcell 0 (by omega))
        simpa [Addr.add] using this
      subst hspot
      refine ⟨b, off, rfl, ?_⟩
      rw [show (⟨b, off, none⟩ : Addr).add j = ⟨b, off + j, none⟩ from by by_cases e : j = 0 <;> simp [Addr.add, e]] at hc
      rw [hc]
      have hj' : j < zs.length := by omega
      have e : zs.getD j 0 = zs[j] := by rw [List.getD_eq_getElem?_getD, List.getElem?_eq_getElem hj']; rfl
      have := bounds_u8 (hwz zs[j] (List.getElem_mem hj'))
      have e2 : ((zs.take len).map Int.toNat).getD j 0 = zs[j].toNat := by
        rw [List.getD_eq_getElem?_getD, List.getElem?_map, List.getElem?_take_of_lt (by omega), List.getElem?_eq_getElem hj']; rfl
      rw [e, e2, Int.toNat_of_nonneg this.1]
end Go.Proofs.YtmooddbhcccicaaGreatDoor
