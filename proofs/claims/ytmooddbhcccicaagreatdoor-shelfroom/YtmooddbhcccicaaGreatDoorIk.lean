/- A shelf: Drop. -/
import Derived.Test.YtmooddbhcccicaaGreatDoorIj
namespace Go.Proofs.YtmooddbhcccicaaGreatDoor
set_option linter.unusedVariables false
set_option linter.unusedSimpArgs false
open Go.RowKit Go.Deep Go.Maps

theorem rz2 (w : World) (x y : Int) (t : TypeId) : Rz (w.alloc (.cells #[.int .i64 x, .int .i64 y] t)) (some ⟨w.heap.size, 0, none⟩) [x, y] := fun j hj => by
  have hl := Lv.new w #[.int .i64 x, .int .i64 y] t
  refine ⟨w.heap.size, 0, rfl, ?_⟩
  rw [Nat.zero_add]
  match j, hj with
  | 0, _ => exact hl.cell (j := 0) rfl
  | 1, _ => exact hl.cell (j := 1) rfl
theorem upTo2 {x y : Nat} (hx : x ≤ 1152921504606846976) (hy : y ≤ 1152921504606846976) : upTo 1152921504606846976 [(x : Int), (y : Int)] = true := by
  unfold upTo
  simp
  omega
section
variable {w : World} {Z : Nat → Prop} {sh mp g bp d m gf s a b c e y : Nat} {dur : List Nat} {h : List Rc}
/-- what a stock's map answers -/
theorem Sk.look (x : Sk w Z sh mp g h) (t : K3) (hw : wf3 t) : ∃ (a1 a2 a3 a4 : Int) (qq : Option Addr) (nn cc : Nat) (ok : Bool), (∀ z, Kp (fun _ => False) w z → (Instr.lookup 88 (.map (some mp)) (pv3 t) true).run Tryz.prog z = .ok (.tuple #[.agg #[.int .i64 a1, .int .i64 a2, .int .i64 a3, .int .i64 a4, .slice qq nn cc], .bool ok]) z) ∧
    ((ok = false ∧ (stS h).1 t = none) ∨ (ok = true ∧ ∃ o, (stS h).1 t = some o ∧ a1 = (o.k : Int) ∧ a2 = (o.n : Int) ∧ a3 = (o.i : Int) ∧ a4 = (o.e : Int) ∧ nn = o.b.length ∧ Rb w qq o.b.length o.b ∧ GoodR o ∧ ∀ a, qq = some a → Z a.block)) := by
  obtain ⟨c, T, hc1, hc2, hc3⟩ := x.m
  have hlk : ∀ z, Kp (fun _ => False) w z → (Instr.lookup 88 (.map (some mp)) (pv3 t) true).run Tryz.prog z = .ok (.tuple #[(T t).getD zRec, .bool (T t).isSome]) z := fun z k => look_px3_ok Tryz.underlying88 zeroRec (hc2.keep k id) hw
  cases hM : (stS h).1 t with
  | none =>
    rw [(hc3 _ hw).1 hM] at hlk
    exact ⟨0, 0, 0, 0, none, 0, 0, false, hlk, Or.inl ⟨rfl, rfl⟩⟩
  | some o =>
    obtain ⟨p2, cp2, b1, b2, b3⟩ := (hc3 _ hw).2 o hM
    rw [b1] at hlk
    exact ⟨o.k, o.n, o.i, o.e, p2, o.b.length, cp2, true, hlk, Or.inr ⟨rfl, o, rfl, rfl, rfl, rfl, rfl, rfl, b2, x.g o ((stS_bd x.g x.n).2.2 _ _ hM), b3⟩⟩

set_option maxRecDepth 100000 in
set_option maxHeartbeats 3200000 in
theorem sdrop_ok (x : Shf w Z sh mp g bp d m gf s a b c e y dur h) (bl ix : Nat) (hbl : bl ≤ 1152921504606846976) (hix : ix ≤ 1152921504606846976) (hn : h.length + 1 ≤ 1000)
    (hroom : 2 * (secS ⟨2, bl, ix, 0, []⟩ : Int) + (stS h).2 + (totW (h.map wrS) : Int) ≤ (s : Int)) (hfit : totW (h.map wrS) + secS ⟨2, bl, ix, 0, []⟩ ≤ s) :
    Calls Tryz.prog 22 #[.pointer (some ⟨sh, 0, none⟩), .int .i64 (bl : Int), .int .i64 (ix : Int)] w fun e9 w' =>
      ((stS h).1 ⟨1, (bl : Int), (ix : Int)⟩ = none ∧ e9 = .returned (.int .i64 80) ∧ Kp (fun _ => False) w w') ∨
      ((∃ o, (stS h).1 ⟨1, (bl : Int), (ix : Int)⟩ = some o) ∧ e9 = .returned (.int .i64 0) ∧ Kp (SW sh mp g m gf) w w' ∧ Shf w' Z sh mp g bp d m gf s a b c e y dur (h ++ [⟨2, bl, ix, 0, []⟩])) := by
  obtain ⟨r0, hr0⟩ : ∃ r0, r0 = w.heap.size := ⟨_, rfl⟩
  obtain ⟨w0, hw0⟩ : ∃ y, y = w.alloc (.cells #[.int .i64 (bl : Int), .int .i64 (ix : Int)] 3) := ⟨_, rfl⟩
  have HK0 : Hid (Kp (fun _ => False) w w0) := by rw [hw0]; exact (Kp.refl _ _).alloc _
  have HS0 : Hid (Shf w0 Z sh mp g bp d m gf s a b c e y dur h) := x.keep0 HK0.out
  have HA : Hid (Calls Tryz.prog 44 #[.pointer (some ⟨sh, 0, none⟩), .slice (some ⟨r0, 0, none⟩) 2 2] w0 fun e w' => e = .returned (.int .i64 0) ∧ w' = w0) := by
    have h1 := asked_ok (HS0.out.sk.l.cell (j := 0) rfl) (some ⟨r0, 0, none⟩) 2 2 [(bl : Int), (ix : Int)] (by rw [hw0, hr0]; exact rz2 w _ _ _) rfl (by omega)
    rw [upTo2 hbl hix] at h1
    exact h1
  have hwf : wf3 ⟨1, (bl : Int), (ix : Int)⟩ := ⟨wf_n60 (n := 1) (by omega), wf_n60 hbl, wf_n60 hix⟩
  obtain ⟨a1, a2, a3, a4, qq, nn, cc, ok, hlk, hM⟩ := HS0.out.sk.look _ hwf
  have hlk0 : (Instr.lookup 88 (.map (some mp)) (.agg #[.int .i64 1, .int .i64 (bl : Int), .int .i64 (ix : Int)]) true).run Tryz.prog w0 = .ok (.tuple #[.agg #[.int .i64 a1, .int .i64 a2, .int .i64 a3, .int .i64 a4, .slice qq nn cc], .bool ok]) w0 := hlk w0 (Kp.refl _ _)
  have HM : Hid ((ok = false ∧ (stS h).1 ⟨1, (bl : Int), (ix : Int)⟩ = none) ∨ (ok = true ∧ ∃ o, (stS h).1 ⟨1, (bl : Int), (ix : Int)⟩ = some o)) := by
    rcases hM with hM | ⟨h1, o, h2, _⟩
    · exact Or.inl hM
    · exact Or.inr ⟨h1, o, h2⟩
  have HWr : Hid (∀ u, Kp (fun _ => False) w0 u → Calls Tryz.prog 45 #[.pointer (some ⟨sh, 0, none⟩), .agg #[.int .i64 2, .int .i64 (bl : Int), .int .i64 (ix : Int), .int .i64 0, .slice none 0 0]] u fun e9 w' => e9 = .returned (.int .i64 0) ∧ Kp (SW sh mp g m gf) u w' ∧ Shf w' Z sh mp g bp d m gf s a b c e y dur (h ++ [⟨2, bl, ix, 0, []⟩])) := fun u ku =>
    (HS0.out.keep0 ku).write ⟨2, bl, ix, 0, []⟩ none 0 rb_nil0 ⟨⟨show 1 ≤ 2 by omega, show 2 ≤ 4 by omega⟩, hbl, hix, show 0 ≤ 1152921504606846976 by omega, fun x hx => absurd hx List.not_mem_nil, show 0 ≤ 1980 by omega, fun _ => rfl⟩ hn (fun a ha => absurd ha (by simp)) hroom hfit
  have c1 : w0.cell? ⟨sh, 1, none⟩ = some (.map (some mp)) := HS0.out.sk.l.cell (j := 1) rfl
  clear x hbl hix hn hroom hfit hwf hlk hM
  go_enter Tryz.func22, Tryz.ntmps22
  go_wp2_with fail
  rw [← hw0, ← hr0]
  clear hw0 hr0
  refine HA.out.mono ?_
  rintro e9 w9 ⟨rfl, hw9⟩
  have hw8 := hw9.symm
  subst hw8
  clear hw9 HA
  have HKa : Hid (∀ o : Obj, Kp (fun _ => False) w0 (w0.alloc o)) := fun o => (Kp.refl _ _).alloc o
  rcases HM.out with ⟨rfl, hno⟩ | ⟨rfl, hyes⟩
  · have HN : Hid ((stS h).1 ⟨1, (bl : Int), (ix : Int)⟩ = none) := hno
    clear hno HM HWr
    go_wp2_with fail
    go_ret
    exact Or.inl ⟨HN.out, rfl, HK0.out.trans (HKa.out _) (fun _ _ e => e)⟩
  · have HY : Hid (∃ o, (stS h).1 ⟨1, (bl : Int), (ix : Int)⟩ = some o) := hyes
    clear hyes HM
    go_wp2_with fail
    refine (HWr.out _ (HKa.out _)).mono ?_
    rintro e9 w3 ⟨rfl, k3, s3⟩
    have HF : Hid (Kp (SW sh mp g m gf) w w3 ∧ Shf w3 Z sh mp g bp d m gf s a b c e y dur (h ++ [⟨2, bl, ix, 0, []⟩])) := ⟨((HK0.out.trans (HKa.out _) (fun _ _ e => e)).mono (fun _ _ e => e.elim)).trans k3 (fun _ _ e => e), s3⟩
    clear k3 s3 HWr
    go_wp2_with fail
    go_ret
    exact Or.inr ⟨HY.out, rfl, HF.out⟩
end
end Go.Proofs.YtmooddbhcccicaaGreatDoor
