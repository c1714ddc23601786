/- A chain's From. -/
import Derived.Test.YtjbgpbafgpdciaaCg
namespace Go.Proofs.Ytjbgpbafgpdciaa
set_option linter.unusedVariables false
open Go.RowKit Go.Deep Go.Maps

/-- commands, one behind the other -/
def cflat (l : List Cv) : List Value := l.flatMap (fun x => (ccell x).toList)
theorem cflat_append (a b : List Cv) : cflat (a ++ b) = cflat a ++ cflat b := by unfold cflat; rw [List.flatMap_append]
theorem cflat_one (y : Cv) : cflat [y] = (ccell y).toList := by show (ccell y).toList ++ [] = _; rw [List.append_nil]
theorem cflat_len (l : List Cv) : (cflat l).length = l.length * 12 := by
  induction l with
  | nil => rfl
  | cons x l ih => show ((ccell x).toList ++ cflat l).length = _; rw [List.length_append, ih]; show 12 + _ = (l.length + 1) * 12; omega
theorem infoC0 : (Try.prog.info? 34).map (fun i => (i.zero.map (·.cells.size), i.size, i.bytes)) = some (some 12, 12, 120) := by kernel_rfl
theorem infoC : ∃ i z, Try.prog.info? 34 = some i ∧ i.zero = some z ∧ i.size = 12 ∧ i.bytes = 120 ∧ z.cells.size = 12 := by
  obtain ⟨i, hi, he⟩ := Option.map_eq_some_iff.1 infoC0
  simp only [Prod.mk.injEq] at he
  obtain ⟨h1, h2, h3⟩ := he
  obtain ⟨z, hz, h4⟩ := Option.map_eq_some_iff.1 h1
  exact ⟨i, z, hi, hz, h2, h3, h4⟩
/-- blocks that were made since w0, but for the row's own -/
abbrev Zr (w0 v : World) (a : Value) : Nat → Prop := fun b => w0.heap.size ≤ b ∧ b < v.heap.size ∧ a.ownBlock ≠ some b
/-- a row of commands of one's own, all of it made since w0 -/
structure Rc (w0 v : World) (a : Value) (out : List Cv) : Prop where
  o : v.ownsRow w0.heap.size 34 12 a out.length (cflat out)
  k : Kp (fun _ => False) w0 v
  n : ∀ y ∈ out, Ni v (Zr w0 v a) y.2.1 y.2.2
theorem Rc.keep {w0 v v' : World} {a : Value} {out : List Cv} (h : Rc w0 v a out) (k : Kp (fun _ => False) v v') : Rc w0 v' a out :=
  ⟨ownsRow_keep h.o k (fun _ _ => id), h.k.trans k (fun _ _ e => e), fun y hy => ((h.n y hy).keep k (fun _ _ => id)).mono (fun b hb => ⟨hb.1, Nat.lt_of_lt_of_le hb.2.1 k.size, hb.2.2⟩)⟩
theorem Rc.nil (w0 : World) : Rc w0 w0 (.slice none 0 0) [] := ⟨World.ownsRow_nil _ _ _ _, Kp.refl _ _, fun y hy => (by cases hy)⟩
set_option maxRecDepth 100000 in
theorem wpList_app_c {ops : Array Oper} {rest : List Oper} {op : Oper} {a : Act} {Q : Exit → Act → World → Prop} {w0 v : World} {a' : Value} {out : List Cv} (h : Rc w0 v a' out) (y : Cv) (hn : Ni v (Zr w0 v a') y.2.1 y.2.2) (hz : (out.length + 1) * 120 ≤ 140737488355328)
    (hgd : op.guard = none) (o1 o2 : Operand) (ho : op.op = .call { callee := .builtin .append, args := #[o1, o2], argTypes := #[44, 44] }) (h1 : a.eval o1 = a') (h2 : a.eval o2 = .slice (some ⟨v.heap.size, 0, none⟩) 1 1)
    (hK : ∀ a2 w3, Rc w0 w3 a2 (out ++ [y]) → wpList Try.prog ops Q rest (a.put op.dst a2) w3) :
    wpList Try.prog ops Q (op :: rest) a (v.alloc (.cells (ccell y) 34)) := by
  obtain ⟨ti, tz, hi1, hi2, hi3, hi4, hi5⟩ := infoC
  have ka : Kp (fun _ => False) v (v.alloc (.cells (ccell y) 34)) := (Kp.refl _ _).alloc _
  have hr := h.keep ka
  have hlv := Lv.new v (ccell y) 34
  have h1c : ∀ u ∈ (ccell y).toList, u.oneCell' = true := by
    have := cc_one y hn
    intro u hu
    exact (Array.all_eq_true_iff_forall_mem.1 this) u (by simpa using hu)
  have hsz := ka.size
  have hs0 := h.k.size
  refine wpList_append_own_src _ hgd o1 o2 44 44 ho w0.heap.size 34 ti tz 12 120 Try.underlying44 hi1 hi2 hi3 hi4 hi5 (by decide) a' out.length (cflat out) h1 hr.o _ 1 (ccell y).toList h2 (Src.ofSlice _ Try.underlying44 ⟨v.heap.size, 0, none⟩ 1 1 (ccell y).toList rfl (fun j u hj => by rw [Addr.add_mid, Nat.zero_add]; exact hlv.cell hj) h1c) (by unfold maxLen; omega) (by omega) (by omega) ?_
  intro a2 w3 hown hk hblk
  have k3 := grownBy_kp hk
  have hZ : ∀ b, Zr w0 v a' b → Zr w0 w3 a2 b := fun b hb => by
    have := k3.size
    refine ⟨hb.1, by have := hb.2.1; omega, fun e => ?_⟩
    rcases hblk with e2 | e2
    · exact hb.2.2 (by rw [← e2]; exact e)
    · rw [e2] at e
      have := Option.some.inj e
      have := hb.2.1
      omega
  have step : ∀ zs nv, Ni v (Zr w0 v a') zs nv → Ni w3 (Zr w0 w3 a2) zs nv := fun zs nv hni => ((hni.keep ka (fun _ _ => id)).keep k3 (fun b hb => hb.2.2)).mono hZ
  refine hK a2 w3 ⟨?_, hr.k.app hr.o k3, fun z hz => ?_⟩
  · rw [List.length_append, cflat_append, cflat_one]
    exact hown
  · rcases List.mem_append.1 hz with e | e
    · exact step _ _ (h.n z e)
    · rw [List.mem_singleton] at e; subst e; exact step _ _ hn

/-- the commands of C from s on, k of them -/
def plainC (C : Int → Option Cv) (z : Int) : Cs0 × List Int := ((at0 C z).1, (at0 C z).2.1)
def frm (C : Int → Option Cv) (s : Int) (k : Nat) : List (Cs0 × List Int) := (List.range k).map (fun i : Nat => plainC C (s + (i : Int)))
theorem frm_succ (C : Int → Option Cv) (s : Int) (k : Nat) : frm C s (k + 1) = frm C s k ++ [plainC C (s + k)] := by unfold frm; rw [List.range_succ, List.map_append]; rfl
theorem frm_len (C : Int → Option Cv) (s : Int) (k : Nat) : (frm C s k).length = k := by unfold frm; simp
/-- so many are there from s on, most at most -/
structure Mny (C : Int → Option Cv) (s most : Int) (k : Nat) : Prop where
  all : ∀ i : Nat, i < k → (C (s + i)).isSome = true
  le : k = 0 ∨ (k : Int) ≤ most
  fin : (k : Int) < most → C (s + k) = none
theorem Mny.uniq {C : Int → Option Cv} {s most : Int} {j k : Nat} (h : Mny C s most j) (g : Mny C s most k) : j = k := by
  rcases Nat.lt_trichotomy j k with e | e | e
  · have := h.fin (by have := g.le; omega)
    have h2 := g.all j e
    rw [this] at h2; cases h2
  · exact e
  · have := g.fin (by have := h.le; omega)
    have h2 := h.all k e
    rw [this] at h2; cases h2
/-- what From tells -/
def Fr (w w' : World) (C : Int → Option Cv) (s most : Int) (v : Value) : Prop := ∃ out k, Rc w w' v out ∧ Mny C s most k ∧ out.map (fun x => (x.1, x.2.1)) = frm C s k

set_option maxRecDepth 100000 in
set_option maxHeartbeats 1600000 in
theorem cfrom_ok2 {w : World} {Z : Nat → Prop} {t m q c : Nat} {nxt : Int} {C : Int → Option Cv} (h : Ch w Z t m q c nxt C) (s most : Int) (hs : -9223372036854775808 ≤ s ∧ s ≤ 9223372036854775807) (N : Nat) (hN : Hid (N ≤ 1000000 ∧ ∀ i : Nat, (∀ j : Nat, j ≤ i → (C (max s 1 + (j : Int))).isSome = true) → i < N)) :
    Calls Try.prog 18 #[.pointer (some ⟨t, 0, none⟩), .int .i64 s, .int .i64 most] w fun e w' => ∃ v, e = .returned v ∧ Fr w w' C (max s 1) most v := by
  have HT : Hid (Ch w Z t m q c nxt C) := h
  obtain ⟨s1, hs1⟩ : ∃ s1, s1 = max s 1 := ⟨_, rfl⟩
  have HS1 : Hid (1 ≤ s1 ∧ s1 ≤ 9223372036854775807) := by show _ ∧ _; omega
  rw [← hs1] at hN ⊢
  have hmx : max s 1 = s1 := hs1.symm
  clear h hs hs1
  go_enter Try.func18, Try.ntmps18
  go_wp2
  go_loopg [1, 7] (N + 1) (fun gk sv rv wr => ∃ (k : Nat) (out : List Cv), k ≤ N ∧ gk = N + 1 - k ∧ sv = .int .i64 (s1 + (k : Int)) ∧ Rc w wr rv out ∧ out.length = k ∧ out.map (fun x => (x.1, x.2.1)) = frm C s1 k ∧ (k = 0 ∨ (k : Int) ≤ most) ∧ ∀ i : Nat, i < k → (C (s1 + (i : Int))).isSome = true)
  case atStart => exact ⟨0, [], Nat.zero_le _, rfl, by simp, Rc.nil w, rfl, rfl, Or.inl rfl, fun i hi => (by omega)⟩
  case round =>
    obtain ⟨k, out, hk, rfl, rfl, hR, hlen, hmap, hle, hall⟩ := hrel
    obtain ⟨qa, ca, hrv, _⟩ := own_fl hR.o
    rw [hlen] at hrv
    subst hrv
    have HR : Hid (Rc w wr (.slice qa k ca) out) := hR
    have HO : Hid (out.length = k ∧ out.map (fun x => (x.1, x.2.1)) = frm C s1 k ∧ (k = 0 ∨ (k : Int) ≤ most) ∧ ∀ i : Nat, i < k → (C (s1 + (i : Int))).isSome = true) := ⟨hlen, hmap, hle, hall⟩
    have HSk : Hid (1 ≤ s1 + (k : Int) ∧ s1 + (k : Int) ≤ 9223372036854775807) := by
      show _ ∧ _
      have h1 := HS1.out
      rcases Nat.eq_zero_or_pos k with h0 | h0
      · omega
      · obtain ⟨x, hx⟩ := Option.isSome_iff_exists.1 (hall (k - 1) (by omega))
        have := HT.out.dm _ x hx
        omega
    have HG : Hid (Calls _ _ _ wr _) := cget_ok (HT.out.keep0 hR.k) (s1 + (k : Int)) (by have := HSk.out; omega)
    obtain ⟨z, hz⟩ : ∃ z, z = s1 + (k : Int) := ⟨_, rfl⟩
    obtain ⟨ok, hok⟩ : ∃ ok, ok = (C z).isSome := ⟨_, rfl⟩
    obtain ⟨y, hy⟩ : ∃ y, y = at0 C z := ⟨_, rfl⟩
    rw [← hz] at HG HSk ⊢
    rw [← hok, ← hy] at HG
    have HZ : Hid (z = s1 + (k : Int) ∧ ok = (C z).isSome ∧ y = at0 C z ∧ Kp (fun _ => False) w wr) := ⟨hz, hok, hy, hR.k⟩
    clear hR hlen hmap hle hall hz hok hy
    by_cases hlt : (k : Int) < most
    · go_wp2_with fail
      refine HG.out.mono ?_
      rintro e w1 ⟨v, rfl, k1, nv, rfl, hni⟩
      have HNi : Hid (Ni w1 (fun b => wr.heap.size ≤ b ∧ b < w1.heap.size) y.2.1 nv) := hni
      have HOc : Hid ((cmdA y.1 nv).toList.toArray.all (·.oneCell') = true) := cmd_one y.1 (by obtain ⟨_, _, e, _⟩ := hni; rw [e]; rfl)
      obtain ⟨ya, hya⟩ : ∃ ya : Array Value, ya = cmdA y.1 nv := ⟨_, rfl⟩
      have HYA : Hid (ya = cmdA y.1 nv) := hya
      rw [← hya] at HOc ⊢
      clear HG hni hya
      cases ok with
      | false =>
        go_wp2_with (refine wpList_store_all rfl 34 _ _ rfl 12 w1.heap.size zeroC.toList ya.toList rfl (by rw [Array.toArray_toList]; rfl) (by exact Lv.new w1 _ _) szCmd rfl (by rw [HYA.out]; rfl) HOc.out ?_; intro w2 hl2 k2; have k02 : Kp (fun _ => False) wr w2 := (k1.alloc _).trans k2 (fun b hb e => by have := k1.size; omega); clear hl2 k2)
        go_ret
        refine ⟨_, rfl, out, k, HR.out.keep k02, ⟨HO.out.2.2.2, HO.out.2.2.1, fun _ => ?_⟩, HO.out.2.1⟩
        have h1 := HZ.out.2.1
        rw [HZ.out.1] at h1
        cases hc : C (s1 + (k : Int)) with
        | none => rfl
        | some x => rw [hc] at h1; cases h1
      | true =>
        have HD : Hid (z ≤ 1152921504606846976 ∧ k < N ∧ wrap64 (z + 1) = s1 + ((k + 1 : Nat) : Int)) := by
          obtain ⟨x, hx⟩ := Option.isSome_iff_exists.1 HZ.out.2.1.symm
          have h1 := HT.out.dm _ x hx
          have h2 := HZ.out.2.1.symm
          rw [HZ.out.1] at h2
          have h3 := hN.out.2 k (fun j hj => by
            rcases Nat.lt_or_ge j k with e | e
            · exact HO.out.2.2.2 j e
            · obtain rfl : j = k := by omega
              exact h2)
          have h4 := HZ.out.1
          refine ⟨h1.2, h3, ?_⟩
          unfold wrap64
          omega
        have hap : ∀ w2 : World, Kp (fun _ => False) w1 w2 → Rc w w2 (.slice qa k ca) out ∧ Ni w2 (Zr w w2 (.slice qa k ca)) y.2.1 nv := fun w2 k12 => by
          refine ⟨HR.out.keep (k1.trans k12 (fun _ _ e => e)), (HNi.out.keep k12 (fun _ _ => id)).mono (fun b hb => ⟨?_, ?_, fun e => ?_⟩)⟩
          · have := HZ.out.2.2.2.size; omega
          · have := k12.size; omega
          · have := (ownBlock_lt HR.out.o e).2; omega
        have HAp : Hid (∀ w2 : World, Kp (fun _ => False) w1 w2 → Rc w w2 (.slice qa k ca) out ∧ Ni w2 (Zr w w2 (.slice qa k ca)) y.2.1 nv) := hap
        clear hap
        go_wp2_with (first
          | (refine wpList_store_all rfl 34 _ _ rfl 12 w1.heap.size zeroC.toList ya.toList rfl (by rw [Array.toArray_toList]; rfl) (by exact Lv.new w1 _ _) szCmd rfl (by rw [HYA.out]; rfl) HOc.out ?_; intro w2 hl2 k2; have k12 : Kp (fun _ => False) w1 w2 := ((Kp.refl (fun _ => False) w1).alloc _).trans k2 (fun b hb e => by omega); have HL2 : Hid (Lv w2 w1.heap.size ya.toList) := hl2; clear hl2 k2)
          | (refine wpList_load_all rfl 34 _ rfl 12 w1.heap.size ya.toList rfl HL2.out dsCmd szCmd (by rw [HYA.out]; rfl) ?_; rw [Array.toArray_toList, HYA.out])
          | (at_builtin; refine wpList_app_c (HAp.out w2 k12).1 (y.1, y.2.1, nv) (HAp.out w2 k12).2 (by have := HO.out.1; have := hN.out.1; have := HD.out; omega) rfl _ _ rfl rfl rfl ?_; intro a2 w3 hR3; have HR3 : Hid (Rc w w3 a2 (out ++ [(y.1, y.2.1, nv)])) := hR3; clear hR3))
        go_roundg (N + 1 - (k + 1))
        case rel =>
          refine ⟨k + 1, out ++ [(y.1, y.2.1, nv)], HD.out.2.1, rfl, by rw [HD.out.2.2], HR3.out, by rw [List.length_append, HO.out.1]; rfl, ?_, Or.inr (by omega), fun i hi => ?_⟩
          · rw [List.map_append, HO.out.2.1, frm_succ, ← HZ.out.1]
            unfold plainC
            rw [← HZ.out.2.2.1]
            rfl
          · by_cases e : i = k
            · rw [e, ← HZ.out.1]; exact HZ.out.2.1.symm
            · exact HO.out.2.2.2 i (by omega)
        case measure => have := HD.out; omega
    · go_wp2
      go_ret
      exact ⟨_, rfl, out, k, HR.out, ⟨HO.out.2.2.2, HO.out.2.2.1, fun h => absurd h (by omega)⟩, HO.out.2.1⟩

theorem cfrom_ok {w : World} {Z : Nat → Prop} {t m q c : Nat} {nxt : Int} {C : Int → Option Cv} (h : Ch w Z t m q c nxt C) (s most : Int) (hs : -9223372036854775808 ≤ s ∧ s ≤ 9223372036854775807) (N : Nat) (hN : Hid (N ≤ 1000000 ∧ ∀ i : Nat, (C (max s 1 + (i : Int))).isSome = true → i < N)) :
    Calls Try.prog 18 #[.pointer (some ⟨t, 0, none⟩), .int .i64 s, .int .i64 most] w fun e w' => ∃ v, e = .returned v ∧ Fr w w' C (max s 1) most v :=
  cfrom_ok2 h s most hs N ⟨hN.out.1, fun i hi => hN.out.2 i (hi i (Nat.le_refl _))⟩
end Go.Proofs.Ytjbgpbafgpdciaa
