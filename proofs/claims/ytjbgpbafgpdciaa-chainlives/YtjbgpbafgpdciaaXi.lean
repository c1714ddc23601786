/- Both chains beside each other (laid by scripts/mkxi.py). -/
import Derived.Test.YtjbgpbafgpdciaaXf
import Derived.Test.YtjbgpbafgpdciaaCe
import Derived.Test.YtjbgpbafgpdciaaCo
namespace Go.Proofs.Ytjbgpbafgpdciaa
set_option linter.unusedVariables false
set_option linter.unusedSimpArgs false
open Go.RowKit Go.Deep Go.Maps

theorem lv_cmd {w : World} {g : Nat} {v : Vo} {nv : Value} (h : Lv w g (vcell v nv)) : w.rangeAt g 2 (cmdA v.c nv).toList := fun j u hu => by
  have := h.r (2 + j) u (by rw [Nat.add_comm]; exact hu)
  rwa [Nat.zero_add] at this

def pl (C : Int → Option Cv) (z : Int) : Option (Cs0 × List Int) := (C z).map (fun x => (x.1, x.2.1))
theorem pl_upd (C : Int → Option Cv) (z y : Int) (c : Cs0) (zs : List Int) (mv : Value) : pl (cupd C z (c, zs, mv)) y = if y = z then some (c, zs) else pl C y := by
  unfold pl cupd
  by_cases e : y = z
  · rw [if_pos e, if_pos e]; rfl
  · rw [if_neg e, if_neg e]
theorem pl_none {C : Int → Option Cv} {z : Int} (h : pl C z = none) : C z = none := by
  unfold pl at h
  cases hc : C z with
  | none => rfl
  | some x => rw [hc] at h; cases h
theorem pl_some {C D : Int → Option Cv} {z : Int} (h : pl C z = pl D z) : (C z).isSome = (D z).isSome := by
  unfold pl at h
  cases hc : C z <;> cases hd : D z <;> rw [hc, hd] at h <;> first | rfl | cases h
theorem pl_plain {C D : Int → Option Cv} {z : Int} (h : pl C z = pl D z) : plainC C z = plainC D z := by
  unfold pl at h
  unfold plainC at0
  cases hc : C z with
  | none =>
    cases hd : D z with
    | none => rfl
    | some y => rw [hc, hd] at h; cases h
  | some x =>
    cases hd : D z with
    | none => rw [hc, hd] at h; cases h
    | some y => rw [hc, hd] at h; exact Option.some.inj h
theorem fst_pl {C D : Int → Option Cv} {n : Int} (h : ∀ z, pl C z = pl D z) (hf : Fst C n) : Fst D n :=
  ⟨hf.1, pl_none (by rw [← h]; unfold pl; rw [hf.2.1]; rfl), fun z h1 h2 => by rw [← pl_some (h z)]; exact hf.2.2 z h1 h2⟩
theorem mny_pl {C D : Int → Option Cv} {s most : Int} {k : Nat} (h : ∀ z, pl C z = pl D z) (hf : Mny C s most k) : Mny D s most k :=
  ⟨fun i hi => by rw [← pl_some (h _)]; exact hf.all i hi, hf.le, fun hh => pl_none (by rw [← h]; unfold pl; rw [hf.fin hh]; rfl)⟩
theorem frm_pl {C D : Int → Option Cv} (s : Int) (k : Nat) (h : ∀ z, pl C z = pl D z) : frm C s k = frm D s k := by
  unfold frm
  exact List.map_congr_left (fun i _ => pl_plain (h _))

theorem xat_snoc (l : List Xk) (o : Xk) (z : Int) : xat (l ++ [o]) z = (xat l z).or (if o.slot == z then some o else none) := by
  unfold xat
  rw [List.find?_append]
  congr 1
  show (match o.slot == z with | true => some o | false => [].find? _) = _
  cases (o.slot == z) <;> rfl
theorem pl_snoc (l : List (Xk × Value)) (s : Int) (d : Cs0) (zs : List Int) (nv : Value) (hx : CX (l.map (·.1)) s = none) (y : Int) :
    pl (CX ((l ++ [((⟨s, d, zs⟩ : Xk), nv)]).map (·.1))) y = if y = s then some (d, zs) else pl (CX (l.map (·.1))) y := by
  have h1 : xat (l.map (·.1)) s = none := by
    unfold CX at hx
    cases h : xat (l.map (·.1)) s with
    | none => rfl
    | some x => rw [h] at hx; cases hx
  unfold pl CX
  rw [List.map_append, List.map_cons, List.map_nil, xat_snoc]
  by_cases e : y = s
  · subst e
    rw [if_pos rfl, h1]
    simp [xcv]
  · rw [if_neg e]
    have e2 : ((⟨s, d, zs⟩ : Xk).slot == y) = false := by simpa using fun h => e h.symm
    rw [show (if (⟨s, d, zs⟩ : Xk).slot == y then some (⟨s, d, zs⟩ : Xk) else none) = none by rw [e2]; rfl, Option.or_none]

/-- both chains, behind at most k links -/
structure Pc (w0 w : World) (t L m : Nat) (Z : Nat → Prop) (q c : Nat) (nxt : Int) (C : Int → Option Cv) (base : Nat) (v : Value) (l : List (Xk × Value)) : Prop where
  k : Kp (fun _ => False) w0 w
  ch : Ch w Z L m q c nxt C
  xq : Xq w base t v l
  ag : ∀ z, pl C z = pl (CX (l.map (·.1))) z
  zb : ∀ b, Z b → b < w.heap.size ∧ b ≠ t ∧ v.ownBlock ≠ some b
  nl : ∀ y ∈ l, Ni w (fun b => b ≠ L ∧ b ≠ m) y.1.nodes y.2
  ne : t ≠ L ∧ t ≠ m ∧ v.ownBlock ≠ some L ∧ v.ownBlock ≠ some m
  fr : w0.heap.size ≤ t ∧ w0.heap.size ≤ L ∧ w0.heap.size ≤ m ∧ ∀ b, v.ownBlock = some b → w0.heap.size ≤ b
theorem Xq.keep {S : Nat → Prop} {w w' : World} {base t : Nat} {v : Value} {l : List (Xk × Value)} (h : Xq w base t v l) (k : Kp S w w') (ht : ¬ S t) (hv : ∀ b, v.ownBlock = some b → ¬ S b)
    (hn : ∀ y ∈ l, ∃ Y : Nat → Prop, Ni w Y y.1.nodes y.2 ∧ ∀ b, Y b → ¬ S b) : Xq w' base t v l :=
  ⟨h.lv.keep k ht, ownsRow_keep h.o k hv, fun y hy => by
    obtain ⟨Y, hY, hS⟩ := hn y hy
    obtain ⟨p, cap, e, hf, hz⟩ := h.n y hy
    obtain ⟨p', cap', e', hf', _⟩ := hY
    obtain ⟨rfl, _⟩ : p = p' ∧ cap = cap' := by rw [e] at e'; injection e' with e1 e2 e3; exact ⟨e1, e3⟩
    have hsz := k.size
    refine ⟨p, cap, e, fun j u hu => ?_, hz⟩
    obtain ⟨b, o, e1, hb, hc⟩ := hf j u hu
    obtain ⟨b', o', e2, hb', _⟩ := hf' j u hu
    have hbb : b = b' := by rw [e1] at e2; injection e2 with e3; injection e3
    exact ⟨b, o, e1, ⟨by omega, hb.2.1, hb.2.2⟩, k.cellv hc (by rw [hbb]; exact hS b' hb')⟩, h.z, h.dm, h.ne, h.bt⟩
theorem Pc.keep {w0 w w' : World} {t L m : Nat} {Z : Nat → Prop} {q c : Nat} {nxt : Int} {C : Int → Option Cv} {base : Nat} {v : Value} {l : List (Xk × Value)} (h : Pc w0 w t L m Z q c nxt C base v l) (k : Kp (fun _ => False) w w') : Pc w0 w' t L m Z q c nxt C base v l :=
  ⟨h.k.trans k (fun _ _ e => e), h.ch.keep0 k, h.xq.keep k id (fun _ _ => id) (fun y hy => ⟨_, h.nl y hy, fun _ _ => id⟩), h.ag, fun b hb => ⟨Nat.lt_of_lt_of_le (h.zb b hb).1 k.size, (h.zb b hb).2⟩, fun y hy => (h.nl y hy).keep k (fun _ _ => id), h.ne, h.fr⟩
/-- both chains, behind k votes -/
def Lc (w0 w : World) (t L m k : Nat) : Prop := ∃ Z q c nxt C base v l, Pc w0 w t L m Z q c nxt C base v l ∧ l.length ≤ k ∧ q ≤ k
theorem Lc.keep {w0 w w' : World} {t L m k : Nat} (h : Lc w0 w t L m k) (kk : Kp (fun _ => False) w w') : Lc w0 w' t L m k := by
  obtain ⟨Z, q, c, nxt, C, base, v, l, h1, h2⟩ := h
  exact ⟨Z, q, c, nxt, C, base, v, l, h1.keep kk, h2⟩

theorem learn_pair {w0 wr w : World} {t L m k : Nat} (h : Lc w0 wr t L m k) (kw : Kp (fun _ => False) wr w) (kb : Nat) (cs : List Value) (hb : Lv w kb cs) (hkb : wr.heap.size ≤ kb) (hcs : 0 < cs.length)
    (s : Int) (hs : -9223372036854775808 ≤ s ∧ s ≤ 9223372036854775807) (d : Cs0) (zs : List Int) (nv0 : Value) (hn : Ni w (· < w0.heap.size) zs nv0) (hk : k < 100) :
    Calls Try.prog 10 #[.pointer (some ⟨L, 0, none⟩), .int .i64 s, .agg (cmdA d nv0)] w fun e w1 => ∃ r : Int, e = .returned (.int .i64 r) ∧ Lv w1 kb cs ∧
      Calls Try.prog 11 #[.pointer (some ⟨t, 0, none⟩), .int .i64 s, .agg (cmdA d nv0)] w1 fun e w2 => e = .returned (.int .i64 r) ∧ Lv w2 kb cs ∧ Lc w0 w2 t L m (k + 1) := by
  obtain ⟨Z, q, c, nxt, C, base, v, l, P0, hl, hq⟩ := h
  have P := P0.keep kw
  have hLm := P0.ch.lt
  have htl := P0.xq.lv.lt (by simp)
  have hol : ∀ b, v.ownBlock = some b → b < wr.heap.size := fun b e => (ownBlock_lt P0.xq.o e).2
  have hsz := kw.size
  have hw0 := P0.k.size
  by_cases hr : 1 ≤ s ∧ s ≤ 1152921504606846976
  · cases hC : C s with
    | none =>
      have hX : CX (l.map (·.1)) s = none := pl_none (by rw [← P.ag]; unfold pl; rw [hC]; rfl)
      refine (clearn_new P.ch s hr d zs nv0 _ hn hC (by omega)).mono ?_
      rintro e w1 ⟨rfl, k1, mv, n1, ch1⟩
      have h1z := k1.size
      refine ⟨0, rfl, hb.keep k1 (fun e => by omega), ?_⟩
      have hLmw := P.ch.lt
      have xq1 : Xq w1 base t v l := P.xq.keep k1 (fun e => by have := P.ne; omega) (fun b hb2 e => by
        rcases e with e | e
        · exact P.ne.2.2.1 (by rw [hb2, e])
        · exact P.ne.2.2.2 (by rw [hb2, e])) (fun y hy => ⟨_, P.nl y hy, fun b hb2 e => by rcases e with e | e; exact hb2.1 e; exact hb2.2 e⟩)
      have hn1 : Ni w1 (fun b => b < w1.heap.size ∧ v.ownBlock ≠ some b ∧ b ≠ t) zs nv0 := (hn.keep k1 (fun b hb2 e => by have := P.fr; rcases e with e | e <;> omega)).mono (fun b hb2 => ⟨by omega, fun e => by have := P.fr.2.2.2 b e; omega, fun e => by have := P.fr.1; omega⟩)
      refine (xclearn_new xq1 s hr d zs nv0 hn1 hX (by omega)).mono ?_
      rintro e w2 ⟨rfl, k2, v2, nv2, xq2, ho2, hni2⟩
      have h2z := k2.size
      refine ⟨rfl, (hb.keep k1 (fun e => by omega)).keep k2 (fun e => by
        rcases e with e | e
        · omega
        · have := hol _ e; omega), fun b => Z b ∨ w.heap.size ≤ b ∧ b < w1.heap.size, q + 1, c + 1, n1, cupd C s (d, zs, mv), base, v2, l ++ [(⟨s, d, zs⟩, nv2)], ?_, by rw [List.length_append]; simp; omega, by omega⟩
      have hZ : ∀ b, (Z b ∨ w.heap.size ≤ b ∧ b < w1.heap.size) → b < w1.heap.size ∧ b ≠ t ∧ v.ownBlock ≠ some b := fun b hb2 => by
        rcases hb2 with hb2 | hb2
        · have := P.zb b hb2; exact ⟨by omega, this.2⟩
        · exact ⟨hb2.2, by omega, fun e => by have := hol b e; omega⟩
      refine ⟨?_, ch1.keep k2 (fun b hb2 e => ?_) (fun e => ?_) (fun e => ?_), xq2, fun z => ?_, fun b hb2 => ?_, fun y hy => ?_, ?_, ?_⟩
      · refine (P.k.trans (k1.mono (S' := fun b => w0.heap.size ≤ b) (fun b _ e => by have := P.fr; rcases e with e | e <;> omega)) (fun b hb2 e => by omega)).trans (k2.mono (S' := fun b => w0.heap.size ≤ b) (fun b _ e => ?_)) (fun b hb2 e => by omega)
        rcases e with e | e
        · have := P.fr.1; omega
        · exact P.fr.2.2.2 b e
      · have := hZ b hb2
        rcases e with e | e
        · exact this.2.1 e
        · exact this.2.2 e
      · rcases e with e | e
        · exact P.ne.1 e.symm
        · exact P.ne.2.2.1 e
      · rcases e with e | e
        · exact P.ne.2.1 e.symm
        · exact P.ne.2.2.2 e
      · rw [pl_upd, pl_snoc l s d zs nv2 hX, P.ag]
      · have h1 := hZ b hb2
        refine ⟨by omega, h1.2.1, fun e => ?_⟩
        rcases ho2 with e2 | ⟨g, e2, hg⟩
        · exact h1.2.2 (by rw [← e2, e])
        · rw [e2] at e
          have : g = b := Option.some.inj e
          omega
      · rcases List.mem_append.1 hy with hy | hy
        · obtain ⟨p, cap, e, hf, hz⟩ := P.nl y hy
          have hh := xq1.n y hy
          obtain ⟨p', cap', e', hf', _⟩ := hh
          obtain ⟨rfl, _⟩ : p = p' ∧ cap = cap' := by rw [e] at e'; injection e' with e1 e2 e3; exact ⟨e1, e3⟩
          refine ⟨p, cap, e, fun j u hu => ?_, hz⟩
          obtain ⟨b, o, e1, hb2, hc⟩ := hf j u hu
          obtain ⟨b', o', e2, hb', hc'⟩ := hf' j u hu
          have hbb : b = b' := by rw [e1] at e2; injection e2 with e3; injection e3
          have hoo : o = o' := by rw [e1] at e2; injection e2 with e3; injection e3
          refine ⟨b, o, e1, hb2, k2.cellv (by rw [hbb, hoo]; exact hc') (fun e => ?_)⟩
          rcases e with e | e
          · exact hb'.2.2 (hbb.symm.trans e)
          · exact hb'.2.1 (e.trans (congrArg some hbb))
        · rw [List.mem_singleton] at hy
          subst hy
          exact hni2.mono (fun b hb2 => by omega)
      · refine ⟨P.ne.1, P.ne.2.1, ?_, ?_⟩ <;>
        · intro e
          rcases ho2 with e2 | ⟨g, e2, hg⟩
          · rw [e2] at e
            first | exact P.ne.2.2.1 e | exact P.ne.2.2.2 e
          · rw [e2] at e
            have := Option.some.inj e
            omega
      · refine ⟨P.fr.1, P.fr.2.1, P.fr.2.2.1, fun b e => ?_⟩
        rcases ho2 with e2 | ⟨g, e2, hg⟩
        · exact P.fr.2.2.2 b (by rw [← e2, e])
        · rw [e2] at e
          have : g = b := Option.some.inj e
          omega
    | some y =>
      have hp : pl (CX (l.map (·.1))) s = some (y.1, y.2.1) := by rw [← P.ag]; unfold pl; rw [hC]; rfl
      obtain ⟨y2, hX, hy2⟩ := Option.map_eq_some_iff.1 hp
      have e1 : y2.1 = y.1 := congrArg (fun x : Cs0 × List Int => x.1) hy2
      have e2 : y2.2.1 = y.2.1 := congrArg (fun x : Cs0 × List Int => x.2) hy2
      refine (clearn_old P.ch s hr d zs nv0 _ hn y hC).mono ?_
      rintro e w1 ⟨b, rfl, hbb, k1⟩
      refine ⟨_, rfl, hb.keep k1 id, ?_⟩
      refine (xclearn_old (P.keep k1).xq s hr d zs nv0 _ (hn.keep k1 (fun _ _ => id)) y2 hX).mono ?_
      rintro e w2 ⟨b2, rfl, hb2, k2⟩
      obtain rfl : b = b2 := by
        rw [e1, e2] at hb2
        have hiff : (b = true) ↔ (b2 = true) := hbb.trans ⟨fun h => hb2.2 ⟨h.1.symm, h.2.symm⟩, fun h => by have := hb2.1 h; exact ⟨this.1.symm, this.2.symm⟩⟩
        cases b <;> cases b2 <;> simp_all
      exact ⟨rfl, (hb.keep k1 id).keep k2 id, Z, q, c, nxt, C, base, v, l, (P.keep k1).keep k2, by omega, by omega⟩
  · refine (clearn_arg P.ch s hr _).mono ?_
    rintro e w1 ⟨rfl, k1⟩
    refine ⟨1, rfl, hb.keep k1 id, ?_⟩
    refine (xclearn_arg t s _ w1 hr).mono ?_
    rintro e w2 ⟨rfl, k2⟩
    exact ⟨rfl, (hb.keep k1 id).keep k2 id, Z, q, c, nxt, C, base, v, l, (P.keep k1).keep k2, by omega, by omega⟩

theorem next_pair {w0 w : World} {t L m k : Nat} (h : Lc w0 w t L m k) :
    ∃ n : Int, Calls Try.prog 12 #[.pointer (some ⟨L, 0, none⟩)] w (fun e w1 => e = .returned (.int .i64 n) ∧ Kp (fun _ => False) w w1) ∧
      ∀ w1, Kp (fun _ => False) w w1 → Calls Try.prog 13 #[.pointer (some ⟨t, 0, none⟩)] w1 fun e w2 => e = .returned (.int .i64 n) ∧ Kp (fun _ => False) w1 w2 := by
  obtain ⟨Z, q, c, nxt, C, base, v, l, P, hl, hq⟩ := h
  refine ⟨nxt, (cnext_ok P.ch).mono ?_, fun w1 k1 => (xcnext_ok rfl (P.keep k1).xq.xh nxt (fst_pl P.ag P.ch.fs)).mono ?_⟩
  · rintro e w1 h1
    exact ⟨h1.1, by have := h1.2; first | exact this | (rw [this]; exact Kp.refl _ _)⟩
  · rintro e w2 h2
    exact ⟨h2.1, by have := h2.2; first | exact this | (rw [this]; exact Kp.refl _ _)⟩
end Go.Proofs.Ytjbgpbafgpdciaa
