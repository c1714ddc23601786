/- What each call of served does, plain. -/
import Derived.Test.YtbbgplnenbkfeaaVa
namespace Go.Proofs.Ytbbgplnenbkfeaa
set_option linter.unusedVariables false
set_option linter.unusedSimpArgs false
open Go.RowKit Go.Deep Go.Maps

def setI {α : Type} (f : List UInt8 → α) (k : List UInt8) (v : α) : List UInt8 → α := fun s => if s = k then v else f s
theorem setI_eq {α : Type} (f : List UInt8 → α) (k : List UInt8) (v : α) : setI f k v k = v := if_pos rfl
theorem setI_ne {α : Type} (f : List UInt8 → α) {k s : List UInt8} (v : α) (h : s ≠ k) : setI f k v s = f s := if_neg h
section
variable {es : List Ev} {cs : List Hc} {st : List UInt8 → Int} {bs : List UInt8 → List Nat}
/-- an answer that may be -/
theorem may_hear (e : Ev) (L : Nat) (id kd : Int) (b : By) (h : (kd = 4 ∧ b.xs = []) ∨ (kd = 1 ∧ (e.kind = 2 ∨ b.xs = [])) ∨ (kd = 2 ∧ e.kind = 1 ∧ b.xs = []) ∨ (kd = 3 ∧ e.kind ≠ 1 ∧ b.xs = [])) : mayHearP (newC e L) ⟨true, id, kd, noKey, b⟩ = true := by
  have hn := noKey_empty
  unfold mayHearP newC
  dsimp only
  rw [hn]
  rcases h with ⟨rfl, q⟩ | ⟨rfl, q | q⟩ | ⟨rfl, q, q2⟩ | ⟨rfl, q, q2⟩
  · simp [q]
  · simp [q]
  · simp [q]
  · simp [q, q2]
  · simp [q, q2]
theorem Srv.z (h : Srv es cs st bs) (k : List UInt8) : st k = 0 ∨ st k = 1 ∨ st k = 2 := by
  rcases (h.k k).st with ⟨q, _⟩ | ⟨q, _⟩ | ⟨q, _⟩
  · exact Or.inl q
  · exact Or.inr (Or.inl q)
  · exact Or.inr (Or.inr q)
/-- a put of an empty key, told or not -/
theorem Srv.put0 (h : Srv es cs st bs) (hl : es.length ≤ 900) (key : ByteArray) (b : By) (n : Int) (hn : n = (cs.length : Int) + 1) (hz : st key.data.toList = 0) (kd : Int) (hkd : kd = 1 ∨ kd = 4) : ∃ cs', cs'.length = cs.length + 1 ∧ Srv ((es ++ [⟨false, n, 1, key, b⟩]) ++ [⟨true, n, kd, noKey, by0⟩]) cs' (setI st key.data.toList 1) (setI bs key.data.toList b.xs) := by
  refine ⟨_, by simp, h.told ⟨false, n, 1, key, b⟩ ⟨true, n, kd, noKey, by0⟩ rfl hn (by unfold mayAskP; simp; omega) rfl hn (may_hear _ _ _ _ _ (by rcases hkd with rfl | rfl; exact Or.inr (Or.inl ⟨rfl, Or.inr rfl⟩); exact Or.inl ⟨rfl, rfl⟩)) (fun k hk => ⟨setI_ne _ _ hk, setI_ne _ _ hk⟩) ?_⟩
  rw [setI_eq, setI_eq]
  have hK := h.k key.data.toList
  rw [hz] at hK
  have nw := nw_told ⟨false, n, 1, key, b⟩ ⟨true, n, kd, noKey, by0⟩ es.length hl (by rcases hkd with rfl | rfl <;> (dsimp only; omega))
  refine hK.write nw (by rw [hearP_e]; rfl) ?_ (by rw [hearP_e]; rfl)
  rcases hkd with rfl | rfl
  · exact Or.inr (hear_says _ _ _ _ (Or.inl rfl)).1
  · exact Or.inl (hear_out _ _ _ _ rfl)
/-- a put of one that is there, or was -/
theorem Srv.put1 (h : Srv es cs st bs) (hl : es.length ≤ 900) (key : ByteArray) (b : By) (n : Int) (hn : n = (cs.length : Int) + 1) (hz : st key.data.toList ≠ 0) (kd : Int) (hkd : kd = 2 ∨ kd = 4) : ∃ cs', cs'.length = cs.length + 1 ∧ Srv ((es ++ [⟨false, n, 1, key, b⟩]) ++ [⟨true, n, kd, noKey, by0⟩]) cs' st bs := by
  refine ⟨_, by simp, h.told ⟨false, n, 1, key, b⟩ ⟨true, n, kd, noKey, by0⟩ rfl hn (by unfold mayAskP; simp; omega) rfl hn (may_hear _ _ _ _ _ (by rcases hkd with rfl | rfl; exact Or.inr (Or.inr (Or.inl ⟨rfl, rfl, rfl⟩)); exact Or.inl ⟨rfl, rfl⟩)) (fun k hk => ⟨rfl, rfl⟩) ?_⟩
  have nw := nw_told ⟨false, n, 1, key, b⟩ ⟨true, n, kd, noKey, by0⟩ es.length hl (by rcases hkd with rfl | rfl <;> (dsimp only; omega))
  have hs : (hearP (newC ⟨false, n, 1, key, b⟩ es.length) ⟨true, n, kd, noKey, by0⟩ ((es.length + 1 : Nat) : Int)).says = 0 ∨ (hearP (newC ⟨false, n, 1, key, b⟩ es.length) ⟨true, n, kd, noKey, by0⟩ ((es.length + 1 : Nat) : Int)).says = 2 := by
    rcases hkd with rfl | rfl
    · exact Or.inr (hear_says _ _ _ _ (Or.inr (Or.inl rfl))).1
    · exact Or.inl (hear_out _ _ _ _ rfl)
  refine (h.k key.data.toList).same nw (fun q => absurd q hz) (fun _ => ?_) (fun _ => ?_)
  · rcases hs with q | q
    · exact Or.inl q
    · exact Or.inr (Or.inl q)
  · rcases hs with q | q
    · exact Or.inl q
    · exact Or.inr (Or.inl q)
/-- a get or a delete of what is missing -/
theorem Srv.miss (h : Srv es cs st bs) (hl : es.length ≤ 900) (key : ByteArray) (n k0 : Int) (hk0 : k0 = 2 ∨ k0 = 3) (hn : n = (cs.length : Int) + 1) (hz : st key.data.toList ≠ 1) (kd : Int) (hkd : kd = 3 ∨ kd = 4) : ∃ cs', cs'.length = cs.length + 1 ∧ Srv ((es ++ [⟨false, n, k0, key, by0⟩]) ++ [⟨true, n, kd, noKey, by0⟩]) cs' st bs := by
  refine ⟨_, by simp, h.told ⟨false, n, k0, key, by0⟩ ⟨true, n, kd, noKey, by0⟩ rfl hn (by rcases hk0 with rfl | rfl <;> (unfold mayAskP by0; simp; omega)) rfl hn (may_hear _ _ _ _ _ (by rcases hkd with rfl | rfl; exact Or.inr (Or.inr (Or.inr ⟨rfl, (by rcases hk0 with rfl | rfl <;> (dsimp only; omega)), rfl⟩)); exact Or.inl ⟨rfl, rfl⟩)) (fun k hk => ⟨rfl, rfl⟩) ?_⟩
  have nw := nw_told ⟨false, n, k0, key, by0⟩ ⟨true, n, kd, noKey, by0⟩ es.length hl (by rcases hkd with rfl | rfl <;> (dsimp only; omega))
  have hs : (hearP (newC ⟨false, n, k0, key, by0⟩ es.length) ⟨true, n, kd, noKey, by0⟩ ((es.length + 1 : Nat) : Int)).says = 0 ∨ (hearP (newC ⟨false, n, k0, key, by0⟩ es.length) ⟨true, n, kd, noKey, by0⟩ ((es.length + 1 : Nat) : Int)).says = 3 := by
    rcases hkd with rfl | rfl
    · exact Or.inr (hear_says _ _ _ _ (Or.inr (Or.inr rfl))).1
    · exact Or.inl (hear_out _ _ _ _ rfl)
  refine (h.k key.data.toList).same nw (fun _ => hs) (fun q => absurd q hz) (fun _ => ?_)
  rcases hs with q | q
  · exact Or.inl q
  · exact Or.inr (Or.inr q)
/-- a get of what is there -/
theorem Srv.get1 (h : Srv es cs st bs) (hl : es.length ≤ 900) (key : ByteArray) (n : Int) (hn : n = (cs.length : Int) + 1) (hz : st key.data.toList = 1) (kd : Int) (b : By) (hkd : (kd = 1 ∧ b.xs = bs key.data.toList) ∨ (kd = 4 ∧ b.xs = [])) : ∃ cs', cs'.length = cs.length + 1 ∧ Srv ((es ++ [⟨false, n, 2, key, by0⟩]) ++ [⟨true, n, kd, noKey, b⟩]) cs' st bs := by
  refine ⟨_, by simp, h.told ⟨false, n, 2, key, by0⟩ ⟨true, n, kd, noKey, b⟩ rfl hn (by unfold mayAskP by0; simp; omega) rfl hn (may_hear _ _ _ _ _ (by rcases hkd with ⟨rfl, q⟩ | ⟨rfl, q⟩; exact Or.inr (Or.inl ⟨rfl, Or.inl rfl⟩); exact Or.inl ⟨rfl, q⟩)) (fun k hk => ⟨rfl, rfl⟩) ?_⟩
  have nw := nw_told ⟨false, n, 2, key, by0⟩ ⟨true, n, kd, noKey, b⟩ es.length hl (by rcases hkd with ⟨rfl, _⟩ | ⟨rfl, _⟩ <;> (dsimp only; omega))
  refine (h.k key.data.toList).same nw (fun q => by rw [hz] at q; exact absurd q (by decide)) (fun _ => ?_) (fun q => by rw [hz] at q; exact absurd q (by decide))
  rcases hkd with ⟨rfl, q⟩ | ⟨rfl, q⟩
  · have := hear_says ⟨false, n, 2, key, by0⟩ ⟨true, n, 1, noKey, b⟩ (es.length : Int) ((es.length + 1 : Nat) : Int) (Or.inl rfl)
    refine Or.inr (Or.inr ⟨?_, ?_⟩)
    · unfold readsP
      rw [hearP_e]
      rw [show (hearP (newC ⟨false, n, 2, key, by0⟩ es.length) ⟨true, n, 1, noKey, b⟩ ((es.length + 1 : Nat) : Int)).says = 1 from this.1]
      rfl
    · rw [show (hearP (newC ⟨false, n, 2, key, by0⟩ es.length) ⟨true, n, 1, noKey, b⟩ ((es.length + 1 : Nat) : Int)).g = b from this.2]
      exact q
  · exact Or.inl (hear_out _ _ _ _ rfl)
/-- a delete of what is there -/
theorem Srv.del1 (h : Srv es cs st bs) (hl : es.length ≤ 900) (key : ByteArray) (n : Int) (hn : n = (cs.length : Int) + 1) (hz : st key.data.toList = 1) (kd : Int) (hkd : kd = 1 ∨ kd = 4) : ∃ cs', cs'.length = cs.length + 1 ∧ Srv ((es ++ [⟨false, n, 3, key, by0⟩]) ++ [⟨true, n, kd, noKey, by0⟩]) cs' (setI st key.data.toList 2) bs := by
  refine ⟨_, by simp, h.told ⟨false, n, 3, key, by0⟩ ⟨true, n, kd, noKey, by0⟩ rfl hn (by unfold mayAskP by0; simp; omega) rfl hn (may_hear _ _ _ _ _ (by rcases hkd with rfl | rfl; exact Or.inr (Or.inl ⟨rfl, Or.inr rfl⟩); exact Or.inl ⟨rfl, rfl⟩)) (fun k hk => ⟨setI_ne _ _ hk, rfl⟩) ?_⟩
  rw [setI_eq]
  have hK := h.k key.data.toList
  rw [hz] at hK
  have nw := nw_told ⟨false, n, 3, key, by0⟩ ⟨true, n, kd, noKey, by0⟩ es.length hl (by rcases hkd with rfl | rfl <;> (dsimp only; omega))
  refine hK.erase nw (by rw [hearP_e]; rfl) ?_
  rcases hkd with rfl | rfl
  · exact Or.inr (hear_says _ _ _ _ (Or.inl rfl)).1
  · exact Or.inl (hear_out _ _ _ _ rfl)
end
end Go.Proofs.Ytbbgplnenbkfeaa
