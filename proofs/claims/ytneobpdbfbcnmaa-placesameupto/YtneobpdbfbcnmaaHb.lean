/- A heap of members in memory; its methods. -/
import Derived.Test.YtneobpdbfbcnmaaHa
namespace Go.Proofs.Ytneobpdbfbcnmaa
set_option linter.unusedVariables false
open Go.RowKit Go.Deep

/-- members' cells, one behind the other: nodes, loads -/
def mflat (nd : Nat → Int) (ld : Nat → Nat) : List Nat → List Value
  | [] => []
  | k :: l => .int .i64 (nd k) :: .int .i64 (ld k : Int) :: mflat nd ld l
theorem mflat_len (nd : Nat → Int) (ld : Nat → Nat) : ∀ l, (mflat nd ld l).length = l.length * 2
  | [] => rfl
  | k :: l => by show (mflat nd ld l).length + 1 + 1 = (l.length + 1) * 2; rw [mflat_len nd ld l]; omega
theorem mflat_append (nd : Nat → Int) (ld : Nat → Nat) : ∀ l m, mflat nd ld (l ++ m) = mflat nd ld l ++ mflat nd ld m
  | [], _ => rfl
  | k :: l, m => by show _ :: _ :: mflat nd ld (l ++ m) = _; rw [mflat_append nd ld l m]; rfl
theorem mflat_take (nd : Nat → Int) (ld : Nat → Nat) : ∀ l n, (mflat nd ld l).take (n * 2) = mflat nd ld (l.take n)
  | [], n => by simp [mflat]
  | k :: l, 0 => rfl
  | k :: l, n + 1 => by
    show (_ :: _ :: mflat nd ld l).take ((n + 1) * 2) = _
    rw [show (n + 1) * 2 = (n * 2) + 1 + 1 by omega, List.take_succ_cons, List.take_succ_cons, mflat_take nd ld l n]; rfl
theorem mflat_node (nd : Nat → Int) (ld : Nat → Nat) : ∀ l j, j < l.length → (mflat nd ld l)[j * 2]? = some (.int .i64 (nd (l.getD j 0))) ∧ (mflat nd ld l)[j * 2 + 1]? = some (.int .i64 (ld (l.getD j 0) : Int))
  | [], j, h => absurd h (Nat.not_lt_zero _)
  | k :: l, 0, _ => ⟨rfl, rfl⟩
  | k :: l, j + 1, h => by
    have := mflat_node nd ld l j (by simpa using h)
    refine ⟨?_, ?_⟩
    · show (_ :: _ :: mflat nd ld l)[(j + 1) * 2]? = _
      rw [show (j + 1) * 2 = j * 2 + 1 + 1 by omega, List.getElem?_cons_succ, List.getElem?_cons_succ, this.1]; rfl
    · show (_ :: _ :: mflat nd ld l)[(j + 1) * 2 + 1]? = _
      rw [show (j + 1) * 2 + 1 = (j * 2 + 1) + 1 + 1 by omega, List.getElem?_cons_succ, List.getElem?_cons_succ, this.2]; rfl
theorem mflat_set (nd : Nat → Int) (ld : Nat → Nat) : ∀ l j x, mflat nd ld (l.set j x) = ((mflat nd ld l).set (j * 2) (.int .i64 (nd x))).set (j * 2 + 1) (.int .i64 (ld x : Int)) ∨ l.length ≤ j
  | [], j, x => Or.inr (Nat.zero_le _)
  | k :: l, 0, x => Or.inl rfl
  | k :: l, j + 1, x => by
    rcases mflat_set nd ld l j x with h | h
    · left
      show _ :: _ :: mflat nd ld (l.set j x) = ((_ :: _ :: mflat nd ld l).set ((j + 1) * 2) _).set ((j + 1) * 2 + 1) _
      rw [h, show (j + 1) * 2 = j * 2 + 1 + 1 by omega]; rfl
    · right; simp; omega
theorem own_set {w : World} {base g n cap sz : Nat} {e : TypeId} {xs : List Value} (h : w.ownsRow base e sz (.slice (some ⟨g, 0, none⟩) n cap) n xs) (j : Nat) (u : Value) (hj : j < xs.length) : (w.setCell ⟨g, j, none⟩ u).ownsRow base e sz (.slice (some ⟨g, 0, none⟩) n cap) n (xs.set j u) := by
  obtain ⟨h1, h2⟩ := h
  rcases h2 with ⟨h0, _⟩ | ⟨g', cap', cur, hv, hg, hh, hn, hcap, hsz, htake⟩
  · cases h0
  · cases hv
    refine ⟨by rw [List.length_set]; exact h1, .inr ⟨g, cap, cur.setIfInBounds j u, rfl, hg, ?_, hn, hcap, by simpa using hsz, ?_⟩⟩
    · exact heap_setCell_same w g j cur e u hh
    · rw [Array.toList_setIfInBounds, List.take_set, htake]
theorem own_sub {w : World} {base g n cap sz k : Nat} {e : TypeId} {xs : List Value} (h : w.ownsRow base e sz (.slice (some ⟨g, 0, none⟩) n cap) n xs) (hk : k ≤ n) : w.ownsRow base e sz (.slice (some ⟨g, 0, none⟩) k cap) k (xs.take (k * sz)) := by
  obtain ⟨h1, h2⟩ := h
  rcases h2 with ⟨h0, _⟩ | ⟨g', cap', cur, hv, hg, hh, hn, hcap, hsz, htake⟩
  · cases h0
  · cases hv
    have hm := Nat.mul_le_mul_right sz hk
    refine ⟨by rw [List.length_take, h1]; omega, .inr ⟨g, cap, cur, rfl, hg, hh, by omega, hcap, hsz, ?_⟩⟩
    rw [← htake, List.take_take, Nat.min_eq_left hm]
theorem own_frz {w : World} {base g n cap sz : Nat} {e : TypeId} {xs : List Value} (h : w.ownsRow base e sz (.slice (some ⟨g, 0, none⟩) n cap) n xs) (j : Nat) : w.frozen? ⟨g, j, none⟩ = false := by
  obtain ⟨h1, h2⟩ := h
  rcases h2 with ⟨h0, _⟩ | ⟨g', cap', cur, hv, hg, hh, hn, hcap, hsz, htake⟩
  · cases h0
  · cases hv
    exact frozen_of_row _ _ _ cur _ hh
/-- the heap at block h, its row made since base: the places l -/
structure Hp (w : World) (base h g cap : Nat) (nd : Nat → Int) (ld : Nat → Nat) (l : List Nat) : Prop where
  lv : Lv w h [.slice (some ⟨g, 0, none⟩) l.length cap]
  o : w.ownsRow base 57 2 (.slice (some ⟨g, 0, none⟩) l.length cap) l.length (mflat nd ld l)
  ne : g ≠ h
  b : base ≤ h
section
variable {w : World} {base h g cap : Nat} {nd : Nat → Int} {ld : Nat → Nat} {l : List Nat}
theorem Hp.keep {S : Nat → Prop} {w' : World} (x : Hp w base h g cap nd ld l) (k : Kp S w w') (hS : ∀ b, base ≤ b → b < w.heap.size → ¬ S b) : Hp w' base h g cap nd ld l := by
  have hg := ownBlock_lt x.o (g := g) rfl
  exact ⟨x.lv.keep k (hS h x.b (x.lv.lt (by simp))), ownsRow_keep x.o k (fun g' e => by have e' : some g = some g' := e; injection e' with e'; subst e'; exact hS g hg.1 hg.2), x.ne, x.b⟩
theorem Hp.keep0 {w' : World} (x : Hp w base h g cap nd ld l) (k : Kp (fun _ => False) w w') : Hp w' base h g cap nd ld l := x.keep k (fun _ _ _ => id)
theorem Hp.c0 (x : Hp w base h g cap nd ld l) : w.cell? ⟨h, 0, none⟩ = some (.slice (some ⟨g, 0, none⟩) l.length cap) := x.lv.cell (j := 0) rfl
theorem Hp.gb (x : Hp w base h g cap nd ld l) : base ≤ g ∧ g < w.heap.size := ownBlock_lt x.o (g := g) rfl
theorem Hp.cn (x : Hp w base h g cap nd ld l) {j : Nat} (hj : j < l.length) : w.cell? ⟨g, j * 2, none⟩ = some (.int .i64 (nd (l.getD j 0))) ∧ w.cell? ⟨g, j * 2 + 1, none⟩ = some (.int .i64 (ld (l.getD j 0) : Int)) := by
  have h1 := x.o.cells (g := g) rfl (j * 2) _ (mflat_node nd ld l j hj).1
  have h2 := x.o.cells (g := g) rfl (j * 2 + 1) _ (mflat_node nd ld l j hj).2
  rw [Addr.add_mid, Nat.zero_add] at h1 h2
  exact ⟨h1, h2⟩
end

theorem hpush (v x : Value) (w : World) : (callMethod (.iface 51 v) "Push" #[x]).run Try.prog w = .ok (.enter 45 #[v, x]) w := by kernel_rfl
theorem hpop (v : Value) (w : World) : (callMethod (.iface 51 v) "Pop" #[]).run Try.prog w = .ok (.enter 52 #[v]) w := by kernel_rfl
theorem hleft (v : Value) (w : World) : (callMethod (.iface 51 v) "amphora/place.left" #[]).run Try.prog w = .ok (.enter 47 #[v]) w := by kernel_rfl
theorem htake (v : Value) (w : World) : (callMethod (.iface 51 v) "amphora/place.take" #[]).run Try.prog w = .ok (.enter 48 #[v]) w := by kernel_rfl

theorem hlv {w : World} {a : Addr} {v : Value} (hc : w.cell? a = some v) : (loadVar 53 a).run Try.prog w = .ok v w := by
  simp [loadVar, hc]
theorem hwrap (a : Addr) (s m : String) (w : World) : (Builtin.ssaWrapNilChk_ #[51] 51 #[.pointer (some a), strVal s, strVal m]).run Try.prog w = .ok (.pointer (some a)) w := rfl
theorem hmeth (k : Nat) (nm : String) (f : Nat) (hm : ((Try.prog.info? 51).bind (fun i => i.methods.find? (·.name == nm))).map (fun m => (m.path, m.func)) = some (#[], some (f, false))) (a : Addr) (w : World) (v : Value) (hc : (loadVar 53 a).run Try.prog w = .ok v w) : (method (k + 1) 51 (.pointer (some a)) nm).run Try.prog w = .ok (f, v) w := by
  obtain ⟨m, hm1, hm2⟩ := Option.map_eq_some_iff.1 hm
  obtain ⟨i, hi, hf⟩ := Option.bind_eq_some_iff.1 hm1
  simp only [Prod.mk.injEq] at hm2
  have hu : Try.prog.underlying 51 = some (.pointer 53) := Try.underlying51
  simp [method, typeInfo, hi, hf, hm2.1, hm2.2, follow, receiverAt, run_underlying hu, Place.get, hwrap, asAddr, hc]
theorem hcall (nm : String) (f : Nat) (args : Array Value) (hm : ((Try.prog.info? 51).bind (fun i => i.methods.find? (·.name == nm))).map (fun m => (m.path, m.func)) = some (#[], some (f, false))) (a : Addr) (w : World) (v : Value) (hc : w.cell? a = some v) : (callMethod (.iface 51 (.pointer (some a))) nm args).run Try.prog w = (callFunc f (#[v] ++ args)).run Try.prog w := by
  have h1 := hmeth (Try.prog.types.size + Made.depth - 1) nm f hm a w v (hlv hc)
  have h2 : Try.prog.types.size + Made.depth - 1 + 1 = Try.prog.types.size + Made.depth := by kernel_rfl
  rw [h2] at h1
  unfold callMethod
  simp only [Sem.run_bind, run_program, Result.andThen_ok, h1]
theorem hlen0 (h : Nat) (v : Value) (w : World) (hc : w.cell? ⟨h, 0, none⟩ = some v) : (callMethod (.iface 51 (.pointer (some ⟨h, 0, none⟩))) "Len" #[]).run Try.prog w = .ok (.enter 43 #[v]) w := by
  rw [hcall "Len" 43 #[] (by kernel_rfl) ⟨h, 0, none⟩ w v hc]
  kernel_rfl
theorem hless0 (h : Nat) (v x y : Value) (w : World) (hc : w.cell? ⟨h, 0, none⟩ = some v) : (callMethod (.iface 51 (.pointer (some ⟨h, 0, none⟩))) "Less" #[x, y]).run Try.prog w = .ok (.enter 44 #[v, x, y]) w := by
  rw [hcall "Less" 44 #[x, y] (by kernel_rfl) ⟨h, 0, none⟩ w v hc]
  kernel_rfl
theorem hswap0 (h : Nat) (v x y : Value) (w : World) (hc : w.cell? ⟨h, 0, none⟩ = some v) : (callMethod (.iface 51 (.pointer (some ⟨h, 0, none⟩))) "Swap" #[x, y]).run Try.prog w = .ok (.enter 46 #[v, x, y]) w := by
  rw [hcall "Swap" 46 #[x, y] (by kernel_rfl) ⟨h, 0, none⟩ w v hc]
  kernel_rfl
end Go.Proofs.Ytneobpdbfbcnmaa
