/- The program's clocks in memory: what they tell, and the map of leads. -/
import Derived.Test.YtjjghgbegecbeaaDm
import Derived.Test.YtjjghgbegecbeaaKb
import Derived.Maps.OwnSet
import Derived.Maps.OwnOps
import Derived.Maps.Views
import Derived.DeepKeys4
import Derived.MapViews
import Derived.Lib.SmallJoins
import Derived.Lib.MinMax
import Derived.StillTailTactics
namespace Go.Proofs.Ytjjghgbegecbeaa
open Go.RowKit Go.Deep Go.Maps

theorem laidOutD : laidOutB Try.prog = true := by kernel_rfl
abbrev pv (a b : Nat) : Value := .agg #[.int .i64 (a : Int), .int .i64 (b : Int)]
/-- what a pair reads as -/
def pk (a b : Nat) : Lit := (DataW.agg [.lit (.int .i64 (a : Int)), .lit (.int .i64 (b : Int))] : DataW Unit).asKey
theorem widePair : (match Try.prog.underlying 82 with | some (.array _ _) | some (.struct _) => true | _ => false) = true := by rw [Try.underlying82]
set_option maxRecDepth 100000 in
theorem pairKey : WideMaps.KeyLaw Try.prog 82 := deep_law_laid laidOutD (m := 2) (by omega) (of_decide_eq_true (by kernel_rfl)) (by kernel_rfl) widePair
theorem pairLaw : Keyed Try.prog 82 := Keyed.of_law pairKey
set_option maxRecDepth 100000 in
theorem pk_key (a b : Nat) (ha : a < 16) (hb : b < 16) : keyOf Try.prog 82 (pv a b) = some (pk a b) := by
  have t : ∀ c : Nat, c < 16 → ∃ n, DataW.trod (fun _ => ()) Try.prog (World.settled Try.prog default) 0 (fun _ => true) true n 3 [Value.int .i64 (c : Int)] = some (DataW.lit (.int .i64 (c : Int)), []) := fun c hc => ⟨1, by
    have hw : (Lit.int .i64 (c : Int)).wf = true := WalkArith.wf_i64 (by omega)
    simp [DataW.trod, Try.underlying3, hw]⟩
  exact (keyOf_asKey (by kernel_rfl) widePair (by simp [Value.formed, Try.underlying82]; kernel_rfl) (Joins.shut_agg2 (enc := fun _ => ()) (w := World.settled Try.prog default) (base := 0) (spare := fun _ => true) (held := true) Try.underlying82 (by kernel_rfl) (by kernel_rfl) (t a ha) (t b hb))).1
theorem pk_inj {a b c d : Nat} (ha : a < 16) (hb : b < 16) (hc : c < 16) (hd : d < 16) (h : pk a b = pk c d) : a = c ∧ b = d := by
  have h1 := pk_key a b ha hb
  have h2 := pk_key c d hc hd
  rw [h] at h1
  have := pairLaw.inj h1 h2
  simp at this
  omega
theorem pk_lit (a b : Nat) (ha : a < 16) (hb : b < 16) : WideAt.IsKeyLit (pk a b) := pairLaw.key (pk_key a b ha hb)

open Classical in
theorem nodup_le : ∀ (l L : List Lit), l.Pairwise (fun p q => p ≠ q) → (∀ x ∈ l, x ∈ L) → l.length ≤ L.length
  | [], _, _, _ => Nat.zero_le _
  | x :: l, L, h, hs => by
    obtain ⟨h1, h2⟩ := List.pairwise_cons.1 h
    have hx := hs x (by simp)
    have := nodup_le l (L.erase x) h2 (fun y hy => (List.mem_erase_of_ne (fun e => h1 y hy e.symm)).2 (hs y (by simp [hy])))
    rw [List.length_erase_of_mem hx] at this
    have : 0 < L.length := List.length_pos_of_mem hx
    simp
    omega

/-- block m is a map that holds the leads L of clocks below N -/
def Lm (w : World) (m N : Nat) (L : Nat → Nat → Nat) : Prop :=
  ∃ D : DataW Unit, w.ownsMap Try.prog 82 (plainElem Try.prog 3) m (N * N) D ∧ (∀ a b, a < N → b < N → D.atKey (pk a b) (.lit (.int .i64 0)) = .lit (.int .i64 ((L a b : Nat) : Int))) ∧ ∀ kl, Maps.has D kl = true → ∃ a b, a < N ∧ b < N ∧ kl = pk a b
theorem Lm.lt {w : World} {m N : Nat} {L : Nat → Nat → Nat} (h : Lm w m N L) : m < w.heap.size := by obtain ⟨D, h1, _⟩ := h; exact h1.lt
theorem Lm.keep {S : Nat → Prop} {w w' : World} {m N : Nat} {L : Nat → Nat → Nat} (h : Lm w m N L) (k : Kp S w w') (hS : ¬ S m) : Lm w' m N L := by
  have hlt := h.lt
  obtain ⟨D, ⟨es, clock, hb, r⟩, h2⟩ := h
  exact ⟨D, ⟨es, clock, (k.block m hlt hS).trans hb, r⟩, h2⟩
theorem Lm.congr {w : World} {m N : Nat} {L L' : Nat → Nat → Nat} (h : Lm w m N L) (e : ∀ a b, a < N → b < N → L a b = L' a b) : Lm w m N L' := by
  obtain ⟨D, h1, h2, h3⟩ := h
  exact ⟨D, h1, fun a b ha hb => by rw [← e a b ha hb]; exact h2 a b ha hb, h3⟩
theorem Lm.made (w : World) (N : Nat) : Lm (w.alloc (.map #[] 0)) w.heap.size N (fun _ _ => 0) :=
  ⟨_, (World.ownsMap_made w _ _ _).mono (Nat.zero_le _), fun a b _ _ => rfl, fun kl h => (by cases h)⟩
theorem pairs_mem {N a b : Nat} (ha : a < N) (hb : b < N) : pk a b ∈ (List.range N).flatMap (fun a => (List.range N).map (fun b => pk a b)) :=
  List.mem_flatMap.2 ⟨a, List.mem_range.2 ha, List.mem_map.2 ⟨b, List.mem_range.2 hb, rfl⟩⟩
theorem flat_len {f : Nat → List Lit} {k : Nat} (h : ∀ x, (f x).length = k) : ∀ l : List Nat, (l.flatMap f).length = l.length * k
  | [] => by simp
  | x :: l => by rw [List.flatMap_cons, List.length_append, h, flat_len h l, List.length_cons, Nat.add_mul]; omega
theorem pairs_len (N : Nat) : ((List.range N).flatMap (fun a => (List.range N).map (fun b => pk a b))).length = N * N := by
  rw [flat_len (k := N) (fun x => by simp), List.length_range]
theorem Lm.put {w' : World} {m N i j c q : Nat} {L : Nat → Nat → Nat} {D : DataW Unit} (hi : i < N) (hj : j < N) (hN : N ≤ 16)
    (h2 : (∀ a b, a < N → b < N → D.atKey (pk a b) (.lit (.int .i64 0)) = .lit (.int .i64 ((L a b : Nat) : Int))) ∧ ∀ kl, Maps.has D kl = true → ∃ a b, a < N ∧ b < N ∧ kl = pk a b)
    (h1 : IsMap D) (h3 : w'.ownsMap Try.prog 82 (plainElem Try.prog 3) m q (D.put (pk i j) (.lit (.int .i64 (c : Int))))) :
    Lm w' m N (fun a b => if a = i ∧ b = j then c else L a b) := by
  have hk := pk_lit i j (by omega) (by omega)
  have hkeys : ∀ kl, Maps.has (D.put (pk i j) (.lit (.int .i64 (c : Int)))) kl = true → ∃ a b, a < N ∧ b < N ∧ kl = pk a b := fun kl h => by
    by_cases e : kl = pk i j
    · exact ⟨i, j, hi, hj, e⟩
    · rw [has_put_other e] at h
      exact h2.2 kl h
  refine ⟨_, ?_, fun a b ha hb => ?_, hkeys⟩
  · obtain ⟨es, e, hp⟩ := h3.tidy pairLaw
    obtain ⟨es', clock, hb, F, hs, hD⟩ := h3
    refine ⟨es', clock, hb, F, ?_, hD⟩
    rw [hD] at e
    have hl : es'.size = es.length := by
      have := congrArg (fun d : DataW Unit => Maps.size d) e
      simp only [Maps.size] at this
      rw [length_sorted] at this
      simpa using this
    rw [hl]
    have := nodup_le (es.map (·.1)) ((List.range N).flatMap (fun a => (List.range N).map (fun b => pk a b))) (by rw [List.pairwise_map]; exact hp) (fun x hx => by
      obtain ⟨p, hp1, rfl⟩ := List.mem_map.1 hx
      obtain ⟨a, b, ha, hb', e'⟩ := hkeys p.1 (by
        rw [hD, e]
        refine List.any_eq_true.2 ⟨p, hp1, WideAt.sameKey_self ?_⟩
        have hm : p ∈ es'.toList.map (WideElems.rg Try.prog 82 (plainElem Try.prog 3)) := by
          injection e with e
          rw [← e] at hp1
          exact (WideShapes.sorted_perm _).mem_iff.1 hp1
        obtain ⟨x, hx1, hx2⟩ := List.mem_map.1 hm
        obtain ⟨y, hy⟩ := F.reads x hx1
        rw [WideElems.rg_of hy] at hx2
        subst hx2
        exact pairLaw.key (WideElems.rd_key hy))
      rw [e']
      exact pairs_mem ha hb')
    rw [pairs_len, List.length_map] at this
    exact this
  · show _ = DataW.lit (.int .i64 (((if a = i ∧ b = j then c else L a b) : Nat) : Int))
    by_cases e : a = i ∧ b = j
    · rw [if_pos e]
      obtain ⟨rfl, rfl⟩ := e
      rw [atKey_put_same h1 hk]
    · rw [atKey_put_other (fun e' => e (pk_inj (by omega) (by omega) (by omega) (by omega) e')), if_neg e]
      exact h2.1 a b ha hb

theorem infoIntD : (Try.prog.info? 3).map (fun i => (i.zero, i.size, i.bytes)) = some (some (.int .i64 0), 1, 8) := by kernel_rfl
theorem zeroInt (w : World) : (zeroValue 3).run Try.prog w = .ok (.int .i64 0) w := by kernel_rfl
theorem wpList_lookup_lead {ops : Array Oper} {rest : List Oper} {o : Oper} {a : Act} {w : World} {Q : Exit → Act → World → Prop} (hg : o.guard = none) (mm x : Operand) (hop : o.op = Op.lookup 78 mm x false)
    (m N : Nat) (L : Nat → Nat → Nat) (h : Lm w m N L) (hN : N ≤ 16) (hm : a.eval mm = .map (some m)) (i j : Nat) (hi : i < N) (hj : j < N) (hx : a.eval x = pv i j)
    (hK : wpList Try.prog ops Q rest (a.put o.dst (.int .i64 ((L i j : Nat) : Int))) w) : wpList Try.prog ops Q (o :: rest) a w := by
  obtain ⟨D, h1, h2, h3⟩ := h
  refine wpList_lookup_own_int _ hg mm x 78 hop 82 3 .i64 pairLaw Try.underlying78 Try.underlying3 (zeroInt w) m (N * N) D hm h1 _ _ hx (pk_key i j (by omega) (by omega)) ?_
  intro c hat _
  rw [h2 i j hi hj] at hat
  injection hat with hat
  injection hat with _ hat
  rw [← hat]
  exact hK
theorem wpList_store_lead {ops : Array Oper} {rest : List Oper} {o : Oper} {a : Act} {w : World} {Q : Exit → Act → World → Prop} (hg : o.guard = none) (mm x v : Operand) (hop : o.op = Op.mapUpdate 78 mm x v)
    (m N : Nat) (L : Nat → Nat → Nat) (h : Lm w m N L) (hN : N ≤ 16) (hm : a.eval mm = .map (some m)) (i j c : Nat) (hi : i < N) (hj : j < N) (hx : a.eval x = pv i j) (hc : (c : Int) ≤ 1000) (hv : a.eval v = .int .i64 (c : Int))
    (hK : ∀ w', Lm w' m N (fun a b => if a = i ∧ b = j then c else L a b) → Kp (fun x => x = m) w w' → wpList Try.prog ops Q rest (a.put o.dst undef) w') : wpList Try.prog ops Q (o :: rest) a w := by
  obtain ⟨D, h1, h2⟩ := h
  have hNN : N * N ≤ 256 := Nat.le_trans (Nat.mul_le_mul hN hN) (by decide)
  refine wpList_mapUpdate_own _ hg mm x v 78 hop 82 3 pairLaw Try.underlying78 _ m (N * N) D hm h1 (by unfold maxLen; omega) _ _ _ hx hv (pk_key i j (by omega) (by omega)) _ [] (plainElem_int Try.underlying3 (WalkArith.wf_i64 (by omega))) ?_
  intro w' h3 hg'
  exact hK w' (Lm.put hi hj hN h2 h1.isMap h3) ((grownBy_kp hg').mono (fun b _ e => by cases e; rfl))

/-- clocks at block b: N of them, what they tell at t, the map of leads at m -/
structure Ck (w : World) (b t m N : Nat) (T : Nat → Nat) (L : Nat → Nat → Nat) : Prop where
  c0 : w.cell? ⟨b, 0, none⟩ = some (.slice (some ⟨t, 0, none⟩) N N)
  c1 : w.cell? ⟨b, 1, none⟩ = some (.map (some m))
  row : w.rowIs t 3 N (fun j => .int .i64 ((T j : Nat) : Int))
  mp : Lm w m N L
  bt : b ≠ t
  bm : b ≠ m
  tm : t ≠ m
  n1 : 1 ≤ N
  n2 : N ≤ 16
theorem Ck.lt {w : World} {b t m N : Nat} {T : Nat → Nat} {L : Nat → Nat → Nat} (h : Ck w b t m N T L) : b < w.heap.size := World.block_lt_of_cell? w _ h.c0
theorem Ck.keep {S : Nat → Prop} {w w' : World} {b t m N : Nat} {T : Nat → Nat} {L : Nat → Nat → Nat} (h : Ck w b t m N T L) (k : Kp S w w') (hb : ¬ S b) (ht : ¬ S t) (hm : ¬ S m) : Ck w' b t m N T L :=
  ⟨k.cellv h.c0 hb, k.cellv h.c1 hb, k.row h.row ht, h.mp.keep k hm, h.bt, h.bm, h.tm, h.n1, h.n2⟩

theorem neq_nil (a : Addr) (n c : Nat) (w : World) : (binOp .neq 46 (.slice (some a) n c) (.slice none 0 0)).run Try.prog w = .ok (.bool true) w :=
  run_neq_slice_nil_any w 46 3 (some a) n c 0 0 Try.underlying46

set_option maxRecDepth 100000 in
set_option maxHeartbeats 400000 in
theorem ckmade_ok {w : World} {b t m N : Nat} {T : Nat → Nat} {L : Nat → Nat → Nat} (h : Ck w b t m N T L) :
    Calls Try.prog 52 #[.pointer (some ⟨b, 0, none⟩)] w fun e w' => e = .returned (.bool true) ∧ w' = w := by
  have c0 := h.c0
  have hne := neq_nil ⟨t, 0, none⟩ N N
  clear h
  go_enter Try.func52, Try.ntmps52
  go_wp2
  go_ret
  exact ⟨rfl, rfl⟩

set_option maxRecDepth 100000 in
set_option maxHeartbeats 400000 in
theorem ckhas_ok {w : World} {b t m N : Nat} {T : Nat → Nat} {L : Nat → Nat → Nat} (h : Ck w b t m N T L) (n : Nat) (hn : (n : Int) < (N : Int)) :
    Calls Try.prog 40 #[.pointer (some ⟨b, 0, none⟩), .int .i64 (n : Int)] w fun e w' => e = .returned (.bool true) ∧ w' = w := by
  have H : Hid (Calls _ _ _ w _) := ckmade_ok h
  have c0 := h.c0
  have d1 : decide ((n : Int) < (N : Int)) = true := decide_eq_true hn
  clear h
  go_enter Try.func40, Try.ntmps40
  go_wp2_with (go_at_call 52; refine H.out.mono ?_; rintro e w' ⟨rfl, rfl⟩)
  go_ret
  exact ⟨rfl, rfl⟩

set_option maxRecDepth 100000 in
set_option maxHeartbeats 400000 in
theorem ckhas_not {w : World} {b t m N : Nat} {T : Nat → Nat} {L : Nat → Nat → Nat} (h : Ck w b t m N T L) (n : Int) (hn : n < 0 ∨ (N : Int) ≤ n) :
    Calls Try.prog 40 #[.pointer (some ⟨b, 0, none⟩), .int .i64 n] w fun e w' => e = .returned (.bool false) ∧ w' = w := by
  have H : Hid (Calls _ _ _ w _) := ckmade_ok h
  have c0 := h.c0
  clear h
  by_cases h0 : n < 0
  · have d1 : decide (0 ≤ n) = false := by simp; omega
    clear hn
    go_enter Try.func40, Try.ntmps40
    go_wp2_with (go_at_call 52; refine H.out.mono ?_; rintro e w' ⟨rfl, rfl⟩)
    go_ret
    exact ⟨rfl, rfl⟩
  · have d1 : decide (0 ≤ n) = true := by simp; omega
    have d2 : decide (n < (N : Int)) = false := by simp; omega
    clear hn h0
    go_enter Try.func40, Try.ntmps40
    go_wp2_with (go_at_call 52; refine H.out.mono ?_; rintro e w' ⟨rfl, rfl⟩)
    go_ret
    exact ⟨rfl, rfl⟩

end Go.Proofs.Ytjjghgbegecbeaa
