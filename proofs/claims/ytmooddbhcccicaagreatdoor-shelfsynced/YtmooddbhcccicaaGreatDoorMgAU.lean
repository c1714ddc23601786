/- Texts of this proof, joined: Pl5, Bf. -/
import Derived.Test.YtmooddbhcccicaaGreatDoorMgAJ
import Derived.Test.YtmooddbhcccicaaGreatDoorMgAT
/- The verifier's written: a plate of six sectors, of which some were written. -/
namespace Go.Proofs.YtmooddbhcccicaaGreatDoor
open Go.RowKit Go.Deep Go.Maps

/-- the calls of a list, as they lie -/
structure Dos (w : World) (v : Value) (L : Nat) : Prop where
  form : ∃ (g : Option Addr) (gb go cap : Nat), v = .slice g L cap ∧ (0 < L → g = some ⟨gb, go, none⟩) ∧ ∀ r, r < L → ∃ (op i tn nn : Int) (p : Option Addr) (nb cb : Nat) (xs : List Nat) (pk : Option Addr) (nk ck : Nat),
    w.cell? ⟨gb, go + r * 6, none⟩ = some (.int .i64 op) ∧ w.cell? ⟨gb, go + r * 6 + 1, none⟩ = some (.int .i64 i) ∧ w.cell? ⟨gb, go + r * 6 + 2, none⟩ = some (.int .i64 tn) ∧ w.cell? ⟨gb, go + r * 6 + 3, none⟩ = some (.int .i64 nn) ∧
    w.cell? ⟨gb, go + r * 6 + 4, none⟩ = some (.slice p nb cb) ∧ w.cell? ⟨gb, go + r * 6 + 5, none⟩ = some (.slice pk nk ck) ∧ Rb w p nb xs
  many : (L : Int) ≤ 9223372036854775807

/-- texts of 64 bytes each, in blocks of their own -/
structure Nows (w : World) (b d m t n : Nat) (V : Nat → Value) (N : Nat → List Nat) : Prop where
  top : w.rowIs t 34 n V
  row : ∀ r, r < n → ∃ bb o c, V r = .slice (some ⟨bb, o, none⟩) 64 c ∧ Rb w (some ⟨bb, o, none⟩) 64 (N r) ∧ bb ≠ t ∧ bb ≠ d ∧ bb ≠ m ∧ bb ≠ b
  tb : t ≠ b ∧ t ≠ d ∧ t ≠ m
theorem Nows.keep {S : Nat → Prop} {w w' : World} {b d m t n : Nat} {V : Nat → Value} {N : Nat → List Nat} (h : Nows w b d m t n V N) (k : Kp S w w') (hS : ∀ x, S x → x = b ∨ x = d ∨ x = m) : Nows w' b d m t n V N := by
  refine ⟨k.row h.top (fun e => by have h1 := hS _ e; obtain ⟨h2, h3, h4⟩ := h.tb; rcases h1 with h1 | h1 | h1 <;> contradiction), fun r hr => ?_, h.tb⟩
  obtain ⟨bb, o, c, h1, h2, h3, h4, h5, h6⟩ := h.row r hr
  exact ⟨bb, o, c, h1, h2.keep k (fun a ha _ e => by cases ha; have h1 := hS _ e; dsimp only at h1; rcases h1 with h1 | h1 | h1 <;> contradiction), h3, h4, h5, h6⟩

theorem info42 : (Tryz.prog.info? 34).map (fun i => (i.zero, i.size, i.bytes)) = some (some (.slice none 0 0), 1, 24) := by kernel_rfl

/-- what a copy of bytes leaves in 64 noughts -/
def cp64 (xs : List Nat) : List Nat := (xs ++ List.replicate 64 0).take 64
theorem cp64_sec {xs : List Nat} (h : ∀ x ∈ xs, x < 256) : Sec (cp64 xs) := by
  refine ⟨by simp [cp64], fun x hx => ?_⟩
  rcases List.mem_append.1 (List.mem_of_mem_take hx) with hx | hx
  · exact h x hx
  · rw [List.eq_of_mem_replicate hx]; omega
theorem cp64_get (xs : List Nat) {j : Nat} (hj : j < 64) : (cp64 xs).getD j 0 = if j < xs.length then xs.getD j 0 else 0 := by
  unfold cp64
  rw [List.getD_eq_getElem?_getD, List.getElem?_take_of_lt hj]
  by_cases h : j < xs.length
  · rw [if_pos h, List.getElem?_append_left h, List.getD_eq_getElem?_getD]
  · rw [if_neg h, List.getElem?_append_right (by omega), List.getElem?_replicate]
    split <;> rfl
theorem wpList_copy_64 {w : World} {ops : Array Oper} {rest : List Oper} {o : Oper} {a : Act} {Q : Exit → Act → World → Prop} (hgd : o.guard = none) (dd s : Operand)
    (ho : o.op = .call { callee := .builtin .copy, args := #[dd, s], argTypes := #[34, 34] }) (d : Nat) (p : Option Addr) (nb cb : Nat) (hd : a.eval dd = .slice (some ⟨d, 0, none⟩) 64 64) (hs : a.eval s = .slice p nb cb)
    (hg : w.rowIs d 5 64 (fun _ => .int .u8 0)) (xs : List Nat) (hr : Rb w p nb xs)
    (h : ∀ w', Kp (fun b => b = d) w w' → Rb w' (some ⟨d, 0, none⟩) 64 (cp64 xs) → wpList Tryz.prog ops Q rest (a.put o.dst (goInt (Nat.min nb 64))) w') : wpList Tryz.prog ops Q (o :: rest) a w := by
  have hfin : ∀ w', w'.rowIs d 5 64 (fun j => if 0 ≤ j ∧ j < 0 + Nat.min nb 64 then .int .u8 ((xs.getD (j - 0) 0 : Nat) : Int) else .int .u8 0) → Rb w' (some ⟨d, 0, none⟩) 64 (cp64 xs) := fun w' hr' =>
    ⟨(cp64_sec hr.byte).1, (cp64_sec hr.byte).2, fun j hj => ⟨d, 0, rfl, by
      have hmin : Nat.min nb 64 = min nb 64 := rfl
      rw [Nat.zero_add, hr'.cell hj, cp64_get xs hj, hr.len]
      by_cases h1 : j < nb
      · rw [if_pos ⟨Nat.zero_le _, by rw [hmin]; omega⟩, if_pos h1]; rfl
      · rw [if_neg (by rw [hmin]; omega), if_neg h1]; rfl⟩⟩
  by_cases h0 : nb = 0
  · subst h0
    obtain ⟨ii, hi, hz⟩ := Option.map_eq_some_iff.1 info5
    simp only [Prod.mk.injEq] at hz
    have hrun : (Builtin.copy_ #[34, 34] o.type #[.slice (some ⟨d, 0, none⟩) 64 64, .slice p 0 cb]).run Tryz.prog w = .ok (goInt 0) w := by
      cases p <;> simp [Builtin.copy_, run_underlying Tryz.underlying34, sizeOf, typeInfo, hi, Builtin.lenOf, Builtin.firstCells, loadCells, loadCellsFrom, storeCells]
    refine wpList_plain hgd fun K hK => ?_
    unfold Oper.wp
    simp [execOp, ho, resolve, invoke, builtin, hd, hs, hrun, Result.andThen]
    exact hK _ _ (h w (Kp.refl _ _) (hfin w (hg.congr (fun j _ => by rw [if_neg (by simp)]))))
  · obtain ⟨bb, oo, rfl, hcell⟩ := hr.pt (by omega)
    have hmin : Nat.min nb 64 = min nb 64 := rfl
    have hr2 : Rb w (some ⟨bb, oo, none⟩) (Nat.min nb 64) (xs.take (Nat.min nb 64)) :=
      ⟨by rw [List.length_take, hr.len, hmin]; omega, fun x hx => hr.byte x (List.mem_of_mem_take hx), fun j hj => ⟨bb, oo, rfl, by
        rw [hcell j (by rw [hmin] at hj; omega), List.getD_eq_getElem?_getD, List.getD_eq_getElem?_getD, List.getElem?_take_of_lt hj]⟩⟩
    refine wpList_copy_sec hgd dd s ho d 0 64 bb oo cb nb (Nat.min nb 64) rfl hd hs 64 _ hg (Nat.le_refl _) _ hr2 ?_
    intro w' k' _ r'
    refine h w' k' (hfin w' (r'.congr (fun j hj => ?_)))
    by_cases h1 : 0 ≤ j ∧ j < 0 + Nat.min nb 64
    · rw [if_pos h1, if_pos h1, List.getD_eq_getElem?_getD, List.getD_eq_getElem?_getD, List.getElem?_take_of_lt (by omega)]
    · rw [if_neg h1, if_neg h1]

theorem nowOf_sync {w : World} {b d m n q : Nat} {dur : List Nat} {T : Nat → Option (List Nat)} (h : Pt w b d m n q dur T) {i : Nat} (hi : i < n) : nowOf (durAll dur T n) (fun _ => none) i = nowOf dur T i := by
  have hl : (durAll dur T n).length = n * 64 := by simp [durAll]
  have hget : ∀ j, j < n * 64 → (durAll dur T n)[j]? = some (Sf dur T (fun _ => false) j) := fun j hj => by unfold durAll; rw [List.getElem?_map, List.getElem?_range hj]; rfl
  obtain ⟨D, _, hDD, _⟩ := h.mp
  have key : ∀ ys : List Nat, ys.length = 64 → (∀ j, j < 64 → ys[j]? = some (Sf dur T (fun _ => false) (i * 64 + j))) → (((durAll dur T n).drop (i * 64)).take 64) = ys := fun ys hy hj => by
    apply List.ext_getElem?
    intro j
    by_cases h64 : j < 64
    · rw [List.getElem?_take_of_lt h64, List.getElem?_drop, hget _ (by omega), hj j h64]
    · rw [List.getElem?_eq_none (by rw [List.length_take]; omega), List.getElem?_eq_none (by omega)]
  unfold nowOf
  show ((durAll dur T n).drop (i * 64)).take 64 = _
  cases hT : T i with
  | none =>
    show _ = (dur.drop (i * 64)).take 64
    refine key _ (h.durSec hi).1 (fun j hj => ?_)
    rw [List.getElem?_take_of_lt hj, List.getElem?_drop]
    unfold Sf
    rw [show (i * 64 + j) / 64 = i from by omega, hT]
    show _ = some (dur.getD (i * 64 + j) 0)
    rw [List.getD_eq_getElem?_getD, List.getElem?_eq_getElem (by rw [h.len]; omega)]; rfl
  | some xs =>
    have hs := ((hDD i hi).2 xs hT).1
    show _ = xs
    refine key _ hs.1 (fun j hj => ?_)
    unfold Sf
    rw [show (i * 64 + j) / 64 = i from by omega, hT, show (i * 64 + j) % 64 = j from by omega]
    simp only [Bool.false_eq_true, if_false]
    rw [List.getD_eq_getElem?_getD, List.getElem?_eq_getElem (by rw [hs.1]; exact hj)]; rfl

/-- what written leaves -/
def Wst (w w' : World) (b d m q t : Nat) : Prop := Kp (fun _ => False) w w' ∧ (q : Int) ≤ 9223372036854775807 ∧ w.heap.size ≤ b ∧ w.heap.size ≤ d ∧ w.heap.size ≤ m ∧ w.heap.size ≤ t ∧
  ∃ (V : Nat → Value) (N : Nat → List Nat) (dur : List Nat) (T : Nat → Option (List Nat)), Pt w' b d m 6 q dur T ∧ Nows w' b d m t 6 V N ∧ ∀ i, i < 6 → N i = nowOf dur T i
def m6 (n : Int) : Nat := ((n % 18446744073709551616) % 6).toNat
theorem m6_lt (n : Int) : (m6 n : Int) < 6 := by unfold m6; omega
theorem m6_eq (n : Int) : wrap64 ((IntKind.u64.wrap n).tmod 6) = (m6 n : Int) := by
  have h : IntKind.u64.wrap n = n % 18446744073709551616 := by simp [IntKind.wrap, IntKind.bits, IntKind.signed]
  rw [h]
  have h0 : 0 ≤ n % 18446744073709551616 := Int.emod_nonneg _ (by omega)
  rw [Int.tmod_eq_emod_of_nonneg h0]
  unfold m6 wrap64
  omega
theorem Nows.put {w w' : World} {b d m t n : Nat} {V : Nat → Value} {N : Nat → List Nat} {i g c : Nat} {xs : List Nat} (h : Nows w b d m t n V N) (_hi : i < n) (hr : Rb w (some ⟨g, 0, none⟩) 64 xs) (hg : g ≠ t ∧ g ≠ d ∧ g ≠ m ∧ g ≠ b) (hw : w' = w.setCell ⟨t, i, none⟩ (.slice (some ⟨g, 0, none⟩) 64 c)) :
    Nows w' b d m t n (fun j => if j = i then .slice (some ⟨g, 0, none⟩) 64 c else V j) (fun j => if j = i then xs else N j) := by
  have ks : Kp (fun x => x = t) w w' := by rw [hw]; exact (Kp.refl (fun x => x = t) w).setCell (a := ⟨t, i, none⟩) (fun _ => rfl) _
  refine ⟨by rw [hw]; exact h.top.set i _, fun r hr' => ?_, h.tb⟩
  by_cases e : r = i
  · simp only [if_pos e]
    exact ⟨g, 0, c, rfl, hr.keep ks (fun a ha _ e => by cases ha; exact hg.1 e), hg⟩
  · simp only [if_neg e]
    obtain ⟨bb, o, c, h1, h2, h3, h4⟩ := h.row r hr'
    exact ⟨bb, o, c, h1, h2.keep ks (fun a ha _ e => by cases ha; exact h3 e), h3, h4⟩

end Go.Proofs.YtmooddbhcccicaaGreatDoor

/- What a record's sector, and a head, say when they are read (plain). -/
namespace Go.Proofs.YtmooddbhcccicaaGreatDoor
set_option linter.unusedVariables false
set_option linter.unusedSimpArgs false
open Go.RowKit Go.Deep

theorem getD_app1 {l m : List Nat} {j : Nat} (h : j < l.length) : (l ++ m).getD j 0 = l.getD j 0 := by
  rw [List.getD_eq_getElem?_getD, List.getD_eq_getElem?_getD, List.getElem?_append_left h]
theorem getD_app2 {l m : List Nat} {j : Nat} (h : l.length ≤ j) : (l ++ m).getD j 0 = m.getD (j - l.length) 0 := by
  rw [List.getD_eq_getElem?_getD, List.getD_eq_getElem?_getD, List.getElem?_append_right h]
theorem nouW_len (n : Nat) : (nouW n).length = n := by unfold nouW; exact List.length_replicate
theorem nouW_get (n j : Nat) : (nouW n).getD j 0 = 0 := by
  unfold nouW
  rw [List.getD_eq_getElem?_getD, List.getElem?_replicate]
  split <;> rfl
theorem sealB_len {xs : List Nat} (h : xs.length = 64) : (sealB xs).length = 64 := by
  unfold sealB
  simp [big_length, h]
theorem sealB_get {xs : List Nat} (h : xs.length = 64) {j : Nat} (hj : j < 59) : (sealB xs).getD j 0 = xs.getD j 0 := by
  unfold sealB
  rw [List.append_assoc, getD_app1 (by rw [List.length_take, h]; omega), getD_take0 _ _ _ hj]
theorem sealB_last {xs : List Nat} (h : xs.length = 64) : (sealB xs).getD 63 0 = 167 := by
  unfold sealB
  rw [getD_app2 (by rw [List.length_append, List.length_take, big_length, h]; decide)]
  rw [List.length_append, List.length_take, big_length, h]
  rfl
theorem pcP_len {u : Nat} {ys : List Nat} {f l : Bool} (h : ys.length ≤ 40) : (pcP u ys f l).length = 64 := by
  have h1 : (spl ((nouW 64).set 0 114) 1 (big u 8)).length = 64 := by rw [spl_len (by rw [List.length_set, nouW_len, big_length]; omega), List.length_set, nouW_len]
  unfold pcP
  rw [spl_len (by rw [List.length_set, List.length_set, List.length_set, h1]; omega), List.length_set, List.length_set, List.length_set, h1]
theorem pcP_get {u : Nat} {ys : List Nat} {f l : Bool} (h : ys.length ≤ 40) (j : Nat) : (pcP u ys f l).getD j 0 = if 12 ≤ j ∧ j < 12 + ys.length then ys.getD (j - 12) 0 else if j = 11 then l.toNat else if j = 10 then f.toNat else if j = 9 then ys.length else if 1 ≤ j ∧ j < 1 + 8 then (big u 8).getD (j - 1) 0 else if j = 0 then 114 else 0 := by
  have h1 : (spl ((nouW 64).set 0 114) 1 (big u 8)).length = 64 := by rw [spl_len (by rw [List.length_set, nouW_len, big_length]; omega), List.length_set, nouW_len]
  unfold pcP
  rw [spl_get (by rw [List.length_set, List.length_set, List.length_set, h1]; omega)]
  rw [getD_set0 _ _ _ _ (by rw [List.length_set, List.length_set, h1]; omega), getD_set0 _ _ _ _ (by rw [List.length_set, h1]; omega), getD_set0 _ _ _ _ (by rw [h1]; omega)]
  rw [spl_get (by rw [List.length_set, nouW_len, big_length]; omega), getD_set0 _ _ _ _ (by rw [nouW_len]; omega), nouW_get, big_length]
theorem mid_eq {xs ys : List Nat} {o : Nat} (h : o + ys.length ≤ xs.length) (hg : ∀ j, j < ys.length → xs.getD (o + j) 0 = ys.getD j 0) : (xs.drop o).take ys.length = ys := by
  refine list_ext0 (by rw [List.length_take, List.length_drop]; omega) fun j hj => ?_
  rw [List.length_take, List.length_drop] at hj
  rw [getD_take0 _ _ _ (by omega), ← hg j (by omega), List.getD_eq_getElem?_getD, List.getD_eq_getElem?_getD, List.getElem?_drop]
theorem numAt_eq {xs : List Nat} {o u : Nat} (hu : u < 9223372036854775808) (h : o + 8 ≤ xs.length) (hg : ∀ j, j < 8 → xs.getD (o + j) 0 = (big u 8).getD j 0) : numAt xs o = (u : Int) := by
  have h1 := mid_eq (ys := big u 8) (by rw [big_length]; exact h) (fun j hj => hg j (by rw [big_length] at hj; exact hj))
  rw [big_length] at h1
  unfold numAt
  rw [h1, hfW_big 8 u (Nat.lt_trans hu (by decide))]
  unfold i64Of
  rw [if_pos hu]
theorem pcB_say {u : Nat} {ys : List Nat} {f l : Bool} (hu : u < 9223372036854775808) (h : ys.length ≤ 40) : numAt (pcB u ys f l) 1 = (u : Int) ∧ bytP (pcB u ys f l) = ys ∧ fstP (pcB u ys f l) = f ∧ lstP (pcB u ys f l) = l := by
  have hl := pcP_len (u := u) (f := f) (l := l) h
  have hsl := sealB_len hl
  have hg : ∀ j, j < 59 → (pcB u ys f l).getD j 0 = (pcP u ys f l).getD j 0 := fun j hj => sealB_get hl hj
  have h9 : (pcB u ys f l).getD 9 0 = ys.length := by
    rw [hg 9 (by decide), pcP_get h, if_neg (by omega), if_neg (by omega), if_neg (by omega), if_pos rfl]
  have hc : cntP (pcB u ys f l) = ys.length := by unfold cntP; rw [h9]; omega
  refine ⟨numAt_eq hu (by show 1 + 8 ≤ (sealB _).length; omega) fun j hj => ?_, ?_, ?_, ?_⟩
  · rw [hg _ (by omega), pcP_get h, if_neg (by omega), if_neg (by omega), if_neg (by omega), if_neg (by omega), if_pos (by omega)]
    rw [show 1 + j - 1 = j by omega]
  · unfold bytP
    rw [hc]
    refine mid_eq (by show 12 + ys.length ≤ (sealB _).length; omega) fun j hj => ?_
    rw [hg _ (by omega), pcP_get h, if_pos (by omega)]
    rw [show 12 + j - 12 = j by omega]
  · unfold fstP
    rw [hg 10 (by decide), pcP_get h, if_neg (by omega), if_neg (by omega), if_pos rfl]
    cases f <;> rfl
  · unfold lstP
    rw [hg 11 (by decide), pcP_get h, if_neg (by omega), if_pos rfl]
    cases l <;> rfl
theorem u64Of_nat {u : Nat} (hu : u < 9223372036854775808) : u64Of (u : Int) = u := by
  unfold u64Of
  omega
/-- a sector that is written is the right one for its own place alone -/
theorem okR_pcB {u : Nat} {ys : List Nat} {f l : Bool} (hu : u < 9223372036854775808) (h : 1 ≤ ys.length ∧ ys.length ≤ 40) (hl : l = true ∨ ys.length = 40) (i : Nat) (hf : f = decide (i = 0)) : okR (pcB u ys f l) (u : Int) i = true := by
  obtain ⟨e1, e2, e3, e4⟩ := pcB_say (f := f) (l := l) hu h.2
  unfold okR rightP
  rw [e1, e2, e3, e4, u64Of_nat hu, decide_eq_true h.1, decide_eq_true rfl, decide_eq_true rfl, decide_eq_true hf]
  rcases hl with hl | hl
  · rw [hl]; rfl
  · rw [decide_eq_true hl, Bool.or_true]; rfl
/-- what is never a record's sector -/
def Bad (b : List Nat) : Prop := ∀ num i, okR b num i = false
theorem Bad.of_last {b : List Nat} (h : b.getD 63 0 ≠ 167) : Bad b := fun num i => by
  cases ho : okR b num i with
  | false => rfl
  | true =>
    obtain ⟨_, _, h3⟩ := okR_len ho
    unfold okR rightP at ho
    simp only [Bool.and_eq_true, decide_eq_true_eq] at ho
    exact absurd (by rw [ho.1.2.2]; exact sealB_last (pcP_len h3)) h
theorem bad_nou : Bad (nouW 64) := Bad.of_last (by rw [nouW_get]; decide)
theorem bad_torn {xs : List Nat} {c : Nat} (hc : c ≤ 63) (hx : xs.length = 64) : Bad (xs.take c ++ (nouW 64).drop c) := Bad.of_last (by
  rw [getD_app2 (by rw [List.length_take]; omega)]
  unfold nouW
  rw [List.drop_replicate]
  rw [List.getD_eq_getElem?_getD, List.getElem?_replicate]
  split <;> decide)

theorem hdP_len (a b c d : Nat) : (hdP a b c d).length = 64 := by
  unfold hdP
  have h1 : (spl ((nouW 64).set 0 104) 1 (big a 8)).length = 64 := by rw [spl_len (by rw [List.length_set, nouW_len, big_length]; omega), List.length_set, nouW_len]
  have h2 : (spl (spl ((nouW 64).set 0 104) 1 (big a 8)) 9 (big b 8)).length = 64 := by rw [spl_len (by rw [h1, big_length]; omega), h1]
  have h3 : (spl (spl (spl ((nouW 64).set 0 104) 1 (big a 8)) 9 (big b 8)) 17 (big c 8)).length = 64 := by rw [spl_len (by rw [h2, big_length]; omega), h2]
  rw [spl_len (by rw [h3, big_length]; omega), h3]
theorem hdP_get (a b c d j : Nat) : (hdP a b c d).getD j 0 = if 25 ≤ j ∧ j < 25 + 8 then (big d 8).getD (j - 25) 0 else if 17 ≤ j ∧ j < 17 + 8 then (big c 8).getD (j - 17) 0 else if 9 ≤ j ∧ j < 9 + 8 then (big b 8).getD (j - 9) 0 else if 1 ≤ j ∧ j < 1 + 8 then (big a 8).getD (j - 1) 0 else if j = 0 then 104 else 0 := by
  unfold hdP
  have h1 : (spl ((nouW 64).set 0 104) 1 (big a 8)).length = 64 := by rw [spl_len (by rw [List.length_set, nouW_len, big_length]; omega), List.length_set, nouW_len]
  have h2 : (spl (spl ((nouW 64).set 0 104) 1 (big a 8)) 9 (big b 8)).length = 64 := by rw [spl_len (by rw [h1, big_length]; omega), h1]
  have h3 : (spl (spl (spl ((nouW 64).set 0 104) 1 (big a 8)) 9 (big b 8)) 17 (big c 8)).length = 64 := by rw [spl_len (by rw [h2, big_length]; omega), h2]
  rw [spl_get (by rw [h3, big_length]; omega), spl_get (by rw [h2, big_length]; omega), spl_get (by rw [h1, big_length]; omega), spl_get (by rw [List.length_set, nouW_len, big_length]; omega), getD_set0 _ _ _ _ (by rw [nouW_len]; omega), nouW_get, big_length, big_length, big_length, big_length]
theorem sayH_hdB {a b c d : Nat} (ha : a < 9223372036854775808) (hb : b < 9223372036854775808) (hc : c < 9223372036854775808) (hd : d < 9223372036854775808) : sayH (hdB a b c d) = ⟨a, b, c, d⟩ := by
  have hl := hdP_len a b c d
  have hsl := sealB_len hl
  have hg : ∀ j, j < 59 → (hdB a b c d).getD j 0 = (hdP a b c d).getD j 0 := fun j hj => sealB_get hl hj
  have e1 : numAt (hdB a b c d) 1 = (a : Int) := numAt_eq ha (by show 1 + 8 ≤ (sealB _).length; omega) fun j hj => by
    rw [hg _ (by omega), hdP_get, if_neg (by omega), if_neg (by omega), if_neg (by omega), if_pos (by omega), show 1 + j - 1 = j by omega]
  have e2 : numAt (hdB a b c d) 9 = (b : Int) := numAt_eq hb (by show 9 + 8 ≤ (sealB _).length; omega) fun j hj => by
    rw [hg _ (by omega), hdP_get, if_neg (by omega), if_neg (by omega), if_pos (by omega), show 9 + j - 9 = j by omega]
  have e3 : numAt (hdB a b c d) 17 = (c : Int) := numAt_eq hc (by show 17 + 8 ≤ (sealB _).length; omega) fun j hj => by
    rw [hg _ (by omega), hdP_get, if_neg (by omega), if_pos (by omega), show 17 + j - 17 = j by omega]
  have e4 : numAt (hdB a b c d) 25 = (d : Int) := numAt_eq hd (by show 25 + 8 ≤ (sealB _).length; omega) fun j hj => by
    rw [hg _ (by omega), hdP_get, if_pos (by omega), show 25 + j - 25 = j by omega]
  unfold sayH
  rw [e1, e2, e3, e4]
theorem cntB_nat {a : Nat} (h : 1 ≤ a ∧ a ≤ 1152921504606846976) : cntB (a : Int) = true := by
  unfold cntB
  rw [decide_eq_true (by omega), decide_eq_true (by omega)]
  rfl
theorem okH_hdB {a b c d i s : Nat} (ha : 1 ≤ a ∧ a ≤ 1152921504606846976) (hb : 1 ≤ b ∧ b ≤ 1152921504606846976) (hc : c < s) (hs : s ≤ 8192) (hd : 1 ≤ d ∧ d ≤ 1152921504606846976) (hi : a % 2 = i) : okH (hdB a b c d) i s = true := by
  unfold okH
  rw [sayH_hdB (by omega) (by omega) (by omega) (by omega)]
  unfold rightH
  rw [cntB_nat ha, cntB_nat hb, cntB_nat hd, decide_eq_true (show (0 : Int) ≤ (c : Int) by omega), decide_eq_true (show (c : Int) < (s : Int) by omega)]
  rw [decide_eq_true (by simp)]
  have : ((a : Int).tmod 2 == (i : Int)) = true := by
    rw [beq_iff_eq, Int.tmod_eq_emod_of_nonneg (by omega)]
    omega
  rw [this]
  rfl
theorem okH_nou (i : Nat) (s : Int) : okH (nouW 64) i s = false := by
  unfold okH sayH rightH
  rw [numAt_nou, numAt_nou, numAt_nou, numAt_nou]
  rfl
/-- the head that counts: sector i has it, and the other sector has none that is newer -/
theorem newH_of {dur : List Nat} {T : Nat → Option (List Nat)} {s a b c d : Nat} (ha : 1 ≤ a ∧ a ≤ 1152921504606846976) (hb : 1 ≤ b ∧ b ≤ 1152921504606846976) (hc : c < s) (hs : s ≤ 8192) (hd : 1 ≤ d ∧ d ≤ 1152921504606846976) (h1 : nowOf dur T (a % 2) = hdB a b c d) (h2 : ∀ i, i < 2 → i ≠ a % 2 → okH (nowOf dur T i) i s = true → (sayH (nowOf dur T i)).a < (a : Int)) : newH dur T s 2 = ⟨a, b, c, d⟩ := by
  have hsay : sayH (nowOf dur T (a % 2)) = ⟨a, b, c, d⟩ := by rw [h1]; exact sayH_hdB (by omega) (by omega) (by omega) (by omega)
  have hme : ∀ A : H4, A.a < (a : Int) → stepH dur T s A (a % 2) = ⟨a, b, c, d⟩ := fun A hA => by
    unfold stepH
    rw [hsay, h1, okH_hdB ha hb hc hs hd rfl]
    rw [decide_eq_true hA]
    rfl
  have hoth : ∀ (A : H4) i, i < 2 → i ≠ a % 2 → (stepH dur T s A i = A ∨ (stepH dur T s A i).a < (a : Int)) := fun A i hi hne => by
    unfold stepH
    by_cases h : (okH (nowOf dur T i) i s && decide (A.a < (sayH (nowOf dur T i)).a)) = true
    · rw [if_pos h]
      rw [Bool.and_eq_true] at h
      exact Or.inr (h2 i hi hne h.1)
    · rw [if_neg h]
      exact Or.inl rfl
  have hkeep : ∀ i, i < 2 → i ≠ a % 2 → stepH dur T s ⟨a, b, c, d⟩ i = ⟨a, b, c, d⟩ := fun i hi hne => by
    unfold stepH
    rw [if_neg]
    intro h
    rw [Bool.and_eq_true, decide_eq_true_eq] at h
    have := h2 i hi hne h.1
    have h9 : (a : Int) < (sayH (nowOf dur T i)).a := h.2
    omega
  show stepH dur T s (stepH dur T s ⟨0, 0, 0, 0⟩ 0) 1 = _
  rcases Nat.mod_two_eq_zero_or_one a with e | e
  · have h0 : stepH dur T s ⟨0, 0, 0, 0⟩ 0 = ⟨a, b, c, d⟩ := by
      have := hme ⟨0, 0, 0, 0⟩ (show (0 : Int) < (a : Int) by omega)
      rw [e] at this
      exact this
    rw [h0]
    exact hkeep 1 (by omega) (by omega)
  · have := hme (stepH dur T s ⟨0, 0, 0, 0⟩ 0) (by
      rcases hoth ⟨0, 0, 0, 0⟩ 0 (by omega) (by omega) with h | h
      · rw [h]; show (0 : Int) < (a : Int); omega
      · exact h)
    rw [e] at this
    exact this
theorem nowOf_dur {dur : List Nat} {T : Nat → Option (List Nat)} {n : Nat} (hdl : dur.length = n * 64) (hTl : ∀ i xs, T i = some xs → xs.length = 64) {i : Nat} (hi : i < n) : nowOf (durAll dur T n) (fun _ => none) i = nowOf dur T i := by
  have hl : (durAll dur T n).length = n * 64 := by simp [durAll]
  have hget : ∀ j, j < n * 64 → (durAll dur T n)[j]? = some (Sf dur T (fun _ => false) j) := fun j hj => by unfold durAll; rw [List.getElem?_map, List.getElem?_range hj]; rfl
  have key : ∀ ys : List Nat, ys.length = 64 → (∀ j, j < 64 → ys[j]? = some (Sf dur T (fun _ => false) (i * 64 + j))) → (((durAll dur T n).drop (i * 64)).take 64) = ys := fun ys hy hj => by
    apply List.ext_getElem?
    intro j
    by_cases h64 : j < 64
    · rw [List.getElem?_take_of_lt h64, List.getElem?_drop, hget _ (by omega), hj j h64]
    · rw [List.getElem?_eq_none (by rw [List.length_take]; omega), List.getElem?_eq_none (by omega)]
  unfold nowOf
  show ((durAll dur T n).drop (i * 64)).take 64 = _
  cases hT : T i with
  | none =>
    show _ = (dur.drop (i * 64)).take 64
    refine key _ (by rw [List.length_take, List.length_drop, hdl]; omega) (fun j hj => ?_)
    rw [List.getElem?_take_of_lt hj, List.getElem?_drop]
    unfold Sf
    rw [show (i * 64 + j) / 64 = i from by omega, hT]
    show _ = some (dur.getD (i * 64 + j) 0)
    rw [List.getD_eq_getElem?_getD, List.getElem?_eq_getElem (by rw [hdl]; omega)]; rfl
  | some xs =>
    have hs := hTl i xs hT
    show _ = xs
    refine key _ hs (fun j hj => ?_)
    unfold Sf
    rw [show (i * 64 + j) / 64 = i from by omega, hT, show (i * 64 + j) % 64 = j from by omega]
    simp only [Bool.false_eq_true, if_false]
    rw [List.getD_eq_getElem?_getD, List.getElem?_eq_getElem (by rw [hs]; exact hj)]; rfl
theorem durAll_len (dur : List Nat) (T : Nat → Option (List Nat)) (n : Nat) : (durAll dur T n).length = n * 64 := by simp [durAll]
/-- what a plate has behind a head was written -/
theorem nowOf_wrHead {dur : List Nat} {T : Nat → Option (List Nat)} {n i : Nat} {hd : List Nat} (hdl : dur.length = n * 64) (hTl : ∀ i xs, T i = some xs → xs.length = 64) (hh : hd.length = 64) {j : Nat} (hj : j < n) : nowOf (wrHead dur T n i hd) (fun _ => none) j = if j = i then hd else nowOf dur T j := by
  unfold wrHead
  rw [nowOf_dur (durAll_len _ _ _) (fun k xs hk => by
    split at hk
    · cases hk; exact hh
    · cases hk) hj]
  by_cases hji : j = i
  · rw [if_pos hji]
    show (if j = i then some hd else none).getD _ = hd
    rw [if_pos hji]
    rfl
  · have e1 : nowOf (durAll dur (fun j => if j = i then some (nouW 64) else T j) n) (fun j => if j = i then some hd else none) j = nowOf (durAll dur (fun j => if j = i then some (nouW 64) else T j) n) (fun _ => none) j := by
      show (if j = i then some hd else none).getD _ = (none : Option (List Nat)).getD _
      rw [if_neg hji]
    rw [e1, nowOf_dur hdl (fun k xs hk => by
      split at hk
      · cases hk; exact nouW_len 64
      · exact hTl k xs hk) hj, if_neg hji]
    show (if j = i then some (nouW 64) else T j).getD _ = (T j).getD _
    rw [if_neg hji]
theorem hdB_len (a b c d : Nat) : (hdB a b c d).length = 64 := sealB_len (hdP_len a b c d)
end Go.Proofs.YtmooddbhcccicaaGreatDoor
