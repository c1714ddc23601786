/- Texts of this proof, joined: Pl5, Bc. -/
import Derived.Test.YtblaabjjcanifaaGreatDoorMgAI
import Derived.Test.YtblaabjjcanifaaGreatDoorMgAS
/- The verifier's written: a plate of six sectors, of which some were written. -/
namespace Go.Proofs.YtblaabjjcanifaaGreatDoor
open Go.RowKit Go.Deep Go.Maps

/-- the calls of a list, as they lie -/
structure Dos (w : World) (v : Value) (L : Nat) : Prop where
  form : ∃ (g : Option Addr) (gb go cap : Nat), v = .slice g L cap ∧ (0 < L → g = some ⟨gb, go, none⟩) ∧ ∀ r, r < L → ∃ (op i tn nn : Int) (p : Option Addr) (nb cb : Nat) (xs : List Nat) (pk : Option Addr) (nk ck : Nat),
    w.cell? ⟨gb, go + r * 6, none⟩ = some (.int .i64 op) ∧ w.cell? ⟨gb, go + r * 6 + 1, none⟩ = some (.int .i64 i) ∧ w.cell? ⟨gb, go + r * 6 + 2, none⟩ = some (.int .i64 tn) ∧ w.cell? ⟨gb, go + r * 6 + 3, none⟩ = some (.int .i64 nn) ∧
    w.cell? ⟨gb, go + r * 6 + 4, none⟩ = some (.slice p nb cb) ∧ w.cell? ⟨gb, go + r * 6 + 5, none⟩ = some (.slice pk nk ck) ∧ Rb w p nb xs
  many : (L : Int) ≤ 9223372036854775807

/-- texts of 64 bytes each, in blocks of their own -/
structure Nows (w : World) (b d m t n : Nat) (V : Nat → Value) (N : Nat → List Nat) : Prop where
  top : w.rowIs t 22 n V
  row : ∀ r, r < n → ∃ bb o c, V r = .slice (some ⟨bb, o, none⟩) 64 c ∧ Rb w (some ⟨bb, o, none⟩) 64 (N r) ∧ bb ≠ t ∧ bb ≠ d ∧ bb ≠ m ∧ bb ≠ b
  tb : t ≠ b ∧ t ≠ d ∧ t ≠ m
theorem Nows.keep {S : Nat → Prop} {w w' : World} {b d m t n : Nat} {V : Nat → Value} {N : Nat → List Nat} (h : Nows w b d m t n V N) (k : Kp S w w') (hS : ∀ x, S x → x = b ∨ x = d ∨ x = m) : Nows w' b d m t n V N := by
  refine ⟨k.row h.top (fun e => by have h1 := hS _ e; obtain ⟨h2, h3, h4⟩ := h.tb; rcases h1 with h1 | h1 | h1 <;> contradiction), fun r hr => ?_, h.tb⟩
  obtain ⟨bb, o, c, h1, h2, h3, h4, h5, h6⟩ := h.row r hr
  exact ⟨bb, o, c, h1, h2.keep k (fun a ha _ e => by cases ha; have h1 := hS _ e; dsimp only at h1; rcases h1 with h1 | h1 | h1 <;> contradiction), h3, h4, h5, h6⟩

theorem info42 : (Tryz.prog.info? 22).map (fun i => (i.zero, i.size, i.bytes)) = some (some (.slice none 0 0), 1, 24) := by kernel_rfl

/-- what a copy of bytes leaves in 64 noughts -/
def cp64 (xs : List Nat) : List Nat := (xs ++ List.replicate 64 0).take 64
theorem cp64_sec {xs : List Nat} (h : ∀ x ∈ xs, x < 256) : Sec (cp64 xs) := by
  refine ⟨by simp [cp64], fun x hx => ?_⟩
  rcases List.mem_append.1 (List.mem_of_mem_take hx) with hx | hx
  · exact h x hx
  · rw [List.eq_of_mem_replicate hx]; omega
theorem cp64_get (xs : List Nat) {j : Nat} (hj : j < 64) : (cp64 xs).getD j 0 = if j < xs.length then xs.getD j 0 else 0 := by
  unfold cp64
  rw [List.getD_eq_getElem?_getD, List.getElem?_take_of_lt hj]
  by_cases h : j < xs.length
  · rw [if_pos h, List.getElem?_append_left h, List.getD_eq_getElem?_getD]
  · rw [if_neg h, List.getElem?_append_right (by omega), List.getElem?_replicate]
    split <;> rfl
theorem wpList_copy_64 {w : World} {ops : Array Oper} {rest : List Oper} {o : Oper} {a : Act} {Q : Exit → Act → World → Prop} (hgd : o.guard = none) (dd s : Operand)
    (ho : o.op = .call { callee := .builtin .copy, args := #[dd, s], argTypes := #[22, 22] }) (d : Nat) (p : Option Addr) (nb cb : Nat) (hd : a.eval dd = .slice (some ⟨d, 0, none⟩) 64 64) (hs : a.eval s = .slice p nb cb)
    (hg : w.rowIs d 5 64 (fun _ => .int .u8 0)) (xs : List Nat) (hr : Rb w p nb xs)
    (h : ∀ w', Kp (fun b => b = d) w w' → Rb w' (some ⟨d, 0, none⟩) 64 (cp64 xs) → wpList Tryz.prog ops Q rest (a.put o.dst (goInt (Nat.min nb 64))) w') : wpList Tryz.prog ops Q (o :: rest) a w := by
  have hfin : ∀ w', w'.rowIs d 5 64 (fun j => if 0 ≤ j ∧ j < 0 + Nat.min nb 64 then .int .u8 ((xs.getD (j - 0) 0 : Nat) : Int) else .int .u8 0) → Rb w' (some ⟨d, 0, none⟩) 64 (cp64 xs) := fun w' hr' =>
    ⟨(cp64_sec hr.byte).1, (cp64_sec hr.byte).2, fun j hj => ⟨d, 0, rfl, by
      have hmin : Nat.min nb 64 = min nb 64 := rfl
      rw [Nat.zero_add, hr'.cell hj, cp64_get xs hj, hr.len]
      by_cases h1 : j < nb
      · rw [if_pos ⟨Nat.zero_le _, by rw [hmin]; omega⟩, if_pos h1]; rfl
      · rw [if_neg (by rw [hmin]; omega), if_neg h1]; rfl⟩⟩
  by_cases h0 : nb = 0
  · subst h0
    obtain ⟨ii, hi, hz⟩ := Option.map_eq_some_iff.1 info5
    simp only [Prod.mk.injEq] at hz
    have hrun : (Builtin.copy_ #[22, 22] o.type #[.slice (some ⟨d, 0, none⟩) 64 64, .slice p 0 cb]).run Tryz.prog w = .ok (goInt 0) w := by
      cases p <;> simp [Builtin.copy_, run_underlying Tryz.underlying22, sizeOf, typeInfo, hi, Builtin.lenOf, Builtin.firstCells, loadCells, loadCellsFrom, storeCells]
    refine wpList_plain hgd fun K hK => ?_
    unfold Oper.wp
    simp [execOp, ho, resolve, invoke, builtin, hd, hs, hrun, Result.andThen]
    exact hK _ _ (h w (Kp.refl _ _) (hfin w (hg.congr (fun j _ => by rw [if_neg (by simp)]))))
  · obtain ⟨bb, oo, rfl, hcell⟩ := hr.pt (by omega)
    have hmin : Nat.min nb 64 = min nb 64 := rfl
    have hr2 : Rb w (some ⟨bb, oo, none⟩) (Nat.min nb 64) (xs.take (Nat.min nb 64)) :=
      ⟨by rw [List.length_take, hr.len, hmin]; omega, fun x hx => hr.byte x (List.mem_of_mem_take hx), fun j hj => ⟨bb, oo, rfl, by
        rw [hcell j (by rw [hmin] at hj; omega), List.getD_eq_getElem?_getD, List.getD_eq_getElem?_getD, List.getElem?_take_of_lt hj]⟩⟩
    refine wpList_copy_sec hgd dd s ho d 0 64 bb oo cb nb (Nat.min nb 64) rfl hd hs 64 _ hg (Nat.le_refl _) _ hr2 ?_
    intro w' k' _ r'
    refine h w' k' (hfin w' (r'.congr (fun j hj => ?_)))
    by_cases h1 : 0 ≤ j ∧ j < 0 + Nat.min nb 64
    · rw [if_pos h1, if_pos h1, List.getD_eq_getElem?_getD, List.getD_eq_getElem?_getD, List.getElem?_take_of_lt (by omega)]
    · rw [if_neg h1, if_neg h1]

theorem nowOf_sync {w : World} {b d m n q : Nat} {dur : List Nat} {T : Nat → Option (List Nat)} (h : Pt w b d m n q dur T) {i : Nat} (hi : i < n) : nowOf (durAll dur T n) (fun _ => none) i = nowOf dur T i := by
  have hl : (durAll dur T n).length = n * 64 := by simp [durAll]
  have hget : ∀ j, j < n * 64 → (durAll dur T n)[j]? = some (Sf dur T (fun _ => false) j) := fun j hj => by unfold durAll; rw [List.getElem?_map, List.getElem?_range hj]; rfl
  obtain ⟨D, _, hDD, _⟩ := h.mp
  have key : ∀ ys : List Nat, ys.length = 64 → (∀ j, j < 64 → ys[j]? = some (Sf dur T (fun _ => false) (i * 64 + j))) → (((durAll dur T n).drop (i * 64)).take 64) = ys := fun ys hy hj => by
    apply List.ext_getElem?
    intro j
    by_cases h64 : j < 64
    · rw [List.getElem?_take_of_lt h64, List.getElem?_drop, hget _ (by omega), hj j h64]
    · rw [List.getElem?_eq_none (by rw [List.length_take]; omega), List.getElem?_eq_none (by omega)]
  unfold nowOf
  show ((durAll dur T n).drop (i * 64)).take 64 = _
  cases hT : T i with
  | none =>
    show _ = (dur.drop (i * 64)).take 64
    refine key _ (h.durSec hi).1 (fun j hj => ?_)
    rw [List.getElem?_take_of_lt hj, List.getElem?_drop]
    unfold Sf
    rw [show (i * 64 + j) / 64 = i from by omega, hT]
    show _ = some (dur.getD (i * 64 + j) 0)
    rw [List.getD_eq_getElem?_getD, List.getElem?_eq_getElem (by rw [h.len]; omega)]; rfl
  | some xs =>
    have hs := ((hDD i hi).2 xs hT).1
    show _ = xs
    refine key _ hs.1 (fun j hj => ?_)
    unfold Sf
    rw [show (i * 64 + j) / 64 = i from by omega, hT, show (i * 64 + j) % 64 = j from by omega]
    simp only [Bool.false_eq_true, if_false]
    rw [List.getD_eq_getElem?_getD, List.getElem?_eq_getElem (by rw [hs.1]; exact hj)]; rfl

/-- what written leaves -/
def Wst (w w' : World) (b d m q t : Nat) : Prop := Kp (fun _ => False) w w' ∧ (q : Int) ≤ 9223372036854775807 ∧ w.heap.size ≤ b ∧ w.heap.size ≤ d ∧ w.heap.size ≤ m ∧ w.heap.size ≤ t ∧
  ∃ (V : Nat → Value) (N : Nat → List Nat) (dur : List Nat) (T : Nat → Option (List Nat)), Pt w' b d m 6 q dur T ∧ Nows w' b d m t 6 V N ∧ ∀ i, i < 6 → N i = nowOf dur T i
def m6 (n : Int) : Nat := ((n % 18446744073709551616) % 6).toNat
theorem m6_lt (n : Int) : (m6 n : Int) < 6 := by unfold m6; omega
theorem m6_eq (n : Int) : wrap64 ((IntKind.u64.wrap n).tmod 6) = (m6 n : Int) := by
  have h : IntKind.u64.wrap n = n % 18446744073709551616 := by simp [IntKind.wrap, IntKind.bits, IntKind.signed]
  rw [h]
  have h0 : 0 ≤ n % 18446744073709551616 := Int.emod_nonneg _ (by omega)
  rw [Int.tmod_eq_emod_of_nonneg h0]
  unfold m6 wrap64
  omega
theorem Nows.put {w w' : World} {b d m t n : Nat} {V : Nat → Value} {N : Nat → List Nat} {i g c : Nat} {xs : List Nat} (h : Nows w b d m t n V N) (_hi : i < n) (hr : Rb w (some ⟨g, 0, none⟩) 64 xs) (hg : g ≠ t ∧ g ≠ d ∧ g ≠ m ∧ g ≠ b) (hw : w' = w.setCell ⟨t, i, none⟩ (.slice (some ⟨g, 0, none⟩) 64 c)) :
    Nows w' b d m t n (fun j => if j = i then .slice (some ⟨g, 0, none⟩) 64 c else V j) (fun j => if j = i then xs else N j) := by
  have ks : Kp (fun x => x = t) w w' := by rw [hw]; exact (Kp.refl (fun x => x = t) w).setCell (a := ⟨t, i, none⟩) (fun _ => rfl) _
  refine ⟨by rw [hw]; exact h.top.set i _, fun r hr' => ?_, h.tb⟩
  by_cases e : r = i
  · simp only [if_pos e]
    exact ⟨g, 0, c, rfl, hr.keep ks (fun a ha _ e => by cases ha; exact hg.1 e), hg⟩
  · simp only [if_neg e]
    obtain ⟨bb, o, c, h1, h2, h3, h4⟩ := h.row r hr'
    exact ⟨bb, o, c, h1, h2.keep ks (fun a ha _ e => by cases ha; exact h3 e), h3, h4⟩

end Go.Proofs.YtblaabjjcanifaaGreatDoor

/- Free sectors are cleaned: slices.Clone of places; clean. -/
namespace Go.Proofs.YtblaabjjcanifaaGreatDoor
set_option linter.unusedVariables false
set_option linter.unusedSimpArgs false
open Go.RowKit Go.Deep

set_option maxRecDepth 100000 in
theorem places_not_nil (p : Addr) (n c : Nat) (w : World) : (binOp .eql 82 (.slice (some p) n c) (.slice none 0 0)).run Tryz.prog w = .ok (.bool false) w := by rfl
theorem infoI8 : (Tryz.prog.info? 3).map (fun i => (i.zero, i.size, i.bytes)) = some (some (.int .i64 0), 1, 8) := by kernel_rfl
set_option maxRecDepth 100000 in
set_option maxHeartbeats 800000 in
theorem clonePl_ok (g k c : Nat) (l : List Nat) (w : World) (h : w.ownsRow 0 3 1 (.slice (some ⟨g, 0, none⟩) k c) k (nls l)) (hk : Hid (k ≤ 8192)) :
    Calls Tryz.prog 100 #[.slice (some ⟨g, 0, none⟩) k c] w fun e w' => ∃ g' c', w.heap.size ≤ g' ∧ e = .returned (.slice (some ⟨g', 0, none⟩) k c') ∧ Kp (fun _ => False) w w' ∧ w'.ownsRow 0 3 1 (.slice (some ⟨g', 0, none⟩) k c') k (nls l) := by
  have hnn := places_not_nil ⟨g, 0, none⟩ k c
  have hl : (nls l).length = k := by have := h.1; omega
  have HS : Hid (Src Tryz.prog 1 82 (.slice (some ⟨g, 0, none⟩) k c) k (nls l) (w.alloc (.cells #[] 3))) := by
    refine Src.ofSlice _ Tryz.underlying82 ⟨g, 0, none⟩ k c (nls l) (by omega) (fun j u hj => ?_) (fun z hz => ?_)
    · have := h.cells (g := g) rfl j u hj
      exact ((Kp.refl (fun _ => False) w).alloc (.cells #[] 3)).cellv this id
    · unfold nls at hz
      obtain ⟨x, _, rfl⟩ := List.mem_map.1 hz
      rfl
  clear h hl
  go_enter Tryz.func100, Tryz.ntmps100
  obtain ⟨ti, hi0, hz0, hz1, hz2⟩ := info_parts infoI8
  go_wp2_with (at_builtin; go_must (refine wpList_append_own_src _ rfl _ _ 82 82 rfl w.heap.size 3 ti (.int .i64 0) 1 8 Tryz.underlying82 hi0 hz0 hz1 hz2 rfl (by decide) _ 0 [] rfl (by exact World.ownsRow_made w #[] 0 (Nat.le_refl _) (by unfold maxLen; omega) rfl) _ k (nls l) rfl HS.out (by have := hk.out; unfold maxLen; omega) (by have := hk.out; omega) (by simp) ?_); intro v' w3 hown' hk3 hblk3)
  have hg : ∃ g' c', w.heap.size ≤ g' ∧ v' = .slice (some ⟨g', 0, none⟩) k c' := by
    rw [Nat.zero_add] at hown'
    rcases Joins.ownsRow_forms hown' with ⟨e1, e2⟩ | ⟨g', c', e⟩
    · rw [e1] at hblk3
      rcases hblk3 with h9 | h9 <;> cases h9
    · exact ⟨g', c', (ownBlock_lt hown' (by rw [e]; rfl)).1, e⟩
  obtain ⟨g', c', hg1, rfl⟩ := hg
  go_ret
  have k3 := grownBy_kp hk3
  refine ⟨_, _, hg1, rfl, Kp.trans ((Kp.refl _ _).alloc _) k3 (fun b hb e => ?_), by simpa using ownsRow_base hown' (Nat.zero_le _)⟩
  have e' : some w.heap.size = some b := e
  have := Option.some.inj e'
  omega

/-- the table where the sectors of j places from e on were made noughts -/
def Cln (dur : List Nat) (T : Nat → Option (List Nat)) (s e j n : Nat) (now : Nat → List Nat) : Prop := ∀ i, i < n → (now i = nouW 64 ∨ now i = nowOf dur T i) ∧ ((∃ t, t < j ∧ i = 2 + (e + t) % s) → now i = nouW 64) ∧ ((∀ t, t < j → ¬ i = 2 + (e + t) % s) → now i = nowOf dur T i)
theorem Cln.zero (dur : List Nat) (T : Nat → Option (List Nat)) (s e n : Nat) : Cln dur T s e 0 n (nowOf dur T) := fun i _ => ⟨.inr rfl, fun ⟨t, h, _⟩ => absurd h (Nat.not_lt_zero _), fun _ => rfl⟩
theorem Cln.same {dur : List Nat} {T : Nat → Option (List Nat)} {s e j n : Nat} {now : Nat → List Nat} (h : Cln dur T s e j n now) (hb : now (2 + (e + j) % s) = nouW 64) : Cln dur T s e (j + 1) n now := fun i hi => by
  obtain ⟨h1, h2, h3⟩ := h i hi
  refine ⟨h1, fun ⟨t, ht, ei⟩ => ?_, fun hn => h3 fun t ht => hn t (by omega)⟩
  by_cases htj : t < j
  · exact h2 ⟨t, htj, ei⟩
  · have : t = j := by omega
    subst this
    rw [ei]
    exact hb
theorem Cln.put {dur dur2 : List Nat} {T T2 : Nat → Option (List Nat)} {s e j n : Nat} (h : Cln dur T s e j n (nowOf dur2 T2)) : Cln dur T s e (j + 1) n (nowOf dur2 (fun i => if i = 2 + (e + j) % s then some (nouW 64) else T2 i)) := fun i hi => by
  obtain ⟨h1, h2, h3⟩ := h i hi
  by_cases hij : i = 2 + (e + j) % s
  · have h9 : nowOf dur2 (fun i => if i = 2 + (e + j) % s then some (nouW 64) else T2 i) i = nouW 64 := by unfold nowOf; dsimp only; rw [if_pos hij]; rfl
    exact ⟨.inl h9, fun _ => h9, fun hn => absurd hij (hn j (by omega))⟩
  · have h9 : nowOf dur2 (fun i => if i = 2 + (e + j) % s then some (nouW 64) else T2 i) i = nowOf dur2 T2 i := by unfold nowOf; dsimp only; rw [if_neg hij]
    rw [h9]
    refine ⟨h1, fun ⟨t, ht, ei⟩ => h2 ⟨t, ?_, ei⟩, fun hn => h3 fun t ht => hn t (by omega)⟩
    by_cases htj : t < j
    · exact htj
    · have : t = j := by omega
      subst this
      exact absurd ei hij

set_option maxRecDepth 100000 in
set_option maxHeartbeats 3200000 in
theorem clean_ok {w : World} {bp d m n q s e k gf c : Nat} {dur : List Nat} {T : Nat → Option (List Nat)} {l : List Nat} (h : Pt w bp d m n q dur T) (hs : n = 2 + s ∧ 1 ≤ s) (hq : (q : Int) ≤ 9000000000000000000) (hk : k ≤ 8192) (he : (e : Int) ≤ 900000000000000000) (hf : w.ownsRow 0 3 1 (.slice (some ⟨gf, 0, none⟩) k c) k (nls l)) (hl : Free l e k) :
    Calls Tryz.prog 77 #[ringV bp s, .slice (some ⟨gf, 0, none⟩) k c] w fun e9 w' => e9 = .returned .nilIface ∧ Kp (fun x => x = d ∨ x = m) w w' ∧ ∃ dur', Pt w' bp d m n 0 dur' (fun _ => none) ∧ Cln dur T s e k n (nowOf dur' (fun _ => none)) := by
  have HP : Hid (Pt w bp d m n q dur T) := h
  have HN : Hid (n = 2 + s ∧ 1 ≤ s ∧ n ≤ 8192 ∧ (q : Int) ≤ 9000000000000000000 ∧ k ≤ 8192 ∧ (e : Int) ≤ 900000000000000000) := ⟨hs.1, hs.2, h.n2, hq, hk, he⟩
  have HFr : Hid (Free l e k) := hl
  have HM : Hid (m < w.heap.size ∧ d < w.heap.size ∧ bp < w.heap.size) := ⟨h.mp.lt, h.row.lt, h.lt⟩
  obtain ⟨r, hr⟩ : ∃ r, r = w.heap.size := ⟨_, rfl⟩
  obtain ⟨w0, hw0⟩ : ∃ y, y = w.alloc (.cells #[.pointer (some ⟨bp, 0, none⟩), .int .i64 (s : Int)] 78) := ⟨_, rfl⟩
  have HK0 : Hid (Kp (fun _ => False) w w0) := by rw [hw0]; exact (Kp.refl _ _).alloc _
  have HL0 : Hid (Lv w0 r [.pointer (some ⟨bp, 0, none⟩), .int .i64 (s : Int)]) := by rw [hw0, hr]; exact Lv.new w _ _
  have HR0 : Hid (w.heap.size ≤ r ∧ r < w0.heap.size) := ⟨by omega, HL0.out.lt (by simp)⟩
  have hnn := nil_neq
  have HCl : Hid (∀ u, Kp (fun _ => False) w u → Calls _ _ _ u _) := fun u k0 => clonePl_ok gf k c l u (ownsRow_keep hf k0 (fun _ _ e => e)) hk
  clear h hs hq hk he hf hl
  go_enter Tryz.func77, Tryz.ntmps77
  go_wp2_with fail
  rw [← hw0]
  refine (HCl.out w0 HK0.out).mono ?_
  rintro e9 w1 ⟨g1, c1, hg1, rfl, k1, o1⟩
  obtain ⟨h1, hh1⟩ : ∃ h1, h1 = w1.heap.size := ⟨_, rfl⟩
  obtain ⟨w2, hw2⟩ : ∃ y, y = w1.alloc (.cells #[.slice (some ⟨g1, 0, none⟩) k c1] 82) := ⟨_, rfl⟩
  have k2 : Kp (fun _ => False) w1 w2 := by rw [hw2]; exact (Kp.refl _ _).alloc _
  have HK2 : Hid (Kp (fun _ => False) w0 w2) := k1.trans k2 (fun _ _ e => e)
  have HI2 : Hid (Ip w2 h1 0 g1 c1 [] [] l) := by
    have hll := HFr.out.len
    refine ⟨?_, rfl, ?_, ?_⟩
    · rw [hw2, hh1, hll]; exact Lv.new _ _ _
    · rw [hll]; exact ownsRow_keep o1 k2 (fun _ _ e => e)
    · have := (ownBlock_lt o1 (g := g1) rfl).2; omega
  have HB2 : Hid (w0.heap.size ≤ g1 ∧ w0.heap.size ≤ h1) := ⟨hg1, by have := k1.size; omega⟩
  go_upto_region 2 with fail
  rw [← hw2, ← hh1, ← hr]
  clear hw0 hr hw2 hh1 k1 k2 o1 hg1 HCl
  go_loopg [5] k (fun gk pv wr => ∃ (i hh gg cc : Nat) (lz : List Nat) (q1 : Nat) (T1 : Nat → Option (List Nat)), i ≤ k ∧ gk = k - i ∧ pv = .pointer (some ⟨hh, 0, none⟩) ∧ Hid (Kp (fun x => x = m) w0 wr) ∧ Hid (Ip wr hh 0 gg cc [] [] lz ∧ Free lz (e + i) (k - i) ∧ w0.heap.size ≤ gg ∧ w0.heap.size ≤ hh) ∧ Hid (Pt wr bp d m n q1 dur T1 ∧ q1 ≤ q + i ∧ Cln dur T s e i n (nowOf dur T1)))
  case atStart => exact ⟨0, h1, g1, c1, l, q, T, Nat.zero_le _, rfl, rfl, HK2.out.mono (fun _ _ e => e.elim), ⟨HI2.out, HFr.out, HB2.out.1, HB2.out.2⟩, ⟨HP.out.keep0 (HK0.out.trans HK2.out (fun _ _ e => e)), Nat.le_refl _, Cln.zero _ _ _ _ _⟩⟩
  case round =>
    obtain ⟨i, hh, gg, cc, lz, q1, T1, hi, rfl, rfl, HK, HI, HQ⟩ := hrel
    have HNe : Hid (¬ r = m ∧ ¬ r = hh ∧ ¬ r = gg ∧ ¬ bp = hh ∧ ¬ bp = gg ∧ ¬ d = hh ∧ ¬ d = gg ∧ ¬ m = hh ∧ ¬ m = gg) := by
      have h1 := HR0.out
      have h2 := HM.out
      have h3 := HI.out.2.2
      refine ⟨?_, ?_, ?_, ?_, ?_, ?_, ?_, ?_, ?_⟩ <;> omega
    have q0 := (HL0.out.keep HK.out HNe.out.1).cell (j := 0) rfl
    have q9 := (HL0.out.keep HK.out HNe.out.1).cell (j := 1) rfl
    have p0 := HI.out.1.c0
    rw [HI.out.2.1.len] at p0
    by_cases hlt : i < k
    · obtain ⟨kk, hkk⟩ : ∃ kk, k - i = kk + 1 := ⟨k - i - 1, by omega⟩
      obtain ⟨E, hE⟩ : ∃ E, E = e + i := ⟨_, rfl⟩
      have HE : Hid (E = e + i ∧ k - i = kk + 1 ∧ i < k) := ⟨hE, hkk, hlt⟩
      have hfr := HI.out.2.1
      rw [hkk, ← hE] at hfr
      obtain ⟨p1, p2, p3⟩ := hfr.pop
      have HF3 : Hid (Free (popIL lz) (E + 1) kk) := p3
      have hlz := hfr.len
      rw [hkk] at p0
      have HLen : Hid (∀ u, Calls Tryz.prog 101 #[.slice (some ⟨gg, 0, none⟩) (kk + 1) cc] u fun e w' => e = .returned (.int .i64 ((kk + 1 : Nat) : Int)) ∧ w' = u) := fun u => ilen (some ⟨gg, 0, none⟩) (kk + 1) cc u
      have hpos : ((kk + 1 : Nat) : Int) > 0 := by omega
      have hta := fun w => tasI (.int .i64 (E : Int)) w
      obtain ⟨sc, hsc⟩ : ∃ sc, sc = 2 + E % s := ⟨_, rfl⟩
      have HSc : Hid (sc = 2 + (e + i) % s ∧ sc < n) := ⟨by rw [hsc, hE], by have := HN.out; have := Nat.mod_lt E (show 0 < s by omega); omega⟩
      have H1 : Hid (∀ u, Kp (fun _ => False) wr u → Calls Tryz.prog 83 #[.iface 155 (.pointer (some ⟨hh, 0, none⟩))] u fun e w' => e = .returned (.iface 3 (.int .i64 (E : Int))) ∧ Kp (fun b => b = hh ∨ b = gg) u w' ∧ Ip w' hh 0 gg cc [] [] (popIL lz)) := fun u ku => by
        have := heapPopI (HI.out.1.keep0 ku) (by have := HN.out; omega)
        rw [p2] at this
        exact this
      have H2 : Hid (∀ u, Calls Tryz.prog 81 #[ringV bp s, .int .i64 (E : Int)] u fun e9 w' => e9 = .returned (.int .i64 (sc : Int)) ∧ Kp (fun _ => False) u w') := fun u => by
        rw [hsc]
        exact rsector_ok bp s E u (by have := HN.out; omega) (by have := HN.out; omega) (by have := HN.out; omega)
      have HSS : Hid (∀ z, Kp (fun b => b = hh ∨ b = gg) wr z → Kp (fun b => b = hh ∨ b = gg) wr z ∧ z.cell? ⟨r, 0, none⟩ = some (.pointer (some ⟨bp, 0, none⟩)) ∧ z.cell? ⟨r, 1, none⟩ = some (.int .i64 (s : Int))) := fun z kz => ⟨kz, kz.cellv q0 (fun e => e.elim HNe.out.2.1 HNe.out.2.2.1), kz.cellv q9 (fun e => e.elim HNe.out.2.1 HNe.out.2.2.1)⟩
      have HTr : Hid (∀ u u' : World, Kp (fun b => b = hh ∨ b = gg) wr u → Kp (fun _ => False) u u' → Kp (fun b => b = hh ∨ b = gg) wr u') := fun u u' h1 h2 => h1.trans h2 (fun _ _ e => e.elim)
      have HTs : Hid (∀ u u' : World, Kp (fun _ => False) wr u → Kp (fun b => b = hh ∨ b = gg) u u' → Kp (fun b => b = hh ∨ b = gg) wr u') := fun u u' h1 h2 => (h1.mono (fun _ _ e => e.elim)).trans h2 (fun _ _ e => e)
      clear hE hsc hfr p1 p2 p3 hlz hkk hlt
      go_wp2_with fail
      refine (HLen.out _).mono ?_
      rintro e9 w9 ⟨rfl, hw9⟩
      have hw8 := hw9.symm
      subst hw8
      clear hw9 HLen
      go_upto_region 3 with fail
      have kd : Kp (fun _ => False) wr wr.drew := (Kp.refl _ _).drew
      have kD : Kp (fun b => b = hh ∨ b = gg) wr wr.drew := (Kp.refl _ _).drew
      go_region_held3 (fun z => Kp (fun b => b = hh ∨ b = gg) wr z ∧ z.cell? ⟨r, 0, none⟩ = some (.pointer (some ⟨bp, 0, none⟩)) ∧ z.cell? ⟨r, 1, none⟩ = some (.int .i64 (s : Int)))
        (first
          | exact HSS.out _ kD
          | exact HSS.out _ km1
          | exact HSS.out _ km2)
        (first
          | (go_at_call 83; refine (H1.out _ kd).mono ?_; rintro e9 wA ⟨rfl, kA, ipA⟩; have km1 := HTs.out _ _ kd kA)
          | (go_at_call 81; refine (H2.out _).mono ?_; rintro e9 wX ⟨rfl, kX⟩; have km2 := HTr.out _ _ km1 kX))
      all_goals
        have HKX : Hid (Kp (fun b => b = hh ∨ b = gg) wr wX) := km2
        have HIX : Hid (Ip wX hh 0 gg cc [] [] (popIL lz)) := ipA.keep0 kX
        have HPX : Hid (Pt wX bp d m n q1 dur T1) := HQ.out.1.keep km2 (fun e => e.elim HNe.out.2.2.2.1 HNe.out.2.2.2.2.1) (fun e => e.elim HNe.out.2.2.2.2.2.1 HNe.out.2.2.2.2.2.2.1) (fun e => e.elim HNe.out.2.2.2.2.2.2.2.1 HNe.out.2.2.2.2.2.2.2.2)
        have z0 := (HSS.out _ km2).2.1
        have z1 := (HSS.out _ km2).2.2
        clear kd kD km1 km2 kA kX ipA
        go_simp
        go_wp2_with fail
        refine (rread_ok HPX.out s sc (by have := HSc.out; omega)).mono ?_
        rintro e9 w3 ⟨gq, cq, hgq, hcq, rfl, k3, rb3⟩
        obtain ⟨X, hX⟩ : ∃ X, X = nowOf dur T1 sc := ⟨_, rfl⟩
        rw [← hX] at rb3
        have HX : Hid (X = nowOf dur T1 (2 + (e + i) % s)) := by show _ = _; rw [hX, HSc.out.1]
        have HIs : Hid (Calls _ _ _ w3 _) := isBlank_ok gq 0 cq X w3 rb3
        obtain ⟨B, hB⟩ : ∃ B, B = decide (X = nouW 64) := ⟨_, rfl⟩
        rw [← hB] at HIs
        have HB : Hid (B = decide (X = nouW 64)) := hB
        have HK3 : Hid (Kp (fun _ => False) wX w3) := k3
        clear hX hB hgq hcq k3 rb3 z0 z1
        go_wp2_with fail
        refine HIs.out.mono ?_
        rintro e9 w4 ⟨rfl, k4⟩
        have HX4 : Hid (Kp (fun _ => False) wX w4) := HK3.out.trans k4 (fun _ _ e => e)
        have HK4 : Hid (Kp (fun x => x = m) w0 w4) := HK.out.trans (HKX.out.trans HX4.out (fun _ _ e => e.elim)) (fun b hb e9 => absurd hb (by have := HI.out.2.2; have e' : b = hh ∨ b = gg := e9; omega))
        have HI4 : Hid (Ip w4 hh 0 gg cc [] [] (popIL lz)) := HIX.out.keep0 HX4.out
        have HP4 : Hid (Pt w4 bp d m n q1 dur T1) := HPX.out.keep0 HX4.out
        clear k4 HIs
        cases B with
        | true =>
          have HC : Hid (Cln dur T s e (i + 1) n (nowOf dur T1)) := HQ.out.2.2.same (by rw [← HX.out]; exact of_decide_eq_true HB.out.symm)
          have c0 := HI4.out.c0
          rw [HF3.out.len] at c0
          obtain ⟨wN, hwN⟩ : ∃ y, y = w4.alloc (.cells #[.slice (some ⟨gg, 0, none⟩) kk cc] 82) := ⟨_, rfl⟩
          obtain ⟨hN, hhN⟩ : ∃ y, y = w4.heap.size := ⟨_, rfl⟩
          have kN : Kp (fun _ => False) w4 wN := by rw [hwN]; exact (Kp.refl _ _).alloc _
          have HF : Hid (Kp (fun x => x = m) w0 wN ∧ Ip wN hN 0 gg cc [] [] (popIL lz) ∧ w0.heap.size ≤ hN ∧ Free (popIL lz) (e + (i + 1)) (k - (i + 1))) := by
            refine ⟨HK4.out.trans kN (fun _ _ e => e.elim), ⟨?_, rfl, ownsRow_keep HI4.out.ow kN (fun _ _ e => e), ?_⟩, ?_, ?_⟩
            · rw [HF3.out.len, hwN, hhN]; exact Lv.new _ _ _
            · have := HI4.out.gb; omega
            · have := HK4.out.size; omega
            · have h1 := HE.out
              rw [show e + (i + 1) = E + 1 by omega, show k - (i + 1) = kk by omega]
              exact HF3.out
          have HPN : Hid (Pt wN bp d m n _ dur _) := HP4.out.keep0 kN
          clear kN
          go_wp2
          rw [← hwN, ← hhN]
          go_roundg (k - (i + 1))
          case rel => exact ⟨i + 1, hN, gg, cc, popIL lz, _, _, by have := HE.out; omega, rfl, rfl, HF.out.1, ⟨HF.out.2.1, HF.out.2.2.2, HI.out.2.2.1, HF.out.2.2.1⟩, ⟨HPN.out, by have := HQ.out.2.1; omega, HC.out⟩⟩
          case measure => have := HE.out; omega
        | false =>
          have HC : Hid (Cln dur T s e (i + 1) n (nowOf dur (fun j => if j = 2 + (e + i) % s then some (nouW 64) else T1 j))) := HQ.out.2.2.put
          have z0 := (HL0.out.keep HK4.out HNe.out.1).cell (j := 0) rfl
          have z1 := (HL0.out.keep HK4.out HNe.out.1).cell (j := 1) rfl
          have HSS : Hid (∀ z, Kp (fun b => b = m) w4 z → Kp (fun b => b = m) w4 z ∧ z.cell? ⟨r, 0, none⟩ = some (.pointer (some ⟨bp, 0, none⟩)) ∧ z.cell? ⟨r, 1, none⟩ = some (.int .i64 (s : Int))) := fun z kz => ⟨kz, kz.cellv z0 HNe.out.1, kz.cellv z1 HNe.out.1⟩
          have H3 : Hid (∀ u g9, Kp (fun _ => False) w4 u → Rb u (some ⟨g9, 0, none⟩) 64 (nouW 64) → Calls Tryz.prog 80 #[ringV bp s, .int .i64 (sc : Int), .slice (some ⟨g9, 0, none⟩) 64 64] u fun e9 w' => e9 = .returned .nilIface ∧ Kp (fun x => x = m) u w' ∧ Pt w' bp d m n (q1 + 1) dur (fun j => if j = 2 + (e + i) % s then some (nouW 64) else T1 j)) := fun u g9 ku hb => by
            have := rwrite_ok (HP4.out.keep0 ku) (by have := HN.out; have := HQ.out.2.1; have := HE.out; omega) s sc (by have := HSc.out; omega) g9 0 64 (nouW 64) hb
            rw [HSc.out.1] at this ⊢
            exact this
          have HTm : Hid (∀ u, Kp (fun _ => False) w4 u → Kp (fun x => x = m) w4 u) := fun u h => h.mono (fun _ _ e => e.elim)
          have HTt : Hid (∀ u u' : World, Kp (fun _ => False) w4 u → Kp (fun _ => False) u u' → Kp (fun _ => False) w4 u') := fun u u' h1 h2 => h1.trans h2 (fun _ _ e => e)
          have HTw : Hid (∀ u u' : World, Kp (fun _ => False) w4 u → Kp (fun x => x = m) u u' → Kp (fun x => x = m) w4 u') := fun u u' h1 h2 => (h1.mono (fun _ _ e => e.elim)).trans h2 (fun _ _ e => e)
          go_upto_region 8 with fail
          have kd : Kp (fun _ => False) w4 w4.drew := (Kp.refl _ _).drew
          have kD : Kp (fun b => b = m) w4 w4.drew := (Kp.refl _ _).drew
          go_region_held3 (fun z => Kp (fun b => b = m) w4 z ∧ z.cell? ⟨r, 0, none⟩ = some (.pointer (some ⟨bp, 0, none⟩)) ∧ z.cell? ⟨r, 1, none⟩ = some (.int .i64 (s : Int)))
            (first
              | exact HSS.out _ kD
              | exact HSS.out _ km1
              | exact HSS.out _ km2)
            (first
              | (go_at_call 96; refine (blankS_ok _).mono ?_; rintro e9 wA ⟨g9, hg9, rfl, kA, bk9⟩; have kw1 := HTt.out _ _ kd kA; have km1 := HTm.out _ kw1)
              | (go_at_call 80; refine (H3.out _ _ kw1 bk9.rb).mono ?_; rintro e9 wY ⟨rfl, kY, pY⟩; have km2 := HTw.out _ _ kw1 kY))
          all_goals
            have HKY : Hid (Kp (fun x => x = m) w0 wY) := HK4.out.trans km2 (fun _ _ e => e)
            have HIY : Hid (Ip wY hh 0 gg cc [] [] (popIL lz)) := HI4.out.keep km2 (fun e => HNe.out.2.2.2.2.2.2.2.1 e.symm) (fun e => HNe.out.2.2.2.2.2.2.2.2 e.symm)
            have HPY : Hid (Pt wY bp d m n (q1 + 1) dur (fun j => if j = 2 + (e + i) % s then some (nouW 64) else T1 j)) := pY
            clear kd kD kw1 km1 km2 kA hg9 bk9 kY pY z0 z1
            go_simp
            have c0 := HIY.out.c0
            rw [HF3.out.len] at c0
            obtain ⟨wN, hwN⟩ : ∃ y, y = wY.alloc (.cells #[.slice (some ⟨gg, 0, none⟩) kk cc] 82) := ⟨_, rfl⟩
            obtain ⟨hN, hhN⟩ : ∃ y, y = wY.heap.size := ⟨_, rfl⟩
            have kN : Kp (fun _ => False) wY wN := by rw [hwN]; exact (Kp.refl _ _).alloc _
            have HF : Hid (Kp (fun x => x = m) w0 wN ∧ Ip wN hN 0 gg cc [] [] (popIL lz) ∧ w0.heap.size ≤ hN ∧ Free (popIL lz) (e + (i + 1)) (k - (i + 1))) := by
              refine ⟨HKY.out.trans kN (fun _ _ e => e.elim), ⟨?_, rfl, ownsRow_keep HIY.out.ow kN (fun _ _ e => e), ?_⟩, ?_, ?_⟩
              · rw [HF3.out.len, hwN, hhN]; exact Lv.new _ _ _
              · have := HIY.out.gb; omega
              · have := HKY.out.size; omega
              · have h1 := HE.out
                rw [show e + (i + 1) = E + 1 by omega, show k - (i + 1) = kk by omega]
                exact HF3.out
            have HPN : Hid (Pt wN bp d m n _ dur _) := HPY.out.keep0 kN
            clear kN
            go_wp2
            rw [← hwN, ← hhN]
            go_roundg (k - (i + 1))
            case rel => exact ⟨i + 1, hN, gg, cc, popIL lz, _, _, by have := HE.out; omega, rfl, rfl, HF.out.1, ⟨HF.out.2.1, HF.out.2.2.2, HI.out.2.2.1, HF.out.2.2.1⟩, ⟨HPN.out, by have := HQ.out.2.1; omega, HC.out⟩⟩
            case measure => have := HE.out; omega
    · have hik : i = k := by omega
      subst hik
      have hk0 : i - i = 0 := by omega
      rw [hk0] at p0
      have HLen : Hid (∀ u, Calls Tryz.prog 101 #[.slice (some ⟨gg, 0, none⟩) 0 cc] u fun e w' => e = .returned (.int .i64 ((0 : Nat) : Int)) ∧ w' = u) := fun u => ilen (some ⟨gg, 0, none⟩) 0 cc u
      have HSy : Hid (Calls _ _ _ wr _) := rsync_ok HQ.out.1 s
      have HC : Hid (Cln dur T s e i n (nowOf (durAll dur T1 n) (fun _ => none))) := fun j hj => by
        rw [nowOf_sync HQ.out.1 hj]
        exact HQ.out.2.2 j hj
      clear hk0
      go_wp2_with fail
      refine (HLen.out _).mono ?_
      rintro e9 w9 ⟨rfl, hw9⟩
      have hw8 := hw9.symm
      subst hw8
      clear hw9 HLen
      go_wp2_with fail
      refine HSy.out.mono ?_
      rintro e9 w5 ⟨rfl, k5, p5⟩
      have HF : Hid (Kp (fun x => x = d ∨ x = m) w w5 ∧ Pt w5 bp d m n 0 (durAll dur T1 n) (fun _ => none)) := ⟨((HK0.out.mono (fun _ _ e => e.elim)).trans (HK.out.mono (fun _ _ e => Or.inr e)) (fun _ _ e => e)).trans k5 (fun _ _ e => e), p5⟩
      clear k5 p5 HSy
      go_wp2
      go_ret
      exact ⟨rfl, HF.out.1, _, HF.out.2, HC.out⟩
end Go.Proofs.YtblaabjjcanifaaGreatDoor
