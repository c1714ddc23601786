/- The walk of the law FrameMany: frames one behind the other are told one by one. -/
import Derived.Test.YtlgockombdjbpaaDoorFp
import Derived.Test.YtlgockombdjbpaaDoorFy
import Derived.Test.YtlgockombdjbpaaDoorLsh
namespace Go.Proofs.YtlgockombdjbpaaDoor
open Go.RowKit Go.Deep

/-- frames one behind the other -/
def cat (bl : List (List Nat)) : List Nat := (bl.map frm).flatten
theorem cat_cons (b : List Nat) (bl : List (List Nat)) : cat (b :: bl) = frm b ++ cat bl := by simp [cat]
theorem cat_snoc (bl : List (List Nat)) (b : List Nat) : cat (bl ++ [b]) = cat bl ++ frm b := by simp [cat]
/-- what is framed of the texts ls -/
def cutL (ls : List (List Nat)) (j : Nat) : List Nat := (ls.getD j []).take 100 ++ [2]
def cuts (ls : List (List Nat)) (r : Nat) : List (List Nat) := (List.range r).map (cutL ls)
theorem cuts_succ (ls : List (List Nat)) (r : Nat) : cuts ls (r + 1) = cuts ls r ++ [cutL ls r] := by
  unfold cuts; rw [List.range_succ, List.map_append]; rfl
theorem cutL_length (ls : List (List Nat)) (j : Nat) : 1 ≤ (cutL ls j).length ∧ (cutL ls j).length ≤ 101 := by
  unfold cutL; rw [List.length_append, List.length_take]; simp; omega
theorem cuts_length (ls : List (List Nat)) (r : Nat) : (cuts ls r).length = r := by simp [cuts]
theorem cat_cuts_length (ls : List (List Nat)) : ∀ r, (cat (cuts ls r)).length ≤ 108 * r
  | 0 => by simp [cuts, cat]
  | r + 1 => by
    have := cat_cuts_length ls r
    have := (cutL_length ls r).2
    rw [cuts_succ, cat_snoc, List.length_append, frm_length]; omega
theorem cuts_drop (ls : List (List Nat)) (r k : Nat) (h : k < r) : (cuts ls r).drop k = cutL ls k :: (cuts ls r).drop (k + 1) := by
  have hk : k < (cuts ls r).length := by rw [cuts_length]; exact h
  rw [List.drop_eq_getElem_cons hk]
  congr 1
  simp [cuts]
theorem frm_small {xs : List Nat} (h : ∀ x ∈ xs, x < 256) (hl : xs.length ≤ 101) : ∀ x ∈ frm xs, x < 256 := frm_byte h (by omega)
theorem cat_byte {bl : List (List Nat)} (h : ∀ b ∈ bl, (∀ x ∈ b, x < 256) ∧ b.length ≤ 101) : ∀ x ∈ cat bl, x < 256 := fun x hx => by
  unfold cat at hx
  rw [List.mem_flatten] at hx
  obtain ⟨l, hl, hx⟩ := hx
  obtain ⟨b, hb, rfl⟩ := List.mem_map.1 hl
  exact frm_small (h b hb).1 (h b hb).2 x hx
theorem info42 : (Tryd.prog.info? 22).map (fun i => (i.zero, i.size, i.bytes)) = some (some (.slice none 0 0), 1, 24) := by kernel_rfl

/-- headers -/
def hd3 (A : Nat → Option Addr) (L C : Nat → Nat) (r : Nat) : List Value := (List.range r).map fun j => .slice (A j) (L j) (C j)
theorem hd3_succ (A : Nat → Option Addr) (L C : Nat → Nat) (r : Nat) (p : Option Addr) (c : Nat) : hd3 (fun j => if j = r then p else A j) L (fun j => if j = r then c else C j) (r + 1) = hd3 A L C r ++ [.slice p (L r) c] := by
  unfold hd3
  rw [List.range_succ, List.map_append]
  congr 1
  · refine List.map_congr_left (fun j hj => ?_)
    have hj' := List.mem_range.1 hj
    simp only []
    rw [if_neg (by omega), if_neg (by omega)]
  · simp
theorem hd3_at (A : Nat → Option Addr) (L C : Nat → Nat) {r j : Nat} (h : j < r) : (hd3 A L C r)[j]? = some (.slice (A j) (L j) (C j)) := by
  unfold hd3
  rw [List.getElem?_map, List.getElem?_range h]; rfl

/-- what was gathered of r texts: the frames va, the texts vw, each in memory of its own -/
structure Gt (w0 wr : World) (ls : List (List Nat)) (r : Nat) (va vw : Value) (A : Nat → Option Addr) (C : Nat → Nat) : Prop where
  kept : Kp (fun _ => False) w0 wr
  all : Ow wr w0.heap.size va (cat (cuts ls r))
  want : wr.ownsRow w0.heap.size 22 1 vw r (hd3 A (fun j => (cutL ls j).length) C r)
  row : ∀ j, j < r → Rb wr (A j) (cutL ls j).length (cutL ls j)
  fine : ∀ j, j < r → ∀ a, A j = some a → a.block < wr.heap.size ∧ va.ownBlock ≠ some a.block ∧ vw.ownBlock ≠ some a.block
  apart : ∀ g, va.ownBlock = some g → vw.ownBlock ≠ some g
theorem Gt.start (w : World) (ls : List (List Nat)) : Gt w w ls 0 (.slice none 0 0) (.slice none 0 0) (fun _ => none) (fun _ => 0) :=
  ⟨Kp.refl _ _, World.ownsRow_nil _ _ _ _, World.ownsRow_nil _ _ _ _, fun j h => absurd h (Nat.not_lt_zero _), fun j h => absurd h (Nat.not_lt_zero _), fun g h => by simp [Value.ownBlock] at h⟩
theorem Gt.keep {w0 wr wr' : World} {ls : List (List Nat)} {r : Nat} {va vw : Value} {A : Nat → Option Addr} {C : Nat → Nat} (h : Gt w0 wr ls r va vw A C) (k : Kp (fun _ => False) wr wr') : Gt w0 wr' ls r va vw A C :=
  ⟨h.kept.trans k (fun _ _ e => e), ownsRow_keep h.all k (fun _ _ => id), ownsRow_keep h.want k (fun _ _ => id), fun j hj => (h.row j hj).keep0 k, fun j hj a ha => by
    obtain ⟨h1, h2, h3⟩ := h.fine j hj a ha
    exact ⟨Nat.lt_of_lt_of_le h1 k.size, h2, h3⟩, h.apart⟩
/-- the frames grow -/
theorem Gt.grow {w0 wr wr' : World} {ls : List (List Nat)} {r : Nat} {va vw va' : Value} {A : Nat → Option Addr} {C : Nat → Nat} (h : Gt w0 wr ls r va vw A C)
    (k : Kp (fun b => va.ownBlock = some b) wr wr') (hat : va'.ownBlock = va.ownBlock ∨ va'.ownBlock = some wr.heap.size) :
    Kp (fun _ => False) w0 wr' ∧ wr'.ownsRow w0.heap.size 22 1 vw r (hd3 A (fun j => (cutL ls j).length) C r) ∧ (∀ j, j < r → Rb wr' (A j) (cutL ls j).length (cutL ls j)) ∧ (∀ j, j < r → ∀ a, A j = some a → a.block < wr'.heap.size ∧ va'.ownBlock ≠ some a.block ∧ vw.ownBlock ≠ some a.block) ∧ (∀ g, va'.ownBlock = some g → vw.ownBlock ≠ some g) := by
  refine ⟨Kp.app h.kept h.all k, ownsRow_keep h.want k (fun g hg e => h.apart g e hg), fun j hj => (h.row j hj).keep k (fun a ha _ e => (h.fine j hj a ha).2.1 e), fun j hj a ha => ?_, fun g hg => ?_⟩
  · obtain ⟨h1, h2, h3⟩ := h.fine j hj a ha
    refine ⟨Nat.lt_of_lt_of_le h1 k.size, fun e => ?_, h3⟩
    rcases hat with e' | e'
    · exact h2 (e'.symm.trans e)
    · have := Option.some.inj (e'.symm.trans e); omega
  · rcases hat with e' | e'
    · exact h.apart g (e'.symm.trans hg)
    · intro e
      have h1 := Option.some.inj (e'.symm.trans hg)
      have h2 := (ownBlock_lt h.want e).2
      omega
theorem Gt.next {w0 w3 w4 w5 : World} {ls : List (List Nat)} {r : Nat} {va vw va' vw' : Value} {A : Nat → Option Addr} {C : Nat → Nat} {o : Obj} (h : Gt w0 w3 ls r va vw A C)
    (k4 : Kp (fun b => va.ownBlock = some b) w3 w4) (hat4 : va'.ownBlock = va.ownBlock ∨ va'.ownBlock = some w3.heap.size) (o4 : Ow w4 w0.heap.size va' (cat (cuts ls r) ++ frm (cutL ls r)))
    (p2 : Option Addr) (c2 : Nat) (r2 : Rb w3 p2 (cutL ls r).length (cutL ls r)) (hp2 : ∀ a, p2 = some a → a.block < w3.heap.size ∧ va.ownBlock ≠ some a.block ∧ vw.ownBlock ≠ some a.block)
    (o5 : w5.ownsRow w0.heap.size 22 1 vw' (r + 1) (hd3 A (fun j => (cutL ls j).length) C r ++ [.slice p2 (cutL ls r).length c2]))
    (k5 : Kp (fun b => vw.ownBlock = some b) (w4.alloc o) w5) (hat5 : vw'.ownBlock = vw.ownBlock ∨ vw'.ownBlock = some (w4.alloc o).heap.size) :
    Gt w0 w5 ls (r + 1) va' vw' (fun j => if j = r then p2 else A j) (fun j => if j = r then c2 else C j) := by
  obtain ⟨g1, g2, g3, g4, g5⟩ := h.grow (va' := va') k4 hat4
  have z5 := k5.size
  have za : (w4.alloc o).heap.size = w4.heap.size + 1 := by simp
  have z4 := k4.size
  have p2' : ∀ a, p2 = some a → a.block < w4.heap.size ∧ va'.ownBlock ≠ some a.block ∧ vw.ownBlock ≠ some a.block := fun a ha => by
    obtain ⟨x1, x2, x3⟩ := hp2 a ha
    refine ⟨by omega, fun e => ?_, x3⟩
    rcases hat4 with e' | e'
    · exact x2 (e'.symm.trans e)
    · have := Option.some.inj (e'.symm.trans e); omega
  have new : ∀ a : Addr, a.block < w4.heap.size → vw.ownBlock ≠ some a.block → vw'.ownBlock ≠ some a.block := fun a ha hn e => by
    rcases hat5 with e' | e'
    · exact hn (e'.symm.trans e)
    · have := Option.some.inj (e'.symm.trans e); omega
  refine ⟨Kp.app (g1.alloc o) (World.ownsRow.alloc g2 o) k5, ?_, ?_, fun j hj => ?_, fun j hj a ha => ?_, fun g hg e => ?_⟩
  · rw [cuts_succ, cat_snoc]
    exact ownsRow_keep (World.ownsRow.alloc o4 o) k5 (fun g hg e => g5 g hg e)
  · rw [hd3_succ]; exact o5
  · by_cases e : j = r
    · subst e
      simp only [if_true]
      exact ((r2.keep k4 (fun a ha _ e => (hp2 a ha).2.1 e)).keep0 ((Kp.refl _ _).alloc o)).keep k5 (fun a ha _ e => (hp2 a ha).2.2 e)
    · simp only [e, if_false]
      exact ((g3 j (by omega)).keep0 ((Kp.refl _ _).alloc o)).keep k5 (fun a ha _ e => (g4 j (by omega) a ha).2.2 e)
  · by_cases e : j = r
    · simp only [e, if_true] at ha
      obtain ⟨x1, x2, x3⟩ := p2' a ha
      exact ⟨by omega, x2, new a x1 x3⟩
    · simp only [e, if_false] at ha
      obtain ⟨x1, x2, x3⟩ := g4 j (by omega) a ha
      exact ⟨by omega, x2, new a x1 x3⟩
  · rcases hat5 with e' | e'
    · exact g5 g hg (e'.symm.trans e)
    · have h1 := Option.some.inj (e'.symm.trans e)
      have h2 := (ownBlock_lt o4 hg).2
      omega
theorem own_form {w : World} {base n : Nat} {e : TypeId} {v : Value} {xs : List Value} (h : w.ownsRow base e 1 v n xs) : ∃ q c, v = .slice q n c ∧ (0 < n → ∃ g, q = some ⟨g, 0, none⟩ ∧ ∀ j u, xs[j]? = some u → w.cell? ⟨g, j, none⟩ = some u) := by
  rcases h.2 with ⟨rfl, rfl⟩ | ⟨g, cap, cur, rfl, hb, hh, hn, _, hcs, htk⟩
  · exact ⟨none, 0, rfl, fun h => absurd h (Nat.lt_irrefl _)⟩
  · refine ⟨_, cap, rfl, fun _ => ⟨g, rfl, fun j u hu => ?_⟩⟩
    have hj : j < n := by have := (List.getElem?_eq_some_iff.1 hu).1; rw [h.1] at this; omega
    rw [← htk, List.getElem?_take_of_lt (by omega), Array.getElem?_toList] at hu
    simp [World.cell?, hh, hu]
theorem Rb.lt {w : World} {p : Option Addr} {n : Nat} {xs : List Nat} (h : Rb w p n xs) (hn : 0 < n) {a : Addr} (ha : p = some a) : a.block < w.heap.size := by
  obtain ⟨b, o, e, hc⟩ := h.pt hn
  have := World.block_lt_of_cell? w _ (hc 0 hn)
  rw [e] at ha
  cases ha
  exact this

set_option maxRecDepth 100000 in
set_option maxHeartbeats 3200000 in
theorem frameMany_walkA (g : Option Addr) (gb go cap n : Nat) (A0 : Nat → Option Addr) (C0 : Nat → Nat) (ls : List (List Nat)) (w : World) (hcap : n ≤ cap) (hg : 0 < n → g = some ⟨gb, go, none⟩)
    (hrows : ∀ r, r < n → w.cell? ⟨gb, go + r, none⟩ = some (.slice (A0 r) (ls.getD r []).length (C0 r)) ∧ Rb w (A0 r) (ls.getD r []).length (ls.getD r []) ∧ (ls.getD r []).length ≤ C0 r ∧ (ls.getD r []).length ≤ 140737488355328) (ht : Turns w) (hle : (n : Int) ≤ 20) :
    Calls Tryd.prog 7 #[.slice g n cap] w fun e w' => e = .returned (.bool true) ∧ Kp (fun _ => False) w w' := by
  obtain ⟨ti, hi0, hz0, hz1, hz2⟩ := info_parts info42
  have HCB : Hid (∀ r, r < n → (∀ x ∈ cutL ls r, x < 256)) := fun r hr x hx => by
    unfold cutL at hx
    rcases List.mem_append.1 hx with hx | hx
    · exact (hrows r (by omega)).2.1.byte x (List.mem_of_mem_take hx)
    · simp only [List.mem_cons, List.not_mem_nil, or_false] at hx; omega
  have HBB : Hid (∀ r, r ≤ n → ∀ k, ∀ x ∈ cat ((cuts ls r).drop k), x < 256) := fun r hr k => cat_byte (fun b hb => by
    obtain ⟨j, hj, rfl⟩ := List.mem_map.1 (List.mem_of_mem_drop hb)
    have := List.mem_range.1 hj
    exact ⟨HCB.out j (by omega), (cutL_length ls j).2⟩)
  have HRows : Hid (∀ r, r < n → w.cell? ⟨gb, go + r, none⟩ = some (.slice (A0 r) (ls.getD r []).length (C0 r)) ∧ Rb w (A0 r) (ls.getD r []).length (ls.getD r []) ∧ (ls.getD r []).length ≤ C0 r ∧ (ls.getD r []).length ≤ 140737488355328) := hrows
  clear hrows
  go_enter Tryd.func7, Tryd.ntmps7
  go_wp2
  go_loopg [3, 4, 23] n (fun gk va vw i wr => ∃ (r : Nat) (A : Nat → Option Addr) (C : Nat → Nat) (va' vw' : Value), r ≤ n ∧ gk = n - r ∧ i = .int .i64 r ∧ va' = va ∧ vw' = vw ∧ Gt w wr ls r va' vw' A C)
  case atStart => exact ⟨0, _, _, _, _, Nat.zero_le _, rfl, rfl, rfl, rfl, Gt.start w ls⟩
  case round =>
    obtain ⟨r, A, C, va, vw, hr, rfl, rfl, rfl, rfl, G⟩ := hrel
    by_cases hlt : (r : Int) < (n : Int)
    · obtain ⟨q1, q2, q3, q4⟩ := HRows.out r (by omega)
      obtain rfl := hg (by omega)
      have c1 := G.kept.cellv q1 id
      have HR := q2.keep0 G.kept
      have HCL : Hid (_ ∧ _) := cutL_length ls r
      have HB := HCB.out r (by omega)
      obtain ⟨m, hm⟩ : ∃ m, m = (ls.getD r []).length := ⟨_, rfl⟩
      rw [← hm] at c1 HR q3 q4
      have HClA : Hid (m ≤ 100 → Calls Tryd.prog 8 #[.slice (A0 r) m (C0 r)] wr fun e w' => ∃ v, e = .returned v ∧ Kp (fun _ => False) wr w' ∧ Ow w' wr.heap.size v ((ls.getD r []).take 100)) := fun hle => by
        rw [List.take_of_length_le (by omega)]
        exact clone_any (A0 r) m (C0 r) _ wr HR (show m ≤ _ from q4)
      have HClB : Hid (100 ≤ m → Calls Tryd.prog 8 #[.slice (A0 r) 100 (C0 r)] wr fun e w' => ∃ v, e = .returned v ∧ Kp (fun _ => False) wr w' ∧ Ow w' wr.heap.size v ((ls.getD r []).take 100)) := fun hle =>
        clone_any (A0 r) 100 (C0 r) _ wr (HR.first hle) (show 100 ≤ _ by omega)
      have HCE : Hid ((ls.getD r []).take 100 ++ [2] = cutL ls r) := rfl
      obtain ⟨ts, hts⟩ : ∃ ts, ts = (ls.getD r []).take 100 := ⟨_, rfl⟩
      have HTL : Hid (ts.length ≤ 100) := by rw [hts, List.length_take]; exact Nat.min_le_left _ _
      rw [← hts] at HClA HClB HCE
      have HGk : Hid (Gt w wr ls r va vw A C) := G
      have HB' : Hid (∀ x ∈ cutL ls r, x < 256) := HB
      clear q1 q2 hm hts HR G HB
      by_cases hm : (m : Int) ≤ 100
      case' pos =>
        go_wp2_with fail
        refine (HClA.out (by omega)).mono ?_
      case' neg =>
        have hm' : (100 : Int) < (m : Int) := by omega
        go_wp2_with fail
        refine (HClB.out (by omega)).mono ?_
      all_goals
        rintro e w1 ⟨v1, rfl, k1, o1⟩
        have HO1 : Hid (Ow (w1.alloc (.cells #[.int .u8 2] 5)) wr.heap.size v1 ts) := World.ownsRow.alloc o1 _
        have k1' := k1.alloc (.cells #[.int .u8 2] 5)
        clear o1
        go_wp2_with (at_builtin; refine wpList_append_bytes _ rfl _ _ rfl wr.heap.size v1 ts rfl HO1.out (some ⟨w1.heap.size, 0, none⟩) 1 1 [2] rfl (rb_lit1 w1 2 (by omega)) (by have := HTL.out; omega) k1'.size ?_
                     intro v2 w2 o2 hk2 hb2)
        have k2 := Kp.app k1' HO1.out hk2
        rw [HCE.out] at o2
        obtain ⟨p2, c2, rfl, hc2, r2, hp2⟩ := o2.rb HB'.out
        refine (wrap_yes p2 _ c2 _ w2 r2 (by have := HCL.out.1; omega) (by have := HCL.out.2; omega) (ht.keep0 (HGk.out.kept.trans k2 (fun _ _ e => e)))).mono ?_
        rintro e w3 ⟨v3, rfl, k3, o3⟩
        have k03 := k2.trans k3 (fun _ _ e => e)
        have G3 := HGk.out.keep k03
        obtain ⟨p3, c3, rfl, hc3, r3, _⟩ := o3.rb (frm_small HB'.out HCL.out.2)
        have HP2 : Hid (∀ a, p2 = some a → a.block < w3.heap.size ∧ va.ownBlock ≠ some a.block ∧ vw.ownBlock ≠ some a.block) := fun a ha => by
          have x1 := r2.lt (by have := HCL.out.1; omega) ha
          have x2 := (hp2 a ha).1
          have := k3.size
          exact ⟨by omega, fun e => by have := (ownBlock_lt HGk.out.all e).2; omega, fun e => by have := (ownBlock_lt HGk.out.want e).2; omega⟩
        have HR2 : Hid (Rb w3 p2 (cutL ls r).length (cutL ls r)) := r2.keep0 k3
        have HG3 : Hid (Gt w w3 ls r va vw A C) := G3
        have HR3 : Hid (Rb w3 p3 (frm (cutL ls r)).length (frm (cutL ls r))) := r3
        have HFl : Hid ((frm (cutL ls r)).length ≤ 108) := by show _ ≤ _; rw [frm_length]; have := HCL.out.2; omega
        have HCl : Hid ((cat (cuts ls r)).length ≤ 3000) := by show _ ≤ _; have := cat_cuts_length ls r; omega
        have z3 := G3.kept.size
        clear o2 o3 r2 r3 hp2 G3 hk2 hb2 HO1 k1'
        go_wp2_with (first
          | (at_builtin; refine wpList_append_bytes _ rfl _ _ rfl w.heap.size va (cat (cuts ls r)) rfl HG3.out.all p3 _ c3 (frm (cutL ls r)) rfl HR3.out (by have := HFl.out; have := HCl.out; omega) z3 ?_
             intro va' w4 o4 hk4 hat4
             have g4 := HG3.out.grow hk4 hat4
             have HW4 : Hid (∀ o, (w4.alloc o).ownsRow w.heap.size 22 1 vw r (hd3 A (fun j => (cutL ls j).length) C r)) := fun o => World.ownsRow.alloc g4.2.1 o
             have z4 : w.heap.size ≤ w4.heap.size := g4.1.size
             clear g4)
          | (at_builtin; refine wpList_append_own_at _ rfl _ _ 37 rfl w.heap.size 22 ti (.slice none 0 0) 1 24 Tryd.underlying37 hi0 hz0 hz1 hz2 rfl (by decide) vw r _ rfl (HW4.out _) ⟨w4.heap.size, 0, none⟩ 1 1 [.slice p2 (cutL ls r).length c2] rfl rfl (cell_one_new _ _ _) (fun x hx => by simp at hx; subst hx; rfl) (by unfold maxLen; omega) (by omega) (by simp; omega) ?_
             intro vw' w5 hown5 hgrow5 hnil5 hat5))
        have GN := HG3.out.next hk4 hat4 o4 p2 c2 HR2.out HP2.out hown5 (grownBy_kp hgrow5) hat5
        clear hown5 hgrow5 hnil5 hat5 hk4 hat4 o4 HW4
        go_roundg (n - (r + 1))
        case rel => exact ⟨r + 1, _, _, _, _, by omega, rfl, by go_num, rfl, rfl, GN⟩
        case measure => omega
    · have e : n = r := by omega
      subst e
      obtain ⟨wr0, rfl⟩ : ∃ x, x = wr := ⟨_, rfl⟩
      obtain ⟨q, cw, rfl, hq⟩ := own_form G.want
      have HB0 := HBB.out n (Nat.le_refl _) 0
      rw [List.drop_zero] at HB0
      obtain ⟨pa, ca, rfl, hca, ra, _⟩ := G.all.rb HB0
      have HRow : Hid (∀ j, j < n → Rb wr0 (A j) (cutL ls j).length (cutL ls j)) := G.row
      have k0 := G.kept
      have HQ : Hid (0 < n → ∃ g, q = some ⟨g, 0, none⟩ ∧ ∀ j u, (hd3 A (fun j => (cutL ls j).length) C n)[j]? = some u → wr0.cell? ⟨g, j, none⟩ = some u) := hq
      have HCl : Hid ((cat (cuts ls n)).length ≤ 3000) := by show _ ≤ _; have := cat_cuts_length ls n; omega
      have HDl : Hid (∀ k, (cat ((cuts ls n).drop k)).length ≤ (cat (cuts ls n)).length) := fun k => by
        have : cat (cuts ls n) = cat ((cuts ls n).take k) ++ cat ((cuts ls n).drop k) := by
          unfold cat
          rw [← List.flatten_append, ← List.map_append, List.take_append_drop]
        rw [this, List.length_append]; omega
      obtain ⟨T, hT⟩ : ∃ T, T = (cat (cuts ls n)).length := ⟨_, rfl⟩
      have HT : Hid (T = (cat (cuts ls n)).length) := hT
      have HRa : Hid (Rb wr0 pa T (cat (cuts ls n))) := by rw [hT]; exact ra
      have HCa : Hid (T ≤ ca) := by rw [hT]; exact hca
      rw [← hT]
      clear G hq ra hca HB0 hT hlt hr
      go_wp2
      go_loopg [3, 52] n (fun gk x i wq => ∃ (k n' : Nat) (pa' : Option Addr) (ca' : Nat), k ≤ n ∧ gk = n - k ∧ i = .int .i64 k ∧ x = .slice pa' n' ca' ∧ n' ≤ ca' ∧ Hid (Rb wq pa' n' (cat ((cuts ls n).drop k))) ∧ Kp (fun _ => False) wr0 wq)
      case atStart => exact ⟨0, T, pa, ca, Nat.zero_le _, rfl, rfl, rfl, HCa.out, by rw [List.drop_zero]; exact HRa.out, Kp.refl _ _⟩
      case round =>
        obtain ⟨k, n', pa', ca', hk, rfl, rfl, rfl, hnc, HRq, hKq⟩ := hrel
        have k0q := k0.trans hKq (fun _ _ e => e)
        have HNn : Hid (n' ≤ 3000) := by have := HRq.out.len; have := HDl.out k; have := HCl.out; show _ ≤ _; omega
        by_cases hlk : (k : Int) < (n : Int)
        · obtain ⟨gw, rfl, hcell⟩ := HQ.out (by omega)
          have c1 := hKq.cellv (hcell k _ (hd3_at A _ C (by omega))) id
          have HRk := (HRow.out k (by omega)).keep0 hKq
          have HD : Hid (cat ((cuts ls n).drop k) = frm (cutL ls k) ++ cat ((cuts ls n).drop (k + 1))) := by show _ = _; rw [cuts_drop ls n k (by omega), cat_cons]
          have hcl := (cutL_length ls k).1
          have HUn : Hid (Calls _ _ _ wr _) := unwrap_any pa' n' ca' _ wr HRq.out hnc (by have := HNn.out; show _ ≤ _; omega) (ht.keep0 k0q)
          rw [HD.out, lk_frame _ _ hcl, unB_frame _ _ hcl, unR_frame _ _ hcl] at HUn
          have HBr := HBB.out n (Nat.le_refl _) (k + 1)
          have HCk := HCB.out k (by omega)
          clear HRq hcl hcell
          go_wp2_with fail
          refine HUn.out.mono ?_
          rintro e w1 ⟨v1, v2, rfl, k1, o1, o2⟩
          obtain ⟨p1, c1', rfl, _, r1, _⟩ := o1.rb HCk
          obtain ⟨p2, c2', rfl, hc2, r2, _⟩ := o2.rb HBr
          have HEq : Hid (Calls _ _ _ w1 _) := equal_same p1 (A k) _ _ c1' (C k) _ w1 r1 (HRk.keep0 k1)
          have HR2 : Hid (Rb w1 p2 _ (cat ((cuts ls n).drop (k + 1)))) := r2
          have kq1 := hKq.trans k1 (fun _ _ e => e)
          clear o1 o2 r1 r2 HRk HBr HCk HUn
          go_wp2_with (go_at_call 11; refine HEq.out.mono ?_; rintro e w' ⟨rfl, rfl⟩)
          go_roundg (n - (k + 1))
          case rel => exact ⟨k + 1, _, p2, c2', by omega, rfl, by go_num, rfl, hc2, HR2.out, kq1⟩
          case measure => omega
        · have e : k = n := by omega
          have HD : Hid (cat ((cuts ls n).drop k) = []) := by show _ = _; rw [e, List.drop_of_length_le (by rw [cuts_length]; omega)]; rfl
          have hR0 := HRq.out
          rw [HD.out] at hR0
          have hn0 := hR0.len
          subst hn0
          have HUn : Hid (Calls _ _ _ wr _) := unwrap_any pa' 0 ca' [] wr hR0 (Nat.zero_le _) (Nat.zero_le _) (ht.keep0 k0q)
          have HE0 : Hid (lkE [] = 50) := rfl
          rw [HE0.out] at HUn
          clear hR0 HRq e hk
          go_wp2_with fail
          refine HUn.out.mono ?_
          rintro e w1 ⟨v1, v2, rfl, k1, o1, o2⟩
          clear o1 o2
          go_wp2
          go_ret
          exact ⟨rfl, k0q.trans k1 (fun _ _ e => e)⟩

set_option maxRecDepth 100000 in
set_option maxHeartbeats 3200000 in
theorem frameMany_walkB (g : Option Addr) (gb go cap n : Nat) (A0 : Nat → Option Addr) (C0 : Nat → Nat) (ls : List (List Nat)) (w : World) (hcap : n ≤ cap) (hg : 0 < n → g = some ⟨gb, go, none⟩)
    (hrows : ∀ r, r < n → w.cell? ⟨gb, go + r, none⟩ = some (.slice (A0 r) (ls.getD r []).length (C0 r)) ∧ Rb w (A0 r) (ls.getD r []).length (ls.getD r []) ∧ (ls.getD r []).length ≤ C0 r ∧ (ls.getD r []).length ≤ 140737488355328) (ht : Turns w) (hle : (20 : Int) < (n : Int)) :
    Calls Tryd.prog 7 #[.slice g n cap] w fun e w' => e = .returned (.bool true) ∧ Kp (fun _ => False) w w' := by
  obtain ⟨ti, hi0, hz0, hz1, hz2⟩ := info_parts info42
  have HCB : Hid (∀ r, r < 20 → (∀ x ∈ cutL ls r, x < 256)) := fun r hr x hx => by
    unfold cutL at hx
    rcases List.mem_append.1 hx with hx | hx
    · exact (hrows r (by omega)).2.1.byte x (List.mem_of_mem_take hx)
    · simp only [List.mem_cons, List.not_mem_nil, or_false] at hx; omega
  have HBB : Hid (∀ r, r ≤ 20 → ∀ k, ∀ x ∈ cat ((cuts ls r).drop k), x < 256) := fun r hr k => cat_byte (fun b hb => by
    obtain ⟨j, hj, rfl⟩ := List.mem_map.1 (List.mem_of_mem_drop hb)
    have := List.mem_range.1 hj
    exact ⟨HCB.out j (by omega), (cutL_length ls j).2⟩)
  have HRows : Hid (∀ r, r < n → w.cell? ⟨gb, go + r, none⟩ = some (.slice (A0 r) (ls.getD r []).length (C0 r)) ∧ Rb w (A0 r) (ls.getD r []).length (ls.getD r []) ∧ (ls.getD r []).length ≤ C0 r ∧ (ls.getD r []).length ≤ 140737488355328) := hrows
  clear hrows
  go_enter Tryd.func7, Tryd.ntmps7
  go_wp2
  go_loopg [3, 4, 23] 20 (fun gk va vw i wr => ∃ (r : Nat) (A : Nat → Option Addr) (C : Nat → Nat) (va' vw' : Value), r ≤ 20 ∧ gk = 20 - r ∧ i = .int .i64 r ∧ va' = va ∧ vw' = vw ∧ Gt w wr ls r va' vw' A C)
  case atStart => exact ⟨0, _, _, _, _, Nat.zero_le _, rfl, rfl, rfl, rfl, Gt.start w ls⟩
  case round =>
    obtain ⟨r, A, C, va, vw, hr, rfl, rfl, rfl, rfl, G⟩ := hrel
    by_cases hlt : (r : Int) < (20 : Int)
    · obtain ⟨q1, q2, q3, q4⟩ := HRows.out r (by omega)
      obtain rfl := hg (by omega)
      have c1 := G.kept.cellv q1 id
      have HR := q2.keep0 G.kept
      have HCL : Hid (_ ∧ _) := cutL_length ls r
      have HB := HCB.out r (by omega)
      obtain ⟨m, hm⟩ : ∃ m, m = (ls.getD r []).length := ⟨_, rfl⟩
      rw [← hm] at c1 HR q3 q4
      have HClA : Hid (m ≤ 100 → Calls Tryd.prog 8 #[.slice (A0 r) m (C0 r)] wr fun e w' => ∃ v, e = .returned v ∧ Kp (fun _ => False) wr w' ∧ Ow w' wr.heap.size v ((ls.getD r []).take 100)) := fun hle => by
        rw [List.take_of_length_le (by omega)]
        exact clone_any (A0 r) m (C0 r) _ wr HR (show m ≤ _ from q4)
      have HClB : Hid (100 ≤ m → Calls Tryd.prog 8 #[.slice (A0 r) 100 (C0 r)] wr fun e w' => ∃ v, e = .returned v ∧ Kp (fun _ => False) wr w' ∧ Ow w' wr.heap.size v ((ls.getD r []).take 100)) := fun hle =>
        clone_any (A0 r) 100 (C0 r) _ wr (HR.first hle) (show 100 ≤ _ by omega)
      have HCE : Hid ((ls.getD r []).take 100 ++ [2] = cutL ls r) := rfl
      obtain ⟨ts, hts⟩ : ∃ ts, ts = (ls.getD r []).take 100 := ⟨_, rfl⟩
      have HTL : Hid (ts.length ≤ 100) := by rw [hts, List.length_take]; exact Nat.min_le_left _ _
      rw [← hts] at HClA HClB HCE
      have HGk : Hid (Gt w wr ls r va vw A C) := G
      have HB' : Hid (∀ x ∈ cutL ls r, x < 256) := HB
      clear q1 q2 hm hts HR G HB
      by_cases hm : (m : Int) ≤ 100
      case' pos =>
        go_wp2_with fail
        refine (HClA.out (by omega)).mono ?_
      case' neg =>
        have hm' : (100 : Int) < (m : Int) := by omega
        go_wp2_with fail
        refine (HClB.out (by omega)).mono ?_
      all_goals
        rintro e w1 ⟨v1, rfl, k1, o1⟩
        have HO1 : Hid (Ow (w1.alloc (.cells #[.int .u8 2] 5)) wr.heap.size v1 ts) := World.ownsRow.alloc o1 _
        have k1' := k1.alloc (.cells #[.int .u8 2] 5)
        clear o1
        go_wp2_with (at_builtin; refine wpList_append_bytes _ rfl _ _ rfl wr.heap.size v1 ts rfl HO1.out (some ⟨w1.heap.size, 0, none⟩) 1 1 [2] rfl (rb_lit1 w1 2 (by omega)) (by have := HTL.out; omega) k1'.size ?_
                     intro v2 w2 o2 hk2 hb2)
        have k2 := Kp.app k1' HO1.out hk2
        rw [HCE.out] at o2
        obtain ⟨p2, c2, rfl, hc2, r2, hp2⟩ := o2.rb HB'.out
        refine (wrap_yes p2 _ c2 _ w2 r2 (by have := HCL.out.1; omega) (by have := HCL.out.2; omega) (ht.keep0 (HGk.out.kept.trans k2 (fun _ _ e => e)))).mono ?_
        rintro e w3 ⟨v3, rfl, k3, o3⟩
        have k03 := k2.trans k3 (fun _ _ e => e)
        have G3 := HGk.out.keep k03
        obtain ⟨p3, c3, rfl, hc3, r3, _⟩ := o3.rb (frm_small HB'.out HCL.out.2)
        have HP2 : Hid (∀ a, p2 = some a → a.block < w3.heap.size ∧ va.ownBlock ≠ some a.block ∧ vw.ownBlock ≠ some a.block) := fun a ha => by
          have x1 := r2.lt (by have := HCL.out.1; omega) ha
          have x2 := (hp2 a ha).1
          have := k3.size
          exact ⟨by omega, fun e => by have := (ownBlock_lt HGk.out.all e).2; omega, fun e => by have := (ownBlock_lt HGk.out.want e).2; omega⟩
        have HR2 : Hid (Rb w3 p2 (cutL ls r).length (cutL ls r)) := r2.keep0 k3
        have HG3 : Hid (Gt w w3 ls r va vw A C) := G3
        have HR3 : Hid (Rb w3 p3 (frm (cutL ls r)).length (frm (cutL ls r))) := r3
        have HFl : Hid ((frm (cutL ls r)).length ≤ 108) := by show _ ≤ _; rw [frm_length]; have := HCL.out.2; omega
        have HCl : Hid ((cat (cuts ls r)).length ≤ 3000) := by show _ ≤ _; have := cat_cuts_length ls r; omega
        have z3 := G3.kept.size
        clear o2 o3 r2 r3 hp2 G3 hk2 hb2 HO1 k1'
        go_wp2_with (first
          | (at_builtin; refine wpList_append_bytes _ rfl _ _ rfl w.heap.size va (cat (cuts ls r)) rfl HG3.out.all p3 _ c3 (frm (cutL ls r)) rfl HR3.out (by have := HFl.out; have := HCl.out; omega) z3 ?_
             intro va' w4 o4 hk4 hat4
             have g4 := HG3.out.grow hk4 hat4
             have HW4 : Hid (∀ o, (w4.alloc o).ownsRow w.heap.size 22 1 vw r (hd3 A (fun j => (cutL ls j).length) C r)) := fun o => World.ownsRow.alloc g4.2.1 o
             have z4 : w.heap.size ≤ w4.heap.size := g4.1.size
             clear g4)
          | (at_builtin; refine wpList_append_own_at _ rfl _ _ 37 rfl w.heap.size 22 ti (.slice none 0 0) 1 24 Tryd.underlying37 hi0 hz0 hz1 hz2 rfl (by decide) vw r _ rfl (HW4.out _) ⟨w4.heap.size, 0, none⟩ 1 1 [.slice p2 (cutL ls r).length c2] rfl rfl (cell_one_new _ _ _) (fun x hx => by simp at hx; subst hx; rfl) (by unfold maxLen; omega) (by omega) (by simp; omega) ?_
             intro vw' w5 hown5 hgrow5 hnil5 hat5))
        have GN := HG3.out.next hk4 hat4 o4 p2 c2 HR2.out HP2.out hown5 (grownBy_kp hgrow5) hat5
        clear hown5 hgrow5 hnil5 hat5 hk4 hat4 o4 HW4
        go_roundg (20 - (r + 1))
        case rel => exact ⟨r + 1, _, _, _, _, by omega, rfl, by go_num, rfl, rfl, GN⟩
        case measure => omega
    · have e : 20 = r := by omega
      subst e
      obtain ⟨wr0, rfl⟩ : ∃ x, x = wr := ⟨_, rfl⟩
      obtain ⟨q, cw, rfl, hq⟩ := own_form G.want
      have HB0 := HBB.out 20 (Nat.le_refl _) 0
      rw [List.drop_zero] at HB0
      obtain ⟨pa, ca, rfl, hca, ra, _⟩ := G.all.rb HB0
      have HRow : Hid (∀ j, j < 20 → Rb wr0 (A j) (cutL ls j).length (cutL ls j)) := G.row
      have k0 := G.kept
      have HQ : Hid (0 < 20 → ∃ g, q = some ⟨g, 0, none⟩ ∧ ∀ j u, (hd3 A (fun j => (cutL ls j).length) C 20)[j]? = some u → wr0.cell? ⟨g, j, none⟩ = some u) := hq
      have HCl : Hid ((cat (cuts ls 20)).length ≤ 3000) := by show _ ≤ _; have := cat_cuts_length ls 20; omega
      have HDl : Hid (∀ k, (cat ((cuts ls 20).drop k)).length ≤ (cat (cuts ls 20)).length) := fun k => by
        have : cat (cuts ls 20) = cat ((cuts ls 20).take k) ++ cat ((cuts ls 20).drop k) := by
          unfold cat
          rw [← List.flatten_append, ← List.map_append, List.take_append_drop]
        rw [this, List.length_append]; omega
      obtain ⟨T, hT⟩ : ∃ T, T = (cat (cuts ls 20)).length := ⟨_, rfl⟩
      have HT : Hid (T = (cat (cuts ls 20)).length) := hT
      have HRa : Hid (Rb wr0 pa T (cat (cuts ls 20))) := by rw [hT]; exact ra
      have HCa : Hid (T ≤ ca) := by rw [hT]; exact hca
      rw [← hT]
      clear G hq ra hca HB0 hT hlt hr
      go_wp2
      go_loopg [3, 52] 20 (fun gk x i wq => ∃ (k n' : Nat) (pa' : Option Addr) (ca' : Nat), k ≤ 20 ∧ gk = 20 - k ∧ i = .int .i64 k ∧ x = .slice pa' n' ca' ∧ n' ≤ ca' ∧ Hid (Rb wq pa' n' (cat ((cuts ls 20).drop k))) ∧ Kp (fun _ => False) wr0 wq)
      case atStart => exact ⟨0, T, pa, ca, Nat.zero_le _, rfl, rfl, rfl, HCa.out, by rw [List.drop_zero]; exact HRa.out, Kp.refl _ _⟩
      case round =>
        obtain ⟨k, n', pa', ca', hk, rfl, rfl, rfl, hnc, HRq, hKq⟩ := hrel
        have k0q := k0.trans hKq (fun _ _ e => e)
        have HNn : Hid (n' ≤ 3000) := by have := HRq.out.len; have := HDl.out k; have := HCl.out; show _ ≤ _; omega
        by_cases hlk : (k : Int) < (20 : Int)
        · obtain ⟨gw, rfl, hcell⟩ := HQ.out (by omega)
          have c1 := hKq.cellv (hcell k _ (hd3_at A _ C (by omega))) id
          have HRk := (HRow.out k (by omega)).keep0 hKq
          have HD : Hid (cat ((cuts ls 20).drop k) = frm (cutL ls k) ++ cat ((cuts ls 20).drop (k + 1))) := by show _ = _; rw [cuts_drop ls 20 k (by omega), cat_cons]
          have hcl := (cutL_length ls k).1
          have HUn : Hid (Calls _ _ _ wr _) := unwrap_any pa' n' ca' _ wr HRq.out hnc (by have := HNn.out; show _ ≤ _; omega) (ht.keep0 k0q)
          rw [HD.out, lk_frame _ _ hcl, unB_frame _ _ hcl, unR_frame _ _ hcl] at HUn
          have HBr := HBB.out 20 (Nat.le_refl _) (k + 1)
          have HCk := HCB.out k (by omega)
          clear HRq hcl hcell
          go_wp2_with fail
          refine HUn.out.mono ?_
          rintro e w1 ⟨v1, v2, rfl, k1, o1, o2⟩
          obtain ⟨p1, c1', rfl, _, r1, _⟩ := o1.rb HCk
          obtain ⟨p2, c2', rfl, hc2, r2, _⟩ := o2.rb HBr
          have HEq : Hid (Calls _ _ _ w1 _) := equal_same p1 (A k) _ _ c1' (C k) _ w1 r1 (HRk.keep0 k1)
          have HR2 : Hid (Rb w1 p2 _ (cat ((cuts ls 20).drop (k + 1)))) := r2
          have kq1 := hKq.trans k1 (fun _ _ e => e)
          clear o1 o2 r1 r2 HRk HBr HCk HUn
          go_wp2_with (go_at_call 11; refine HEq.out.mono ?_; rintro e w' ⟨rfl, rfl⟩)
          go_roundg (20 - (k + 1))
          case rel => exact ⟨k + 1, _, p2, c2', by omega, rfl, by go_num, rfl, hc2, HR2.out, kq1⟩
          case measure => omega
        · have e : k = 20 := by omega
          have HD : Hid (cat ((cuts ls 20).drop k) = []) := by show _ = _; rw [e, List.drop_of_length_le (by rw [cuts_length]; omega)]; rfl
          have hR0 := HRq.out
          rw [HD.out] at hR0
          have hn0 := hR0.len
          subst hn0
          have HUn : Hid (Calls _ _ _ wr _) := unwrap_any pa' 0 ca' [] wr hR0 (Nat.zero_le _) (Nat.zero_le _) (ht.keep0 k0q)
          have HE0 : Hid (lkE [] = 50) := rfl
          rw [HE0.out] at HUn
          clear hR0 HRq e hk
          go_wp2_with fail
          refine HUn.out.mono ?_
          rintro e w1 ⟨v1, v2, rfl, k1, o1, o2⟩
          clear o1 o2
          go_wp2
          go_ret
          exact ⟨rfl, k0q.trans k1 (fun _ _ e => e)⟩

theorem frameMany_walk (v : Value) (ls : List (List Nat)) (w : World) (h : Tb w v ls) (ht : Turns w) :
    Calls Tryd.prog 7 #[v] w fun e w' => e = .returned (.bool true) ∧ Kp (fun _ => False) w w' := by
  obtain ⟨⟨g, gb, go, cap, A0, C0, rfl, hcap, hg, hrows⟩, _⟩ := h
  by_cases hle : (ls.length : Int) ≤ 20
  · exact frameMany_walkA g gb go cap ls.length A0 C0 ls w hcap hg hrows ht hle
  · exact frameMany_walkB g gb go cap ls.length A0 C0 ls w hcap hg hrows ht (by omega)
end Go.Proofs.YtlgockombdjbpaaDoor
