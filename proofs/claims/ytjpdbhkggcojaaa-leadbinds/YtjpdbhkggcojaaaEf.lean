/- Tries that hear promises without votes; majorities meet. -/
import Derived.Test.YtjpdbhkggcojaaaEe
import Derived.Test.YtjpdbhkggcojaaaDi
namespace Go.Proofs.Ytjpdbhkggcojaaa
set_option linter.unusedVariables false
open Go.RowKit Go.Deep Go.Maps

theorem each_perm {ds zs : List Int} (hd : ds.Nodup) (hm : ∀ x, x ∈ ds ↔ x ∈ zs) : (each zs).Perm ds :=
  (List.perm_ext_iff_of_nodup (each_nodup zs) hd).2 (fun x => by rw [each_mem, hm])
theorem maj_of {ds zs : List Int} (pr : List Bool) (hd : ds.Nodup) (hm : ∀ x, x ∈ ds ↔ x ∈ zs) : maj pr zs = decide (ds.length < 2 * ds.countP (hasN pr)) := by
  have h := each_perm hd hm
  unfold maj
  rw [h.length_eq, h.countP_eq]
theorem two_count (f g : Int → Bool) : ∀ l : List Int, l.countP f + l.countP g ≤ l.length + l.countP (fun x => f x && g x)
  | [] => by simp
  | x :: l => by
    have := two_count f g l
    simp only [List.countP_cons, List.length_cons]
    cases f x <;> cases g x <;> simp <;> omega
/-- two majorities have one in common -/
theorem meets {pa pb : List Bool} {zs : List Int} (ha : maj pa zs = true) (hb : maj pb zs = true) : ∃ x ∈ zs, hasN pa x = true ∧ hasN pb x = true := by
  have h1 := of_decide_eq_true ha
  have h2 := of_decide_eq_true hb
  have h3 := two_count (hasN pa) (hasN pb) (each zs)
  have h4 : 0 < (each zs).countP (fun x => hasN pa x && hasN pb x) := by omega
  obtain ⟨x, hx, hp⟩ := List.countP_pos_iff.1 h4
  rw [Bool.and_eq_true] at hp
  exact ⟨x, (each_mem zs x).1 hx, hp.1, hp.2⟩

/-- a try in the blocks from lo to hi: who promised -/
def Tp (w : World) (lo hi t : Nat) (pr : List Bool) : Prop := ∃ mb mp qb qp cb cp bal frm nxt B O, Tr w t mb mp qb qp cb cp bal frm nxt pr B O ∧ qb < 1000 ∧ (lo ≤ t ∧ t < hi) ∧ (lo ≤ mb ∧ mb < hi) ∧ lo ≤ mp ∧ mp < hi
theorem Tp.keep {w w' : World} {lo hi t : Nat} {pr : List Bool} (h : Tp w lo hi t pr) (k : Kp (fun _ => False) w w') : Tp w' lo hi t pr := by
  obtain ⟨mb, mp, qb, qp, cb, cp, bal, frm, nxt, B, O, hT, r⟩ := h
  exact ⟨mb, mp, qb, qp, cb, cp, bal, frm, nxt, B, O, hT.keep k, r⟩
theorem Tr.apart {S : Nat → Prop} {w w' : World} {t mb mp qb qp cb cp : Nat} {bal frm nxt : Int} {pr : List Bool} {B : Int → Option (Vo × Value)} {O : Int → Option (Pq × Value)} {Z : Nat → Prop} (h : Tr w t mb mp qb qp cb cp bal frm nxt pr (fun _ => none) (fun _ => none)) (k : Kp S w w') (h1 : ¬ S t) (h2 : ¬ S mb) (h3 : ¬ S mp) : Tr w' t mb mp qb qp cb cp bal frm nxt pr (fun _ => none) (fun _ => none) :=
  ⟨h.lv.keep k h1, h.len, h.b.keep k h2, h.o.keep k h3, h.ne, fun _ _ e => (by cases e), fun _ _ e => (by cases e), h.pos⟩
/-- one without votes and proposals -/
def Te (w : World) (lo hi t : Nat) (pr : List Bool) : Prop := ∃ mb mp qb qp cb cp bal frm nxt, Tr w t mb mp qb qp cb cp bal frm nxt pr (fun _ => none) (fun _ => none) ∧ qb < 1000 ∧ (lo ≤ t ∧ t < hi) ∧ (lo ≤ mb ∧ mb < hi) ∧ lo ≤ mp ∧ mp < hi
theorem Te.keep {S : Nat → Prop} {w w' : World} {lo hi t : Nat} {pr : List Bool} (h : Te w lo hi t pr) (k : Kp S w w') (hS : ∀ b, lo ≤ b → b < hi → ¬ S b) : Te w' lo hi t pr := by
  obtain ⟨mb, mp, qb, qp, cb, cp, bal, frm, nxt, hT, hq, ht, hb, hp⟩ := h
  exact ⟨mb, mp, qb, qp, cb, cp, bal, frm, nxt, ⟨hT.lv.keep k (hS t ht.1 ht.2), hT.len, hT.b.keep k (hS mb hb.1 hb.2), hT.o.keep k (hS mp hp.1 hp.2), hT.ne, fun _ _ e => (by cases e), fun _ _ e => (by cases e), hT.pos⟩, hq, ht, hb, hp⟩
theorem plain_none {B : Int → Option (Vo × Value)} (h : plainB B = fun _ => none) : B = fun _ => none := by
  funext z
  have := congrFun h z
  unfold plainB at this
  exact Option.map_eq_none_iff.1 this
theorem te_new (bal : Int) (hb : 1 ≤ bal ∧ bal ≤ 100) (w : World) : Calls Try.prog 9 #[.int .i64 bal, .int .i64 1] w fun e w' => ∃ t, e = .returned (.tuple #[.pointer (some ⟨t, 0, none⟩), .int .i64 0]) ∧ Kp (fun _ => False) w w' ∧ Te w' w.heap.size w'.heap.size t (List.replicate 16 false) := by
  refine (tnew_ok bal 1 w (by omega) (by omega)).mono ?_
  rintro e w' ⟨t, mb, mp, rfl, k, h1, h2, h3, hT⟩
  have hl := hT.lt
  exact ⟨t, rfl, k, mb, mp, 0, 0, 0, 0, bal, 1, 1, hT, by omega, ⟨h1, hl.1⟩, ⟨h2, hl.2.1⟩, h3, hl.2.2⟩
theorem te_promise {w : World} {lo hi t : Nat} {pr : List Bool} (h : Te w lo hi t pr) (n : Nat) (hn : n < 16) (hh : hasN pr n = false) :
    Calls Try.prog 11 #[.pointer (some ⟨t, 0, none⟩), .int .i64 (n : Int), .slice none 0 0] w fun e w' => e = .returned (.int .i64 0) ∧ Kp (fun b => lo ≤ b ∧ b < hi) w w' ∧ Te w' lo hi t (pr.set n true) := by
  obtain ⟨mb, mp, qb, qp, cb, cp, bal, frm, nxt, hT, hq, ht, hb, hp⟩ := h
  refine (tpromise_new hT n hn hh none 0 [] (fun b => b ≠ t ∧ b ≠ mb) (fun b hb => hb) (fun j u hu => by simp [vflat] at hu) (fun x hx => by cases hx) (by simp) (fun x hx => by cases hx) (by simp; omega)).mono ?_
  rintro e w' ⟨rfl, k, nxt', B', qb', cb', hT', hq', hB'⟩
  refine ⟨rfl, k.mono (fun b _ e => by rcases e with rfl | rfl <;> assumption), mb, mp, qb', qp, cb', cp, bal, frm, nxt', ?_, by simp at hq'; omega, ht, hb, hp⟩
  have h1 : plainB B' = fun _ => none := by
    have := congrArg Prod.fst hB'
    exact this
  rw [plain_none h1] at hT'
  exact hT'
theorem te_leads {w : World} {lo hi t : Nat} {pr : List Bool} (h : Te w lo hi t pr) (p : Option Addr) (cap : Nat) (zs : List Int) (hI : Fl w (· < w.heap.size) p (zs.map encI)) (hreach : zs.length * 8 ≤ 140737488355328) :
    Calls Try.prog 22 #[.pointer (some ⟨t, 0, none⟩), .slice p zs.length cap] w fun e w' => e = .returned (.bool (maj pr zs)) ∧ Kp (fun _ => False) w w' := by
  obtain ⟨mb, mp, qb, qp, cb, cp, bal, frm, nxt, hT, _⟩ := h
  exact tleads_ok hT p cap zs hI hreach

/-- a bit of a number, as the law asks for it -/
def bt (mask : Int) (z : Int) : Bool := bits .and .u64 (mask / 2 ^ z.toNat) 1 == 1
/-- the first k bits -/
def bset (a : Int) (k : Nat) : List Bool := (List.range 16).map (fun i => decide (i < k) && bt a i)
theorem bset_len (a : Int) (k : Nat) : (bset a k).length = 16 := by simp [bset]
theorem bset_has (a : Int) (k : Nat) (n : Nat) (hn : n < 16) : hasN (bset a k) n = (decide (n < k) && bt a n) := by
  unfold hasN bset
  rw [decide_eq_true (by omega), Int.toNat_natCast, List.getD_eq_getElem?_getD, List.getElem?_map, List.getElem?_range hn]
  rfl
theorem bset_zero (a : Int) : bset a 0 = List.replicate 16 false := by
  unfold bset
  rw [List.eq_replicate_iff]
  exact ⟨by simp, fun b hb => by obtain ⟨i, _, rfl⟩ := List.mem_map.1 hb; simp⟩
theorem bset_set (a : Int) (k : Nat) (hk : k < 16) (hb : bt a k = true) : (bset a k).set k true = bset a (k + 1) := by
  apply List.ext_getElem?
  intro i
  unfold bset
  rw [List.getElem?_set]
  by_cases e : k = i
  · subst e
    rw [if_pos rfl, if_pos (by simp; omega), List.getElem?_map, List.getElem?_range (by omega)]
    simp [hb]
  · rw [if_neg e, List.getElem?_map, List.getElem?_map]
    by_cases hi : i < 16
    · rw [List.getElem?_range hi]
      have : decide (i < k) = decide (i < k + 1) := by
        by_cases h : i < k
        · rw [decide_eq_true h, decide_eq_true (by omega)]
        · rw [decide_eq_false h, decide_eq_false (by omega)]
      simp only [Option.map_some, this]
    · rw [List.getElem?_eq_none (by simp; omega)]; rfl
theorem bset_skip (a : Int) (k : Nat) (hb : bt a k = false) : bset a k = bset a (k + 1) := by
  unfold bset
  apply List.map_congr_left
  intro i _
  by_cases e : i = k
  · subst e; rw [hb]; simp
  · have : decide (i < k) = decide (i < k + 1) := by
      by_cases h : i < k
      · rw [decide_eq_true h, decide_eq_true (by omega)]
      · rw [decide_eq_false h, decide_eq_false (by omega)]
    rw [this]

theorem one_fl (w : World) (n : Int) : Fl (w.alloc (.cells #[.int .i64 n] 3)) (· < (w.alloc (.cells #[.int .i64 n] 3)).heap.size) (some ⟨w.heap.size, 0, none⟩) ([n].map encI) := fun j u hu => by
  have hj : j = 0 := by have := (List.getElem?_eq_some_iff.1 hu).1; simpa using this
  subst hj
  have hc := (Lv.new w #[.int .i64 n] 3).cell (j := 0) rfl
  simp at hu
  subst hu
  exact ⟨_, _, rfl, World.block_lt_of_cell? _ _ hc, hc⟩
theorem two_fl (w : World) (n m : Int) : Fl (w.alloc (.cells #[.int .i64 n, .int .i64 m] 3)) (· < (w.alloc (.cells #[.int .i64 n, .int .i64 m] 3)).heap.size) (some ⟨w.heap.size, 0, none⟩) ([n, m].map encI) := fun j u hu => by
  have hL := Lv.new w #[.int .i64 n, .int .i64 m] 3
  have hc : (w.alloc (.cells #[.int .i64 n, .int .i64 m] 3)).cell? ⟨w.heap.size, j, none⟩ = some u := hL.cell hu
  exact ⟨_, _, rfl, World.block_lt_of_cell? _ _ hc, by rw [Nat.zero_add]; exact hc⟩
end Go.Proofs.Ytjpdbhkggcojaaa
