/- Texts of this proof, joined: Fy, Az. -/
import Derived.Test.YtfmndffgmemgpaaDoorMgAS
import Derived.Deep.Slices
/- Texts, as lists of lists of bytes: how they lie; how they come in. -/
namespace Go.Proofs.YtfmndffgmemgpaaDoor
open Go.ChangeShapes Go.WideShapes Go.ChangeAt Go.RowKit Go.Deep

/-- The value v reads as the texts ls. -/
structure Tb (w : World) (v : Value) (ls : List (List Nat)) : Prop where
  form : ∃ (g : Option Addr) (gb go cap : Nat) (A : Nat → Option Addr) (C : Nat → Nat), v = .slice g ls.length cap ∧ ls.length ≤ cap ∧ (0 < ls.length → g = some ⟨gb, go, none⟩) ∧
    ∀ r, r < ls.length → w.cell? ⟨gb, go + r, none⟩ = some (.slice (A r) (ls.getD r []).length (C r)) ∧ Rb w (A r) (ls.getD r []).length (ls.getD r []) ∧ (ls.getD r []).length ≤ C r ∧ (ls.getD r []).length ≤ 140737488355328
  many : ls.length * 24 ≤ 140737488355328

theorem weights_in {H : Type} {P : Program} {e : TypeId} {d : DataW H} : ∀ {l : List (DataW H)}, d ∈ l → ∀ n, n ∈ d.weights P e → n ∈ DataW.weightsAll P e l
  | [], h, _, _ => by cases h
  | x :: r, h, n, hn => by
    simp only [DataW.weightsAll, List.mem_append]
    rcases List.mem_cons.1 h with e | h
    · rw [← e]; exact Or.inl hn
    · exact Or.inr (weights_in h n hn)
/-- what the rows' sizes say of a parameter that is texts -/
theorem sized_texts {H : Type} {ts : List TypeId} {ds : List (DataW H)} {j : Nat} {elems spare : List (DataW H)} (h : (DataW.weightsEach Tryd.prog ts ds).all (· ≤ reachBytes) = true) (ht : ts[j]? = some 27) (hd : ds[j]? = some (.slice elems spare)) :
    (elems.length + spare.length) * 24 ≤ 140737488355328 ∧ ∀ e' s', DataW.slice e' s' ∈ elems → e'.length + s'.length ≤ 140737488355328 := by
  have hr : reachBytes ≤ 140737488355328 := by have := reachBytes_lt; omega
  have b1 : Tryd.prog.bytesOf 28 = 24 := by kernel_rfl
  have b2 : Tryd.prog.bytesOf 5 = 1 := by kernel_rfl
  refine ⟨?_, fun e' s' hx => ?_⟩
  · have := sized_slice h ht hd Tryd.underlying27
    rw [b1] at this; omega
  · have h2 := List.all_eq_true.1 h _ (DataW.weights_mem_each ht hd ((e'.length + s'.length) * Tryd.prog.bytesOf 5) (by
      simp only [DataW.weights, Tryd.underlying27, List.mem_cons, List.mem_append]
      exact Or.inr (Or.inl (weights_in hx _ (by simp [DataW.weights, Tryd.underlying28])))))
    have h3 := of_decide_eq_true h2
    rw [b2] at h3; omega

theorem texts_of_trod {H : Type} {enc : TypeId × Value → H} {W : World} {a : Option Addr} {len cap : Nat} {d : DataW H} {p : List MemPlace}
    (h : DataW.Trod enc Tryd.prog W 0 (fun _ => true) true 27 (.slice a len cap) d p)
    (hw : ∀ elems spare, d = .slice elems spare → (elems.length + spare.length) * 24 ≤ 140737488355328 ∧ ∀ e' s', DataW.slice e' s' ∈ elems → e'.length + s'.length ≤ 140737488355328) : ∃ ls, Tb W (.slice a len cap) ls := by
  obtain ⟨fuel, hf⟩ := h
  rcases open_slice1 Tryd.underlying27 (by kernel_rfl) hf with ⟨hcs, _⟩ | ⟨x, l, c, m, n, V, D, Pl, hcs, _, hl, hm, hmm, hx, hel⟩
  · simp [Value.cells] at hcs
    obtain ⟨rfl, rfl, rfl⟩ := hcs
    exact ⟨[], ⟨none, 0, 0, 0, fun _ => none, fun _ => 0, rfl, Nat.le_refl _, fun h => absurd h (Nat.lt_irrefl _), fun r h => absurd h (Nat.not_lt_zero _)⟩, by simp⟩
  · simp [Value.cells] at hcs
    obtain ⟨rfl, rfl, rfl⟩ := hcs
    have hmc : m = cap := by simpa using hmm
    obtain ⟨hd, _⟩ := Prod.mk.inj hx
    obtain ⟨w1, w2⟩ := hw _ _ hd
    simp only [List.length_map, List.length_range] at w1
    obtain ⟨F, hF⟩ := choose_lt (α := Option Addr × Nat × List Nat) (n := len) (p := fun i t => V i = .slice t.1 t.2.2.length t.2.1 ∧ Rb W t.1 t.2.2.length t.2.2 ∧ t.2.2.length ≤ t.2.1 ∧ t.2.2.length ≤ 140737488355328) (fun i hi => by
      obtain ⟨_, ht⟩ := hel i (by omega)
      rcases open_ints Tryd.underlying28 Tryd.underlying5 (by kernel_rfl) ht with ⟨hv, _⟩ | ⟨y, l', c', zs, hv, hxx, hl', _, hz, hDx, hcell, hwz⟩
      · have hv' : V i = .slice none 0 0 := by simpa using hv
        exact ⟨(none, 0, []), hv', Rb.nil _ _, Nat.le_refl _, by simp⟩
      · have hv' : V i = .slice (some y) l' c' := by simpa using hv
        have htr : DataW.Trod enc Tryd.prog W 0 (fun _ => true) true 28 (.slice (some y) l' c') (D i) (Pl i) := ⟨n, by rw [hv] at ht; simpa [Value.cells] using ht⟩
        obtain ⟨xs, hr, hlc, hsz⟩ := rb_of_trod htr (fun elems spare hd' => w2 elems spare (by
          refine List.mem_map.2 ⟨i, List.mem_range.2 hi, ?_⟩
          exact hd'))
        have hlen := hr.len
        subst hlen
        exact ⟨(some y, c', xs), hv', hr, hlc, hsz.out⟩)
    obtain ⟨b, off, spot⟩ := x
    have hget : ∀ r, r < len → ((List.range len).map fun i => (F i).2.2).getD r [] = (F r).2.2 := fun r hr => by
      rw [List.getD_eq_getElem?_getD, List.getElem?_map, List.getElem?_range hr]; rfl
    by_cases h0 : len = 0
    · subst h0
      exact ⟨[], ⟨some ⟨b, off, spot⟩, 0, 0, cap, fun _ => none, fun _ => 0, rfl, Nat.zero_le _, fun h => absurd h (Nat.lt_irrefl _), fun r h => absurd h (Nat.not_lt_zero _)⟩, by simp⟩
    · have hc0 := (hel 0 (by omega)).1
      have hspot : spot = none := by simpa [Addr.add] using World.cell?_spot hc0
      subst hspot
      refine ⟨(List.range len).map fun i => (F i).2.2, ⟨some ⟨b, off, none⟩, b, off, cap, fun i => (F i).1, fun i => (F i).2.1, by simp, by simpa using hl, fun _ => rfl, fun r hr => ?_⟩, by rw [List.length_map, List.length_range]; omega⟩
      rw [List.length_map, List.length_range] at hr
      rw [hget r hr]
      obtain ⟨e1, e2, e3, e4⟩ := hF r hr
      refine ⟨?_, e2, e3, e4⟩
      have := (hel r (by omega)).1
      rw [show (⟨b, off, none⟩ : Addr).add r = ⟨b, off + r, none⟩ from by by_cases e : r = 0 <;> simp [Addr.add, e]] at this
      rw [this, e1]
end Go.Proofs.YtfmndffgmemgpaaDoor

/- WalRoom. -/
namespace Go.Proofs.YtfmndffgmemgpaaDoor
set_option linter.unusedVariables false
set_option linter.unusedSimpArgs false
open Go.RowKit Go.Deep

theorem need_40 {n K M : Nat} (hM : M = n + 39) (hK : K = M / 40) (hn : n ≤ 140737488355328) : ((n : Int) + 39) / 40 = (K : Int) ∧ wrap64 (K : Int) = (K : Int) := by
  refine ⟨by omega, by unfold wrap64; omega⟩
theorem wrapS {k K : Nat} (h : K ≤ k) (hk : k ≤ 8192) : wrap64 ((k : Int) - (K : Int)) = ((k - K : Nat) : Int) := by unfold wrap64; omega
theorem wrapP {k : Nat} (hk : k ≤ 140737488355328) : wrap64 ((k : Int) + 1) = ((k + 1 : Nat) : Int) := by unfold wrap64; omega

set_option maxRecDepth 100000 in
set_option maxHeartbeats 3200000 in
theorem walRoom_walk (z : Int) (v : Value) (ls : List (List Nat)) (w : World) (hz : (Lit.int .i64 z).wf = true) (h : Tb w v ls) (ht : Turns w) :
    Calls Tryd.prog 4 #[.int .i64 z, v] w fun e w' => e = .returned (.bool true) ∧ Kp (fun _ => False) w w' := by
  obtain ⟨gt, gb, go, cap, Ar, Cr, rfl, hcap, hgt, hcell⟩ := h.form
  have hmany := h.many
  have HFr : Hid (Calls _ _ _ w _) := fresh_ok z w ht
  have HT : Hid (Turns w) := ht
  have HTn : Hid ((0 : Nat) < w.heap.size) := World.block_lt_of_cell? _ _ (ht 0 (by decide))
  obtain ⟨c, hc⟩ : ∃ c, c = m40 z := ⟨_, rfl⟩
  have HC : Hid (c < 40) := by show _ < _; rw [hc]; exact m40_lt z
  rw [← hc] at HFr
  obtain ⟨n, hn⟩ : ∃ n, n = 8 + c := ⟨_, rfl⟩
  obtain ⟨s, hs⟩ : ∃ s, s = 6 + c := ⟨_, rfl⟩
  rw [← hn, ← hs] at HFr
  have HN : Hid (n = 2 + s ∧ 1 ≤ s ∧ s ≤ 50) := ⟨by omega, by omega, by have := HC.out; omega⟩
  have hwn : wrap64 ((n : Int) - 2) = (s : Int) := by have := HN.out; unfold wrap64; omega
  obtain ⟨L, hL⟩ : ∃ L, L = ls.length := ⟨_, rfl⟩
  have HTx : Hid (∀ r, r < L → w.cell? ⟨gb, go + r, none⟩ = some (.slice (Ar r) (ls.getD r []).length (Cr r)) ∧ Rb w (Ar r) (ls.getD r []).length (ls.getD r []) ∧ (ls.getD r []).length ≤ Cr r ∧ (ls.getD r []).length ≤ 140737488355328) := fun r hr => hcell r (by omega)
  have HL9 : Hid (L * 24 ≤ 140737488355328 ∧ (0 < L → gt = some ⟨gb, go, none⟩)) := ⟨by omega, fun h0 => hgt (by omega)⟩
  rw [← hL]
  clear h hmany hcell hgt hcap ht hc hn hs hL
  go_enter Tryd.func4, Tryd.ntmps4
  go_wp2_with fail
  refine HFr.out.mono ?_
  rintro e9 w1 ⟨g, gf, bp, d, m, dur, rfl, k1, hb1, hb2, p1, l1⟩
  have HSe : Hid (Calls _ _ _ w1 _) := sectors_ok p1
  have HK1 : Hid (Kp (fun _ => False) w w1) := k1
  have HG : Hid (w.heap.size ≤ g ∧ w.heap.size ≤ gf ∧ w.heap.size ≤ bp ∧ w.heap.size ≤ d ∧ w.heap.size ≤ m) := hb1
  have HG2 : Hid (g ≠ d ∧ g ≠ m ∧ bp ≠ g ∧ gf ≠ d ∧ gf ≠ m ∧ bp ≠ gf) := hb2
  have HP1 : Hid (Pt w1 bp d m n 0 dur (fun _ => none)) := p1
  have HW1 : Hid (Wl w1 g bp s gf ⟨1, 1, 0, 1⟩ ((0 : Nat) : Int) 0 s) := l1
  clear k1 hb1 hb2 p1 l1 HFr
  go_wp2_with fail
  refine HSe.out.mono ?_
  rintro e9 w9 ⟨rfl, hw9⟩
  have hw8 := hw9.symm
  subst hw8
  clear hw9 HSe
  go_wp2_with fail
  simp only [hwn]
  go_loopg [7, 8, 26] L (fun gk rv nv iv wr => ∃ (i e k lt : Nat) (T : Nat → Option (List Nat)), i ≤ L ∧ gk = L - i ∧ rv = .int .i64 k ∧ nv = .int .i64 lt ∧ iv = .int .i64 i ∧ Hid (e + k = s ∧ lt ≤ e) ∧ Hid (Kp (fun _ => False) w wr) ∧ Hid (Pt wr bp d m n e dur T) ∧ Hid (Wl wr g bp s gf ⟨1, 1, 0, 1⟩ lt e k))
  case atStart => exact ⟨0, 0, s, 0, fun _ => none, Nat.zero_le _, rfl, rfl, rfl, rfl, ⟨by omega, Nat.le_refl _⟩, HK1, HP1, HW1⟩
  case round =>
    obtain ⟨i, e, k, lt, T, hi, rfl, rfl, rfl, rfl, HE, HK, HP, HW⟩ := hrel
    by_cases hlt : i < L
    · have hlt2 : (i : Int) < (L : Int) := by omega
      obtain ⟨tc, trb, tlc, tl9⟩ := HTx.out i hlt
      obtain ⟨len, hlen⟩ : ∃ len, len = (ls.getD i []).length := ⟨_, rfl⟩
      rw [← hlen] at tc trb tlc tl9
      obtain ⟨ys, hys⟩ : ∃ ys, ys = ls.getD i [] := ⟨_, rfl⟩
      rw [← hys] at trb
      obtain ⟨ar, har⟩ : ∃ a, a = Ar i := ⟨_, rfl⟩
      obtain ⟨cr, hcr⟩ : ∃ a, a = Cr i := ⟨_, rfl⟩
      rw [← har, ← hcr] at tc
      rw [← har] at trb
      rw [← hcr] at tlc
      have hgt := HL9.out.2 (by omega)
      subst hgt
      have tc2 := HK.out.cellv tc id
      have HTr : Hid (Rb wr ar len ys ∧ len ≤ cr ∧ len ≤ 140737488355328) := ⟨trb.keep0 HK.out, tlc, tl9⟩
      have HTb : Hid (∀ a, ar = some a → 1 ≤ len → a.block < w.heap.size) := fun a ha h1 => by
        obtain ⟨b, o, e1, hcl⟩ := trb.pt (by omega)
        rw [ha] at e1
        cases e1
        exact World.block_lt_of_cell? _ _ (hcl 0 (by omega))
      obtain ⟨M, hM⟩ : ∃ M, M = len + 39 := ⟨_, rfl⟩
      obtain ⟨K, hK⟩ : ∃ K, K = M / 40 := ⟨_, rfl⟩
      obtain ⟨n1, n3⟩ := need_40 hM hK tl9
      have HKK : Hid (K = (len + 39) / 40) := by show _ = _; rw [hK, hM]
      have hwi := wrapP (k := i) (by have := HL9.out.1; omega)
      clear tc trb tlc tl9 hys hlen har hcr hM hK
      by_cases ha : 1 ≤ len ∧ len ≤ 2000
      · have ha0 : ((len : Int) == 0) = false := by rw [beq_eq_false_iff_ne]; omega
        have ha1 : ¬ ((len : Int) > 2000) := by omega
        by_cases hf : k < K
        · have hgk : (K : Int) > (k : Int) := by omega
          have HA : Hid (Calls _ _ _ wr _) := append_full HW.out ar len cr K ha HKK.out hf
          clear ha hf
          go_wp2_with fail
          refine HA.out.mono ?_
          rintro e9 w9 ⟨rfl, hw9⟩
          have hw8 := hw9.symm
          subst hw8
          clear hw9 HA
          have HR : Hid (Calls _ _ _ wr _) := room_ok HW.out
          have HL : Hid (Calls _ _ _ wr _) := last_ok HW.out
          go_wp2_with fail
          refine HR.out.mono ?_
          rintro e9 w9 ⟨rfl, hw9⟩
          have hw8 := hw9.symm
          subst hw8
          clear hw9 HR
          go_wp2_with fail
          refine HL.out.mono ?_
          rintro e9 w9 ⟨rfl, hw9⟩
          have hw8 := hw9.symm
          subst hw8
          clear hw9 HL
          go_wp2
          go_roundg (L - (i + 1))
          case rel => exact ⟨i + 1, e, k, lt, T, by omega, rfl, rfl, rfl, by first | rw [hwi] | simp, HE.out, HK, HP, HW⟩
          case measure => omega
        · have hgk : ¬ ((K : Int) > (k : Int)) := by omega
          obtain ⟨b, o, har, _⟩ := HTr.out.1.pt (by omega)
          subst har
          have hbl := HTb.out _ rfl ha.1
          have hbl2 : b < w.heap.size := hbl
          have HA : Hid (Calls _ _ _ wr _) := append_put (K := K) HP.out (by have := HE.out; have := HN.out; omega) ⟨HN.out.1, HN.out.2.1⟩ HW.out (by omega) ⟨HKK.out, ha.2, HTr.out.2.1⟩ ha.1 HTr.out.1 (by have := HE.out; have := HN.out; omega) (by have := HE.out; have := HN.out; omega) (by have := HE.out; have := HN.out; omega) ⟨HG2.out.1, HG2.out.2.1, HG2.out.2.2.1, HG2.out.2.2.2.1, HG2.out.2.2.2.2.1, HG2.out.2.2.2.2.2, by have := HG.out; omega, by have := HG.out; omega, by have := HG.out; omega, by have := HG.out; have := HTn.out; omega, by have := HG.out; have := HTn.out; omega, by have := HG.out; have := HTn.out; omega⟩ (fun j hj => HK.out.cellv (HT.out j hj) id)
          have HKp : Hid (1 ≤ K ∧ K ≤ k) := ⟨by have := HKK.out; omega, by omega⟩
          have hwk := wrapS (K := K) (k := k) (by omega) (by have := HE.out; have := HN.out; omega)
          have hwl := wrapP (k := lt) (by have := HE.out; have := HN.out; omega)
          obtain ⟨kk, hkk⟩ : ∃ kk, kk = k - K := ⟨_, rfl⟩
          obtain ⟨l2, hl2⟩ : ∃ l2, l2 = lt + 1 := ⟨_, rfl⟩
          rw [← hkk] at hwk HA
          rw [← hl2] at hwl HA
          have HEq : Hid (kk = k - K ∧ l2 = lt + 1) := ⟨hkk, hl2⟩
          clear ha hf hbl hbl2 hkk hl2
          go_wp2_with fail
          refine HA.out.mono ?_
          rintro e9 w2 ⟨rfl, k2, p2, lw2⟩
          have HK2 : Hid (Kp (fun _ => False) w w2) := HK.out.trans k2 (fun b9 hb9 e9 => by have := HG.out; omega)
          have HR : Hid (Calls _ _ _ w2 _) := room_ok lw2
          have HL : Hid (Calls _ _ _ w2 _) := last_ok lw2
          have HP2 : Hid (Pt w2 bp d m n (e + K) dur (wrT T s e l2 ys K K)) := p2
          have HW2 : Hid (Wl w2 g bp s gf ⟨1, 1, 0, 1⟩ l2 (e + K) kk) := lw2
          clear k2 p2 lw2 HA
          go_wp2_with fail
          refine HR.out.mono ?_
          rintro e9 w9 ⟨rfl, hw9⟩
          have hw8 := hw9.symm
          subst hw8
          clear hw9 HR
          go_wp2_with fail
          refine HL.out.mono ?_
          rintro e9 w9 ⟨rfl, hw9⟩
          have hw8 := hw9.symm
          subst hw8
          clear hw9 HL
          go_wp2
          go_roundg (L - (i + 1))
          case rel => exact ⟨i + 1, e + K, kk, l2, (wrT T s e l2 ys K K), by omega, rfl, rfl, rfl, by first | rw [hwi] | simp, ⟨by have := HE.out; have := HEq.out; have := HKp.out; omega, by have := HE.out; have := HEq.out; have := HKp.out; omega⟩, HK2, HP2, HW2⟩
          case measure => omega
      · have HA : Hid (Calls _ _ _ wr _) := append_arg HW.out ar len cr ha
        by_cases ha2 : len = 0
        · have ha0 : ((len : Int) == 0) = true := by rw [beq_iff_eq]; omega
          clear ha ha2
          go_wp2_with fail
          refine HA.out.mono ?_
          rintro e9 w9 ⟨rfl, hw9⟩
          have hw8 := hw9.symm
          subst hw8
          clear hw9 HA
          have HR : Hid (Calls _ _ _ wr _) := room_ok HW.out
          have HL : Hid (Calls _ _ _ wr _) := last_ok HW.out
          go_wp2_with fail
          refine HR.out.mono ?_
          rintro e9 w9 ⟨rfl, hw9⟩
          have hw8 := hw9.symm
          subst hw8
          clear hw9 HR
          go_wp2_with fail
          refine HL.out.mono ?_
          rintro e9 w9 ⟨rfl, hw9⟩
          have hw8 := hw9.symm
          subst hw8
          clear hw9 HL
          go_wp2
          go_roundg (L - (i + 1))
          case rel => exact ⟨i + 1, e, k, lt, T, by omega, rfl, rfl, rfl, by first | rw [hwi] | simp, HE.out, HK, HP, HW⟩
          case measure => omega
        · have ha0 : ((len : Int) == 0) = false := by rw [beq_eq_false_iff_ne]; omega
          have ha1 : (len : Int) > 2000 := by omega
          clear ha ha2
          go_wp2_with fail
          refine HA.out.mono ?_
          rintro e9 w9 ⟨rfl, hw9⟩
          have hw8 := hw9.symm
          subst hw8
          clear hw9 HA
          have HR : Hid (Calls _ _ _ wr _) := room_ok HW.out
          have HL : Hid (Calls _ _ _ wr _) := last_ok HW.out
          go_wp2_with fail
          refine HR.out.mono ?_
          rintro e9 w9 ⟨rfl, hw9⟩
          have hw8 := hw9.symm
          subst hw8
          clear hw9 HR
          go_wp2_with fail
          refine HL.out.mono ?_
          rintro e9 w9 ⟨rfl, hw9⟩
          have hw8 := hw9.symm
          subst hw8
          clear hw9 HL
          go_wp2
          go_roundg (L - (i + 1))
          case rel => exact ⟨i + 1, e, k, lt, T, by omega, rfl, rfl, rfl, by first | rw [hwi] | simp, HE.out, HK, HP, HW⟩
          case measure => omega
    · have hiL : i = L := by omega
      subst hiL
      have hlt2 : ¬ ((i : Int) < (i : Int)) := by omega
      have HR : Hid (Calls _ _ _ wr _) := room_ok HW.out
      go_wp2_with fail
      refine HR.out.mono ?_
      rintro e9 w9 ⟨rfl, hw9⟩
      have hw8 := hw9.symm
      subst hw8
      clear hw9 HR
      go_wp2
      go_ret
      exact ⟨rfl, HK.out⟩
end Go.Proofs.YtfmndffgmemgpaaDoor
