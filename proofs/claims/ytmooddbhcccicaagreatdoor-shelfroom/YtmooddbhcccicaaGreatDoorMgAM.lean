/- Texts of this proof, joined: Aw, Ax, Ba. -/
import Derived.Test.YtmooddbhcccicaaGreatDoorMgAL
import Derived.Deep.RegionHeld3
/- A record is written: put. -/
namespace Go.Proofs.YtmooddbhcccicaaGreatDoor
set_option linter.unusedVariables false
set_option linter.unusedSimpArgs false
open Go.RowKit Go.Deep

theorem pcs_get {z : Int} {b o len K j : Nat} (hj : j < K) : (pcsC z b o len K)[j * 4 + 0]? = some (.int .i64 z) ∧ (pcsC z b o len K)[j * 4 + 1]? = some (chV b o len j) ∧ (pcsC z b o len K)[j * 4 + 2]? = some (.bool (decide (j = 0))) ∧ (pcsC z b o len K)[j * 4 + 3]? = some (.bool (decide (j = K - 1))) := by
  have hraw : ∀ j, (rawC z b o len j).length = 4 := fun j => rfl
  have hl : ((List.range K).flatMap (rawC z b o len)).length = K * 4 := by rw [fm_len _ hraw, List.length_range]
  have hg : ∀ r, r < 4 → ((List.range K).flatMap (rawC z b o len))[j * 4 + r]? = (rawC z b o len j)[r]? := fun r hr => by
    have := fm_get (rawC z b o len) hraw (List.range K) j r (by rw [List.length_range]; exact hj) hr
    rwa [List.getElem_range] at this
  unfold pcsC
  refine ⟨?_, ?_, ?_, ?_⟩
  · rw [List.getElem?_set_ne (by omega), List.getElem?_set_ne (by omega), hg 0 (by omega)]; rfl
  · rw [List.getElem?_set_ne (by omega), List.getElem?_set_ne (by omega), hg 1 (by omega)]; rfl
  · rw [List.getElem?_set_ne (by omega)]
    by_cases h0 : j = 0
    · subst h0
      rw [show 0 * 4 + 2 = 2 from rfl, List.getElem?_set_self (by omega)]; rfl
    · rw [List.getElem?_set_ne (by omega), hg 2 (by omega), decide_eq_false h0]; rfl
  · by_cases h0 : j = K - 1
    · subst h0
      rw [List.getElem?_set_self (by rw [List.length_set]; omega), decide_eq_true rfl]
    · rw [List.getElem?_set_ne (by omega), List.getElem?_set_ne (by omega), hg 3 (by omega), decide_eq_false h0]; rfl
/-- a record's j-th sector of K -/
def secJ (u : Nat) (ys : List Nat) (K j : Nat) : List Nat := pcB u ((ys.drop (40 * j)).take 40) (decide (j = 0)) (decide (j = K - 1))
/-- what is dirty behind so many sectors of a record, from place e on -/
def wrT (T : Nat → Option (List Nat)) (s e u : Nat) (ys : List Nat) (K : Nat) : Nat → Nat → Option (List Nat)
  | 0 => T
  | j + 1 => fun i => if i = 2 + (e + j) % s then some (secJ u ys K j) else wrT T s e u ys K j i
theorem chunk_rb {w : World} {b o len : Nat} {ys : List Nat} (h : Rb w (some ⟨b, o, none⟩) len ys) {j : Nat} (hj : 40 * j < len) : Rb w (some ⟨b, o + 40 * j, none⟩) (chL len j) ((ys.drop (40 * j)).take 40) ∧ 0 < chL len j ∧ chL len j ≤ 40 := by
  have h1 := h.mid (l := 40 * j) (m := chL len j) (by unfold chL; omega)
  refine ⟨?_, by unfold chL; omega, by unfold chL; omega⟩
  have e : (ys.drop (40 * j)).take (chL len j) = (ys.drop (40 * j)).take 40 := by
    have hl := h.len
    unfold chL
    by_cases h2 : 40 ≤ len - 40 * j
    · rw [Nat.min_eq_left h2]
    · rw [Nat.min_eq_right (by omega), List.take_of_length_le (by rw [List.length_drop]; omega), List.take_of_length_le (by rw [List.length_drop]; omega)]
  rw [e] at h1
  exact h1
/-- a log's free places as a heap -/
theorem Wl.ip {w : World} {g bp s gf : Nat} {A : H4} {last : Int} {e k : Nat} (h : Wl w g bp s gf A last e k) : ∃ cap l, Ip w g 6 gf cap [.pointer (some ⟨bp, 0, none⟩), .int .i64 s, .int .i64 A.a, .int .i64 A.b, .int .i64 A.c, .int .i64 A.d] [.int .i64 last] l ∧ Free l e k := by
  obtain ⟨cap, l, h1, h2, h3⟩ := h.hp
  have hl := h3.len
  exact ⟨cap, l, ⟨by rw [hl]; exact h1, rfl, by rw [hl]; exact h2, h.ne⟩, h3⟩
theorem Wl.of_ip {w : World} {g bp s gf cap : Nat} {A : H4} {last : Int} {e k : Nat} {l : List Nat} (h : Ip w g 6 gf cap [.pointer (some ⟨bp, 0, none⟩), .int .i64 s, .int .i64 A.a, .int .i64 A.b, .int .i64 A.c, .int .i64 A.d] [.int .i64 last] l) (hf : Free l e k) : Wl w g bp s gf A last e k := by
  have hl := hf.len
  refine ⟨⟨cap, l, ?_, ?_, hf⟩, h.ne⟩
  · have := h.lv; rw [hl] at this; exact this
  · have := h.ow; rw [hl] at this; exact this

set_option maxRecDepth 100000 in
set_option maxHeartbeats 3200000 in
theorem put_ok {w : World} {g bp d m n q s gf b o len cap K e k lt : Nat} {dur : List Nat} {T : Nat → Option (List Nat)} {A : H4} {ys : List Nat} (hP : Pt w bp d m n q dur T) (hq : (q : Int) ≤ 9000000000000000000) (hs : n = 2 + s ∧ 1 ≤ s) (hW : Wl w g bp s gf A lt e k) (hKk : K ≤ k) (hK : Hid (K = (len + 39) / 40 ∧ len ≤ 2000 ∧ len ≤ cap)) (h1 : Hid (1 ≤ len)) (hr : Rb w (some ⟨b, o, none⟩) len ys) (hk9 : k ≤ 8192) (he9 : (e : Int) ≤ 900000000000000000) (hl9 : (lt : Int) < 1152921504606846976)
    (hne : g ≠ d ∧ g ≠ m ∧ bp ≠ g ∧ gf ≠ d ∧ gf ≠ m ∧ bp ≠ gf ∧ b ≠ m ∧ b ≠ g ∧ b ≠ gf ∧ g ≠ 0 ∧ gf ≠ 0 ∧ m ≠ 0) (ht : Turns w) :
    Calls Tryz.prog 128 #[.pointer (some ⟨g, 0, none⟩), .slice (some ⟨b, o, none⟩) len cap] w fun e9 w' => e9 = .returned .nilIface ∧ Kp (fun x => x = m ∨ x = g ∨ x = gf) w w' ∧ Pt w' bp d m n (q + K) dur (wrT T s e (lt + 1) ys K K) ∧ Wl w' g bp s gf A ((lt + 1 : Nat) : Int) (e + K) (k - K) := by
  obtain ⟨aa, ab, ac, ad⟩ := A
  obtain ⟨num, hnum⟩ : ∃ num : Int, num = ((lt + 1 : Nat) : Int) := ⟨_, rfl⟩
  have hwl : wrap64 ((lt : Int) + 1) = num := by rw [hnum]; unfold wrap64; omega
  have HPc : Hid (Calls _ _ _ w _) := pieces_ok num b o len cap K hK h1 w
  obtain ⟨cap0, l0, ip0, fr0⟩ := hW.ip
  have v7 : w.cell? ⟨g, 7, none⟩ = some (.int .i64 (lt : Int)) := ip0.lv.cell (j := 7) rfl
  have HP : Hid (Pt w bp d m n q dur T) := hP
  have HWl : Hid (Wl w g bp s gf ⟨aa, ab, ac, ad⟩ lt e k) := hW
  have HR : Hid (Rb w (some ⟨b, o, none⟩) len ys) := hr
  have HT : Hid (Turns w) := ht
  have HNe : Hid (g ≠ d ∧ g ≠ m ∧ bp ≠ g ∧ gf ≠ d ∧ gf ≠ m ∧ bp ≠ gf ∧ b ≠ m ∧ b ≠ g ∧ b ≠ gf ∧ g ≠ 0 ∧ gf ≠ 0 ∧ m ≠ 0) := hne
  have HB : Hid ((q : Int) ≤ 9000000000000000000 ∧ n = 2 + s ∧ 1 ≤ s ∧ K ≤ k ∧ k ≤ 8192 ∧ (e : Int) ≤ 900000000000000000 ∧ g < w.heap.size ∧ gf < w.heap.size ∧ m < w.heap.size ∧ n ≤ 8192) := ⟨hq, hs.1, hs.2, hKk, hk9, he9, hW.gl, hW.fl, hP.mp.lt, hP.n2⟩
  have HNm : Hid (num = ((lt + 1 : Nat) : Int) ∧ (lt : Int) < 1152921504606846976) := ⟨hnum, hl9⟩
  have HKK : Hid (1 ≤ K ∧ K ≤ 50) := ⟨by have := hK.out; have := h1.out; omega, by have := hK.out; omega⟩
  have hnn := nil_neq
  clear ip0 fr0 hW hP hr ht hne hq hs hKk hk9 he9 hl9 hnum
  go_enter Tryz.func128, Tryz.ntmps128
  go_wp2_with fail
  refine HPc.out.mono ?_
  rintro e9 w1 ⟨v, rfl, o1, b1⟩
  obtain ⟨gp, cp, rfl⟩ : ∃ gp cp, v = .slice (some ⟨gp, 0, none⟩) K cp := by
    rcases Joins.ownsRow_forms o1 with ⟨e1, e2⟩ | ⟨gp, cp, e⟩
    · have := HKK.out; omega
    · exact ⟨gp, cp, e⟩
  have HK1 : Hid (Kp (fun _ => False) w w1) := Kp.of_below b1
  have HO1 : Hid (w1.ownsRow w.heap.size 232 4 (.slice (some ⟨gp, 0, none⟩) K cp) K (pcsC num b o len K)) := o1
  clear o1 b1 HPc v7 hwl
  go_wp2_with fail
  go_loopg [16] K (fun gk iv wr => ∃ j : Nat, j ≤ K ∧ gk = K - j ∧ iv = .int .i64 j ∧ Hid (Kp (fun x => x = m ∨ x = g ∨ x = gf) w1 wr) ∧ Hid (Wl wr g bp s gf ⟨aa, ab, ac, ad⟩ lt (e + j) (k - j)) ∧ Hid (Pt wr bp d m n (q + j) dur (wrT T s e (lt + 1) ys K j)))
  case atStart => exact ⟨0, Nat.zero_le _, rfl, rfl, Kp.refl _ _, HWl.out.keep HK1.out id id, HP.out.keep0 HK1.out⟩
  case round =>
    obtain ⟨j, hj, rfl, rfl, HK, HW, HQ⟩ := hrel
    by_cases hlt : j < K
    · have hlt2 : (j : Int) < (K : Int) := by omega
      have hwj : wrap64 ((j : Int) + 1) = ((j + 1 : Nat) : Int) := by have := HKK.out; unfold wrap64; omega
      have hjlen : 40 * j < len := by have := hK.out; omega
      obtain ⟨rbC, cl0, cl40⟩ := chunk_rb HR.out hjlen
      obtain ⟨cl, hcl⟩ : ∃ c, c = chL len j := ⟨_, rfl⟩
      obtain ⟨ob, hob⟩ : ∃ y, y = o + 40 * j := ⟨_, rfl⟩
      obtain ⟨bf, hbf⟩ : ∃ y, y = decide (j = 0) := ⟨_, rfl⟩
      obtain ⟨bl, hbl⟩ : ∃ y, y = decide (j = K - 1) := ⟨_, rfl⟩
      have hch : chV b o len j = .slice (some ⟨b, ob, none⟩) cl cl := by unfold chV; rw [hcl, hob]
      rw [← hcl] at rbC cl0 cl40
      rw [← hob] at rbC
      have HOr : wr.ownsRow w.heap.size 232 4 (.slice (some ⟨gp, 0, none⟩) K cp) K (pcsC num b o len K) := ownsRow_keep HO1.out HK.out (fun g' e1 e2 => by
        have e' : some gp = some g' := e1
        injection e' with e'
        have h9 := (ownBlock_lt HO1.out (g := gp) rfl).1
        have := HB.out
        omega)
      obtain ⟨g0, g1, g2, g3⟩ := pcs_get (z := num) (b := b) (o := o) (len := len) hlt
      rw [hch] at g1
      rw [← hbf] at g2
      rw [← hbl] at g3
      have c0 := HOr.cells (g := gp) rfl _ _ g0
      have c1 := HOr.cells (g := gp) rfl _ _ g1
      have c2 := HOr.cells (g := gp) rfl _ _ g2
      have c3 := HOr.cells (g := gp) rfl _ _ g3
      rw [Addr.add_mid, Nat.zero_add] at c0 c1 c2 c3
      rw [Nat.add_zero] at c0
      obtain ⟨kk, hkk⟩ : ∃ kk, k - j = kk + 1 := ⟨k - j - 1, by have := HB.out; omega⟩
      obtain ⟨capz, lz, ipz, frz⟩ := HW.out.ip
      rw [hkk] at frz
      have hlz := frz.len
      obtain ⟨p1, p2, p3⟩ := frz.pop
      obtain ⟨E, hE⟩ : ∃ E, E = e + j := ⟨_, rfl⟩
      rw [← hE] at p1 p2 p3
      obtain ⟨t6, ht6⟩ : ∃ t, t = wr.heap.size := ⟨_, rfl⟩
      obtain ⟨w5, hw5⟩ : ∃ y, y = wr.alloc (.cells #[.int .i64 num, .slice (some ⟨b, ob, none⟩) cl cl, .bool bf, .bool bl] 232) := ⟨_, rfl⟩
      have k5 : Kp (fun _ => False) wr w5 := by rw [hw5]; exact (Kp.refl _ _).alloc _
      have l6 : Lv w5 t6 [.int .i64 num, .slice (some ⟨b, ob, none⟩) cl cl, .bool bf, .bool bl] := by rw [hw5, ht6]; exact Lv.new _ _ _
      have ip5 := ipz.keep0 k5
      have HIp5 : Hid (Ip w5 g 6 gf capz [.pointer (some ⟨bp, 0, none⟩), .int .i64 s, .int .i64 aa, .int .i64 ab, .int .i64 ac, .int .i64 ad] [.int .i64 lt] lz ∧ lz.length = kk + 1 ∧ Free (popIL lz) (E + 1) kk) := ⟨ip5, hlz, p3⟩
      have d0 : w5.cell? ⟨g, 0, none⟩ = some (.pointer (some ⟨bp, 0, none⟩)) := ip5.lv.cell (j := 0) rfl
      have d1 : w5.cell? ⟨g, 1, none⟩ = some (.int .i64 s) := ip5.lv.cell (j := 1) rfl
      have d6 : w5.cell? ⟨g, 6, none⟩ = some (.slice (some ⟨gf, 0, none⟩) (kk + 1) capz) := by have := ip5.c0; rw [hlz] at this; exact this
      have df : w5.cell? ⟨gf, 0, none⟩ = some (.int .i64 (E : Int)) := by have := ip5.cn (j := 0) (by omega); rw [p1] at this; exact this
      have hm6 : m ≠ t6 := by have h8 := HB.out; have h9 := HK1.out.size; have h10 := HK.out.size; omega
      have HSS : Hid (∀ z, Kp (fun x => x = m) w5 z → Kp (fun x => x = m) w5 z ∧ z.cell? ⟨g, 0, none⟩ = some (.pointer (some ⟨bp, 0, none⟩)) ∧ z.cell? ⟨g, 1, none⟩ = some (.int .i64 s) ∧ z.cell? ⟨g, 6, none⟩ = some (.slice (some ⟨gf, 0, none⟩) (kk + 1) capz) ∧ z.cell? ⟨gf, 0, none⟩ = some (.int .i64 (E : Int)) ∧ z.cell? ⟨t6, 0, none⟩ = some (.int .i64 num) ∧ z.cell? ⟨t6, 1, none⟩ = some (.slice (some ⟨b, ob, none⟩) cl cl) ∧ z.cell? ⟨t6, 2, none⟩ = some (.bool bf) ∧ z.cell? ⟨t6, 3, none⟩ = some (.bool bl)) := fun z kz =>
        ⟨kz, kz.cellv d0 HNe.out.2.1, kz.cellv d1 HNe.out.2.1, kz.cellv d6 HNe.out.2.1, kz.cellv df HNe.out.2.2.2.2.1, kz.cellv (l6.cell (j := 0) rfl) (Ne.symm hm6), kz.cellv (l6.cell (j := 1) rfl) (Ne.symm hm6), kz.cellv (l6.cell (j := 2) rfl) (Ne.symm hm6), kz.cellv (l6.cell (j := 3) rfl) (Ne.symm hm6)⟩
      obtain ⟨sc, hsc⟩ : ∃ sc, sc = 2 + E % s := ⟨_, rfl⟩
      have hscn : sc < n := by have := HB.out; have := Nat.mod_lt E (show 0 < s by omega); omega
      have H1 : Hid (∀ u, Calls Tryz.prog 167 #[ringV bp s, .int .i64 (E : Int)] u fun e9 w' => e9 = .returned (.int .i64 (sc : Int)) ∧ Kp (fun _ => False) u w') := fun u => by
        rw [hsc]
        exact rsector_ok bp s E u (by have := HB.out; omega) (by have := HB.out; omega) (by have := HB.out; have := HKK.out; omega)
      have HKw5 : Hid (Kp (fun x => x = m ∨ x = g ∨ x = gf) w w5) := ((HK1.out.mono (fun _ _ e => e.elim)).trans HK.out (fun _ _ e => e)).trans k5 (fun _ _ e => e.elim)
      obtain ⟨X, hX⟩ : ∃ X, X = secJ (lt + 1) ys K j := ⟨_, rfl⟩
      have hXe : pcB (u64Of num) ((ys.drop (40 * j)).take 40) bf bl = X := by
        rw [hX]
        unfold secJ
        have hu : u64Of num = lt + 1 := by
          rw [HNm.out.1]
          unfold u64Of
          have := HNm.out.2
          omega
        rw [hu, ← hbf, ← hbl]
      have H2 : Hid (∀ u, Kp (fun x => x = m) w5 u → Calls Tryz.prog 168 #[pcV num (.slice (some ⟨b, ob, none⟩) cl cl) bf bl] u fun e9 w' => ∃ g9, u.heap.size ≤ g9 ∧ e9 = .returned (.slice (some ⟨g9, 0, none⟩) 64 64) ∧ Kp (fun _ => False) u w' ∧ Rb w' (some ⟨g9, 0, none⟩) 64 X) := fun u ku => by
        have hku : Kp (fun x => x = m ∨ x = g ∨ x = gf) w u := HKw5.out.trans ku (fun _ _ e => Or.inl e)
        refine (psector_ok num (some ⟨b, ob, none⟩) cl cl _ bf bl u (rbC.keep hku (fun a ha _ => ?_)) cl0 (by omega) (fun i hi => hku.cellv (HT.out i hi) (fun e => ?_))).mono ?_
        · cases ha
          intro e
          have := HNe.out
          have e' : b = m ∨ b = g ∨ b = gf := e
          omega
        · have e' : (0 : Nat) = m ∨ (0 : Nat) = g ∨ (0 : Nat) = gf := e
          have := HNe.out
          omega
        · rintro e9 w' ⟨g9, hg9, he, hk, hb⟩
          rw [hXe] at hb
          exact ⟨g9, hg9, he, hk, hb.rb⟩
      have HPt5 : Hid (Pt w5 bp d m n (q + j) dur (wrT T s e (lt + 1) ys K j)) := HQ.out.keep0 k5
      have H3 : Hid (∀ u g9, Kp (fun _ => False) w5 u → Rb u (some ⟨g9, 0, none⟩) 64 X → Calls Tryz.prog 166 #[ringV bp s, .int .i64 (sc : Int), .slice (some ⟨g9, 0, none⟩) 64 64] u fun e9 w' => e9 = .returned .nilIface ∧ Kp (fun x => x = m) u w' ∧ Pt w' bp d m n (q + (j + 1)) dur (wrT T s e (lt + 1) ys K (j + 1))) := fun u g9 ku hb => by
        refine (rwrite_ok (HPt5.out.keep0 ku) (by have := HB.out; have := HKK.out; omega) s sc (by omega) g9 0 64 X hb).mono ?_
        rintro e9 w' ⟨he, hk, hp⟩
        refine ⟨he, hk, ?_⟩
        have e1 : (fun i => if i = sc then some X else wrT T s e (lt + 1) ys K j i) = wrT T s e (lt + 1) ys K (j + 1) := by
          funext i
          rw [hsc, hX, hE]
          rfl
        rw [e1, Nat.add_assoc] at hp
        exact hp
      have hn0 : (0 : Int) < ((kk + 1 : Nat) : Int) := by omega
      have HE : Hid (E = e + j ∧ k - j = kk + 1) := ⟨hE, hkk⟩
      clear hE hkk
      clear HOr g0 g1 g2 g3 hch hcl hob hbf hbl rbC cl0 cl40 ipz frz hlz p1 p2 p3 ip5 d0 d1 d6 df l6 hsc hX hXe hscn hjlen
      go_upto_region 4 with fail
      rw [← hw5, ← ht6]
      have HKr5 : Hid (Kp (fun _ => False) wr w5) := k5
      clear hw5 ht6 k5 c0 c1 c2 c3
      have kd : Kp (fun x => x = m) w5 w5.drew := (Kp.refl _ _).drew
      have kf : Kp (fun _ => False) w5 w5.drew := (Kp.refl _ _).drew
      have HTr : Hid (∀ u u' : World, Kp (fun _ => False) w5 u → Kp (fun _ => False) u u' → Kp (fun _ => False) w5 u') := fun u u' h1 h2 => h1.trans h2 (fun _ _ e => e)
      have HTm : Hid (∀ u, Kp (fun _ => False) w5 u → Kp (fun x => x = m) w5 u) := fun u h => h.mono (fun _ _ e => e.elim)
      have HTw : Hid (∀ u u' : World, Kp (fun _ => False) w5 u → Kp (fun x => x = m) u u' → Kp (fun x => x = m) w5 u') := fun u u' h1 h2 => (h1.mono (fun _ _ e => e.elim)).trans h2 (fun _ _ e => e)
      go_region_held3 (fun z => Kp (fun x => x = m) w5 z ∧ z.cell? ⟨g, 0, none⟩ = some (.pointer (some ⟨bp, 0, none⟩)) ∧ z.cell? ⟨g, 1, none⟩ = some (.int .i64 s) ∧ z.cell? ⟨g, 6, none⟩ = some (.slice (some ⟨gf, 0, none⟩) (kk + 1) capz) ∧ z.cell? ⟨gf, 0, none⟩ = some (.int .i64 (E : Int)) ∧ z.cell? ⟨t6, 0, none⟩ = some (.int .i64 num) ∧ z.cell? ⟨t6, 1, none⟩ = some (.slice (some ⟨b, ob, none⟩) cl cl) ∧ z.cell? ⟨t6, 2, none⟩ = some (.bool bf) ∧ z.cell? ⟨t6, 3, none⟩ = some (.bool bl))
        (first
          | exact HSS.out _ kd
          | exact HSS.out _ km1
          | exact HSS.out _ km2
          | exact HSS.out _ km3)
        (first
          | (go_at_call 167; refine (H1.out _).mono ?_; rintro e9 wA ⟨rfl, kA⟩; have kw1 := HTr.out _ _ kf kA; have km1 := HTm.out _ kw1)
          | (go_at_call 168; refine (H2.out _ km1).mono ?_; rintro e9 wB ⟨g9, hg9, rfl, kB, rb9⟩; have kw2 := HTr.out _ _ kw1 kB; have km2 := HTm.out _ kw2)
          | (go_at_call 166; refine (H3.out _ _ kw2 rb9).mono ?_; rintro e9 wX ⟨rfl, kX, pX⟩; have km3 := HTw.out _ _ kw2 kX))
      all_goals
        have HPX : Hid (Pt wX bp d m n (q + (j + 1)) dur (wrT T s e (lt + 1) ys K (j + 1))) := pX
        have HKX : Hid (Kp (fun x => x = m) w5 wX) := km3
        have HIX : Hid (Ip wX g 6 gf capz [.pointer (some ⟨bp, 0, none⟩), .int .i64 s, .int .i64 aa, .int .i64 ab, .int .i64 ac, .int .i64 ad] [.int .i64 lt] lz) := HIp5.out.1.keep km3 HNe.out.2.1 HNe.out.2.2.2.2.1
        have HPo : Hid (Calls _ _ _ wX _) := heapPopI HIX.out (by have h9 := HIp5.out.2.1; have := HB.out; have := HE.out; omega)
        clear pX kX kB kA rb9 hg9 kw1 kw2 km1 km2 km3 kd kf hm6
        go_simp
        go_wp2_with fail
        refine HPo.out.mono ?_
        rintro e9 wY ⟨rfl, kY, ipY⟩
        have HF : Hid (Kp (fun x => x = m ∨ x = g ∨ x = gf) w1 wY ∧ Wl wY g bp s gf ⟨aa, ab, ac, ad⟩ lt (e + (j + 1)) (k - (j + 1)) ∧ Pt wY bp d m n (q + (j + 1)) dur (wrT T s e (lt + 1) ys K (j + 1))) := by
          refine ⟨((HK.out.trans HKr5.out (fun _ _ e => e.elim)).trans HKX.out (fun _ _ e => Or.inl e)).trans kY (fun _ _ e => Or.inr e), ?_, HPX.out.keep kY (fun e9 => by
            have e' : bp = g ∨ bp = gf := e9
            have := HNe.out
            omega) (fun e9 => by
            have e' : d = g ∨ d = gf := e9
            have := HNe.out
            omega) (fun e9 => by
            have e' : m = g ∨ m = gf := e9
            have := HNe.out
            omega)⟩
          have h9 := Wl.of_ip (A := ⟨aa, ab, ac, ad⟩) ipY HIp5.out.2.2
          have h10 := HE.out
          rw [show e + (j + 1) = E + 1 by omega, show k - (j + 1) = kk by omega]
          exact h9
        clear kY ipY HPo
        go_wp2
        go_roundg (K - (j + 1))
        case rel => exact ⟨j + 1, by omega, rfl, by first | rw [hwj] | simp, HF.out.1, HF.out.2.1, HF.out.2.2⟩
        case measure => omega
    · have hjK : j = K := by omega
      subst hjK
      have hlt2 : ¬ ((j : Int) < (j : Int)) := by omega
      obtain ⟨capz, lz, ipz, frz⟩ := HW.out.ip
      have v7 : wr.cell? ⟨g, 7, none⟩ = some (.int .i64 (lt : Int)) := ipz.lv.cell (j := 7) rfl
      have f7 : wr.frozen? ⟨g, 7, none⟩ = false := ipz.lv.fz (j := 7) (by simp)
      have hwl : wrap64 ((lt : Int) + 1) = num := by rw [HNm.out.1]; have := HNm.out.2; unfold wrap64; omega
      obtain ⟨w5, hw5⟩ : ∃ y, y = wr.setCell ⟨g, 7, none⟩ (.int .i64 num) := ⟨_, rfl⟩
      have k5 : Kp (fun x => x = g) wr w5 := by rw [hw5]; exact kp_set
      have hl5 : Lv w5 g [.pointer (some ⟨bp, 0, none⟩), .int .i64 s, .int .i64 aa, .int .i64 ab, .int .i64 ac, .int .i64 ad, .slice (some ⟨gf, 0, none⟩) lz.length capz, .int .i64 num] := by
        rw [hw5]
        exact ipz.lv.set1 7 (.int .i64 num) (by simp)
      have HF : Hid (Kp (fun x => x = m ∨ x = g ∨ x = gf) w w5 ∧ Pt w5 bp d m n (q + j) dur (wrT T s e (lt + 1) ys j j) ∧ Wl w5 g bp s gf ⟨aa, ab, ac, ad⟩ ((lt + 1 : Nat) : Int) (e + j) (k - j)) := by
        refine ⟨((HK1.out.mono (fun _ _ e => e.elim)).trans HK.out (fun _ _ e => e)).trans k5 (fun _ _ e => Or.inr (Or.inl e)), HQ.out.keep k5 HNe.out.2.2.1 (fun e => HNe.out.1 e.symm) (fun e => HNe.out.2.1 e.symm), ?_⟩
        rw [← HNm.out.1]
        exact Wl.of_ip ⟨hl5, rfl, ownsRow_keep ipz.ow k5 (fun g' e e2 => by have e' : some gf = some g' := e; injection e' with e'; have := ipz.ne; omega), ipz.ne⟩ frz
      clear ipz frz k5 hl5
      go_wp2
      rw [← hw5]
      go_ret
      exact ⟨rfl, HF.out⟩
end Go.Proofs.YtmooddbhcccicaaGreatDoor

/- Append, Room, Last, Life. -/
namespace Go.Proofs.YtmooddbhcccicaaGreatDoor
set_option linter.unusedVariables false
set_option linter.unusedSimpArgs false
open Go.RowKit Go.Deep

theorem Wl.cells {w : World} {g bp s gf : Nat} {A : H4} {last : Int} {e k : Nat} (h : Wl w g bp s gf A last e k) : w.cell? ⟨g, 0, none⟩ = some (.pointer (some ⟨bp, 0, none⟩)) ∧ w.cell? ⟨g, 3, none⟩ = some (.int .i64 A.b) ∧ (∃ cap, w.cell? ⟨g, 6, none⟩ = some (.slice (some ⟨gf, 0, none⟩) k cap)) ∧ w.cell? ⟨g, 7, none⟩ = some (.int .i64 last) := by
  obtain ⟨cap, l, h1, h2, h3⟩ := h.hp
  exact ⟨h1.cell (j := 0) rfl, h1.cell (j := 3) rfl, ⟨cap, h1.cell (j := 6) rfl⟩, h1.cell (j := 7) rfl⟩

set_option maxRecDepth 100000 in
theorem wmade_ok {w : World} {g bp : Nat} (h : w.cell? ⟨g, 0, none⟩ = some (.pointer (some ⟨bp, 0, none⟩))) :
    Calls Tryz.prog 93 #[.pointer (some ⟨g, 0, none⟩)] w fun e w' => e = .returned (.bool true) ∧ w' = w := by
  go_enter Tryz.func93, Tryz.ntmps93
  go_wp2
  go_ret
  exact ⟨rfl, rfl⟩

set_option maxRecDepth 100000 in
theorem room_ok {w : World} {g bp s gf : Nat} {A : H4} {last : Int} {e k : Nat} (h : Wl w g bp s gf A last e k) :
    Calls Tryz.prog 82 #[.pointer (some ⟨g, 0, none⟩)] w fun e9 w' => e9 = .returned (.int .i64 (k : Int)) ∧ w' = w := by
  obtain ⟨c0, c3, ⟨cap, c6⟩, c7⟩ := h.cells
  have HM : Hid (Calls _ _ _ w _) := wmade_ok c0
  clear h
  go_enter Tryz.func82, Tryz.ntmps82
  go_wp2_with fail
  refine HM.out.mono ?_
  rintro e9 w9 ⟨rfl, hw9⟩
  have hw8 := hw9.symm
  subst hw8
  clear hw9 HM
  go_wp2
  go_ret
  exact ⟨rfl, rfl⟩

set_option maxRecDepth 100000 in
theorem life_ok {w : World} {g bp s gf : Nat} {A : H4} {last : Int} {e k : Nat} (h : Wl w g bp s gf A last e k) :
    Calls Tryz.prog 58 #[.pointer (some ⟨g, 0, none⟩)] w fun e9 w' => e9 = .returned (.int .i64 A.b) ∧ w' = w := by
  obtain ⟨c0, c3, ⟨cap, c6⟩, c7⟩ := h.cells
  have HM : Hid (Calls _ _ _ w _) := wmade_ok c0
  clear h
  go_enter Tryz.func58, Tryz.ntmps58
  go_wp2_with fail
  refine HM.out.mono ?_
  rintro e9 w9 ⟨rfl, hw9⟩
  have hw8 := hw9.symm
  subst hw8
  clear hw9 HM
  go_wp2
  go_ret
  exact ⟨rfl, rfl⟩

set_option maxRecDepth 100000 in
theorem isRecord_ok (p : Option Addr) (n c : Nat) (w : World) : Calls Tryz.prog 125 #[.slice p n c] w fun e w' => e = .returned (.bool (decide (1 ≤ n ∧ n ≤ 2000))) ∧ w' = w := by
  by_cases h1 : (n : Int) ≥ 1
  · by_cases h2 : (n : Int) ≤ 2000
    · rw [decide_eq_true (show 1 ≤ n ∧ n ≤ 2000 by omega)]
      go_enter Tryz.func125, Tryz.ntmps125
      go_wp2
      go_ret
      exact ⟨rfl, rfl⟩
    · rw [decide_eq_false (show ¬ (1 ≤ n ∧ n ≤ 2000) by omega)]
      go_enter Tryz.func125, Tryz.ntmps125
      go_wp2
      go_ret
      exact ⟨rfl, rfl⟩
  · rw [decide_eq_false (show ¬ (1 ≤ n ∧ n ≤ 2000) by omega)]
    go_enter Tryz.func125, Tryz.ntmps125
    go_wp2
    go_ret
    exact ⟨rfl, rfl⟩

theorem quo_40 {n K : Nat} (h : K = (n + 39) / 40) (hn : n ≤ 140737488355328) : wrap64 ((n : Int) + 40) = (n : Int) + 40 ∧ wrap64 ((n : Int) + 40 - 1) = (((n + 39 : Nat)) : Int) ∧ (((n + 39 : Nat)) : Int).tdiv 40 = (K : Int) ∧ wrap64 (K : Int) = (K : Int) := by
  refine ⟨by unfold wrap64; omega, by unfold wrap64; omega, ?_, by unfold wrap64; omega⟩
  rw [Int.tdiv_eq_ediv_of_nonneg (by omega), h]
  omega
set_option maxRecDepth 100000 in
theorem sectorsOf_ok (p : Option Addr) (n c K : Nat) (hK : K = (n + 39) / 40) (hn : n ≤ 140737488355328) (w : World) : Calls Tryz.prog 126 #[.slice p n c] w fun e w' => e = .returned (.int .i64 (K : Int)) ∧ w' = w := by
  obtain ⟨e1, e2, e3, e4⟩ := quo_40 hK hn
  obtain ⟨m, hm⟩ : ∃ m, m = n + 39 := ⟨_, rfl⟩
  rw [← hm] at e2 e3
  clear hK hn hm
  go_enter Tryz.func126, Tryz.ntmps126
  go_wp2
  go_ret
  refine ⟨?_, rfl⟩
  show Ending.returned (.int .i64 (wrap64 (K : Int))) = _
  rw [e4]

set_option maxRecDepth 100000 in
set_option maxHeartbeats 800000 in
theorem append_arg {w : World} {g bp s gf : Nat} {A : H4} {last : Int} {e k : Nat} (h : Wl w g bp s gf A last e k) (p : Option Addr) (n c : Nat) (hn : ¬ (1 ≤ n ∧ n ≤ 2000)) :
    Calls Tryz.prog 85 #[.pointer (some ⟨g, 0, none⟩), .slice p n c] w fun e9 w' => e9 = .returned (.tuple #[.int .i64 0, .int .i64 1]) ∧ w' = w := by
  have HM : Hid (Calls _ _ _ w _) := wmade_ok h.cells.1
  have HI : Hid (Calls _ _ _ w _) := isRecord_ok p n c w
  rw [decide_eq_false hn] at HI
  clear h hn
  go_enter Tryz.func85, Tryz.ntmps85
  go_wp2_with fail
  refine HM.out.mono ?_
  rintro e9 w9 ⟨rfl, hw9⟩
  have hw8 := hw9.symm
  subst hw8
  clear hw9 HM
  go_wp2_with fail
  refine HI.out.mono ?_
  rintro e9 w9 ⟨rfl, hw9⟩
  have hw8 := hw9.symm
  subst hw8
  clear hw9 HI
  go_wp2
  go_ret2
  exact ⟨rfl, rfl⟩

set_option maxRecDepth 100000 in
set_option maxHeartbeats 800000 in
theorem append_full {w : World} {g bp s gf : Nat} {A : H4} {last : Int} {e k : Nat} (h : Wl w g bp s gf A last e k) (p : Option Addr) (n c K : Nat) (hn : 1 ≤ n ∧ n ≤ 2000) (hK : K = (n + 39) / 40) (hk : k < K) :
    Calls Tryz.prog 85 #[.pointer (some ⟨g, 0, none⟩), .slice p n c] w fun e9 w' => e9 = .returned (.tuple #[.int .i64 0, .int .i64 4]) ∧ w' = w := by
  have HM : Hid (Calls _ _ _ w _) := wmade_ok h.cells.1
  have HI : Hid (Calls _ _ _ w _) := isRecord_ok p n c w
  rw [decide_eq_true hn] at HI
  have HS : Hid (Calls _ _ _ w _) := sectorsOf_ok p n c K hK (by omega) w
  have HR : Hid (Calls _ _ _ w _) := room_ok h
  have hgt : (K : Int) > (k : Int) := by omega
  clear h hn hK hk
  go_enter Tryz.func85, Tryz.ntmps85
  go_wp2_with fail
  refine HM.out.mono ?_
  rintro e9 w9 ⟨rfl, hw9⟩
  have hw8 := hw9.symm
  subst hw8
  clear hw9 HM
  go_wp2_with fail
  refine HI.out.mono ?_
  rintro e9 w9 ⟨rfl, hw9⟩
  have hw8 := hw9.symm
  subst hw8
  clear hw9 HI
  go_wp2_with fail
  refine HS.out.mono ?_
  rintro e9 w9 ⟨rfl, hw9⟩
  have hw8 := hw9.symm
  subst hw8
  clear hw9 HS
  go_wp2_with fail
  refine HR.out.mono ?_
  rintro e9 w9 ⟨rfl, hw9⟩
  have hw8 := hw9.symm
  subst hw8
  clear hw9 HR
  go_wp2
  go_ret2
  exact ⟨rfl, rfl⟩

set_option maxRecDepth 100000 in
set_option maxHeartbeats 1600000 in
theorem append_put {w : World} {g bp d m n q s gf b o len cap K e k lt : Nat} {dur : List Nat} {T : Nat → Option (List Nat)} {A : H4} {ys : List Nat} (hP : Pt w bp d m n q dur T) (hq : (q : Int) ≤ 9000000000000000000) (hs : n = 2 + s ∧ 1 ≤ s) (hW : Wl w g bp s gf A lt e k) (hKk : K ≤ k) (hK : Hid (K = (len + 39) / 40 ∧ len ≤ 2000 ∧ len ≤ cap)) (h1 : Hid (1 ≤ len)) (hr : Rb w (some ⟨b, o, none⟩) len ys) (hk9 : k ≤ 8192) (he9 : (e : Int) ≤ 900000000000000000) (hl9 : (lt : Int) < 1152921504606846976)
    (hne : g ≠ d ∧ g ≠ m ∧ bp ≠ g ∧ gf ≠ d ∧ gf ≠ m ∧ bp ≠ gf ∧ b ≠ m ∧ b ≠ g ∧ b ≠ gf ∧ g ≠ 0 ∧ gf ≠ 0 ∧ m ≠ 0) (ht : Turns w) :
    Calls Tryz.prog 85 #[.pointer (some ⟨g, 0, none⟩), .slice (some ⟨b, o, none⟩) len cap] w fun e9 w' => e9 = .returned (.tuple #[.int .i64 ((lt + 1 : Nat) : Int), .int .i64 0]) ∧ Kp (fun x => x = m ∨ x = g ∨ x = gf) w w' ∧ Pt w' bp d m n (q + K) dur (wrT T s e (lt + 1) ys K K) ∧ Wl w' g bp s gf A ((lt + 1 : Nat) : Int) (e + K) (k - K) := by
  have HM : Hid (Calls _ _ _ w _) := wmade_ok hW.cells.1
  have HI : Hid (Calls _ _ _ w _) := isRecord_ok (some ⟨b, o, none⟩) len cap w
  rw [decide_eq_true (show 1 ≤ len ∧ len ≤ 2000 from ⟨h1.out, hK.out.2.1⟩)] at HI
  have HS : Hid (Calls _ _ _ w _) := sectorsOf_ok (some ⟨b, o, none⟩) len cap K hK.out.1 (by have := hK.out; omega) w
  have HR : Hid (Calls _ _ _ w _) := room_ok hW
  have HPu : Hid (Calls _ _ _ w _) := put_ok hP hq hs hW hKk hK h1 hr hk9 he9 hl9 hne ht
  have hgt : ¬ ((K : Int) > (k : Int)) := by omega
  have hlg : decide ((lt : Int) ≥ 1152921504606846976) = false := decide_eq_false (by omega)
  have c7 := hW.cells.2.2.2
  have hnn := nil_neq
  clear hP hq hs hW hKk hK h1 hr hk9 he9 hl9 hne ht
  go_enter Tryz.func85, Tryz.ntmps85
  go_wp2_with fail
  refine HM.out.mono ?_
  rintro e9 w9 ⟨rfl, hw9⟩
  have hw8 := hw9.symm
  subst hw8
  clear hw9 HM
  go_wp2_with fail
  refine HI.out.mono ?_
  rintro e9 w9 ⟨rfl, hw9⟩
  have hw8 := hw9.symm
  subst hw8
  clear hw9 HI
  go_wp2_with fail
  refine HS.out.mono ?_
  rintro e9 w9 ⟨rfl, hw9⟩
  have hw8 := hw9.symm
  subst hw8
  clear hw9 HS
  go_wp2_with fail
  refine HR.out.mono ?_
  rintro e9 w9 ⟨rfl, hw9⟩
  have hw8 := hw9.symm
  subst hw8
  clear hw9 HR
  go_wp2_with fail
  refine HPu.out.mono ?_
  rintro e9 w1 ⟨rfl, k1, p1, l1⟩
  have c71 := l1.cells.2.2.2
  obtain ⟨nm, hnm⟩ : ∃ nm : Int, nm = ((lt + 1 : Nat) : Int) := ⟨_, rfl⟩
  have HF : Hid (Kp (fun x => x = m ∨ x = g ∨ x = gf) w w1 ∧ Pt w1 bp d m n (q + K) dur (wrT T s e (lt + 1) ys K K) ∧ Wl w1 g bp s gf A ((lt + 1 : Nat) : Int) (e + K) (k - K)) := ⟨k1, p1, l1⟩
  have HNm : Hid (nm = ((lt + 1 : Nat) : Int)) := hnm
  rw [← hnm] at c71
  clear k1 p1 l1 HPu c7 hnm
  go_wp2
  go_ret2
  exact ⟨by show Ending.returned (.tuple #[.int .i64 nm, .int .i64 0]) = _; rw [HNm.out], HF.out⟩
end Go.Proofs.YtmooddbhcccicaaGreatDoor

/- A record off the ring: record. -/
namespace Go.Proofs.YtmooddbhcccicaaGreatDoor
set_option linter.unusedVariables false
set_option linter.unusedSimpArgs false
open Go.RowKit Go.Deep

/-- whether a sector is the right one for a record's i-th piece -/
def okR (b : List Nat) (num : Int) (i : Nat) : Bool := rightP (numAt b 1) (bytP b) (fstP b) (lstP b) b && (decide (numAt b 1 = num) && decide (fstP b = decide (i = 0)))
/-- the record of a number from a place on: what r more sectors, from the i-th on, say behind acc -/
def recW (rd : Nat → List Nat) (s place : Nat) (num : Int) : Nat → Nat → List Nat → Option (List Nat)
  | 0, _, _ => none
  | r + 1, i, acc => if okR (rd (2 + (place + i) % s)) num i = true then (if lstP (rd (2 + (place + i) % s)) = true then some (acc ++ bytP (rd (2 + (place + i) % s))) else recW rd s place num r (i + 1) (acc ++ bytP (rd (2 + (place + i) % s)))) else none
def RcRes (w' : World) (base : Nat) (S : Int) : Option (List Nat) → Ending → Prop
  | some ys, e => ∃ v, Ow w' base v ys ∧ e = .returned (.tuple #[v, .nilIface])
  | none, e => e = .returned (.tuple #[.slice none 0 0, flt S 70])

theorem min_50 (y : Nat) : min (y : Int) 50 = ((min y 50 : Nat) : Int) := by omega
theorem wrapPl {p i E : Nat} (h : E = p + i) (hE : (E : Int) ≤ 1000000000000000000) : wrap64 ((p : Int) + (i : Int)) = (E : Int) ∧ IntKind.i64.wrap ((p : Int) + (i : Int)) = (E : Int) := by
  rw [IntKind.wrap_i64]
  unfold wrap64
  omega
theorem wr_1 {i : Nat} (h : i ≤ 100000) : wrap64 ((i : Int) + 1) = ((i + 1 : Nat) : Int) := by unfold wrap64; omega
theorem bytP_len {b : List Nat} (h : b.length = 64) : (bytP b).length = cntP b ∧ cntP b ≤ 40 := by
  have h40 : cntP b ≤ 40 := Nat.min_le_right _ _
  refine ⟨?_, h40⟩
  unfold bytP
  rw [List.length_take, List.length_drop]
  omega

set_option maxRecDepth 100000 in
set_option maxHeartbeats 3200000 in
theorem record_ok {w : World} {bp d m n q s : Nat} {dur : List Nat} {T : Nat → Option (List Nat)} (h : Pt w bp d m n q dur T) (hs : n = 2 + s ∧ 1 ≤ s) (place mo : Nat) (num : Int) (hp : (place : Int) ≤ 900000000000000000) (ht : Turns w) :
    Calls Tryz.prog 223 #[ringV bp s, .int .i64 place, .int .i64 num, .int .i64 mo] w fun e w' => RcRes w' w.heap.size ((2 + place % s : Nat) : Int) (recW (nowOf dur T) s place num (min mo 50) 0 []) e ∧ Kp (fun _ => False) w w' := by
  obtain ⟨K, hK⟩ : ∃ K, K = min mo 50 := ⟨_, rfl⟩
  have hmin : min (mo : Int) 50 = (K : Int) := by rw [hK]; exact min_50 mo
  have HK5 : Hid (K ≤ 50) := by show K ≤ 50; omega
  rw [← hK]
  clear hK
  obtain ⟨Z, hZ0⟩ : ∃ Z, Z = recW (nowOf dur T) s place num K 0 [] := ⟨_, rfl⟩
  have HZ : Hid (Z = recW (nowOf dur T) s place num K 0 []) := hZ0
  rw [← hZ0]
  clear hZ0
  have HP : Hid (Pt w bp d m n q dur T) := h
  have HT : Hid (Turns w) := ht
  have HN : Hid (n = 2 + s ∧ 1 ≤ s ∧ n ≤ 8192 ∧ (place : Int) ≤ 900000000000000000) := ⟨hs.1, hs.2, h.n2, hp⟩
  obtain ⟨ps, hps⟩ : ∃ ps, ps = 2 + place % s := ⟨_, rfl⟩
  have HPs : Hid (ps = 2 + place % s) := hps
  rw [← hps]
  clear hps
  obtain ⟨r, hr⟩ : ∃ r, r = w.heap.size := ⟨_, rfl⟩
  obtain ⟨w0, hw0⟩ : ∃ y, y = w.alloc (.cells #[.pointer (some ⟨bp, 0, none⟩), .int .i64 (s : Int)] 153) := ⟨_, rfl⟩
  have z1 : w0.heap.size = w.heap.size + 1 := by rw [hw0]; simp
  have HK0 : Hid (Kp (fun _ => False) w w0) := by rw [hw0]; exact (Kp.refl _ _).alloc _
  have HL0 : Hid (Lv w0 r [.pointer (some ⟨bp, 0, none⟩), .int .i64 (s : Int)]) := by rw [hw0, hr]; exact Lv.new w _ _
  have HG : Hid (w.heap.size ≤ r ∧ r < w0.heap.size ∧ w.heap.size ≤ w0.heap.size) := ⟨by omega, by omega, by omega⟩
  have hnn := nil_neq
  clear z1 h hs hp ht
  go_enter Tryz.func223, Tryz.ntmps223
  go_wp2_with fail
  rw [← hw0, ← hr]
  clear hw0 hr
  go_loopg [10, 17] K (fun gk vv iv wr => ∃ (i : Nat) (acc : List Nat) (v : Value), i ≤ K ∧ gk = K - i ∧ vv = v ∧ iv = .int .i64 i ∧ Hid (Kp (fun _ => False) w0 wr) ∧ Hid (Ow wr w0.heap.size v acc ∧ acc.length ≤ 40 * i) ∧ Hid (Z = recW (nowOf dur T) s place num (K - i) i acc))
  case atStart => exact ⟨0, [], _, Nat.zero_le _, rfl, rfl, rfl, Kp.refl _ _, ⟨World.ownsRow_nil _ _ _ _, Nat.le_refl _⟩, HZ.out⟩
  case round =>
    obtain ⟨i, acc, v, hi, rfl, hvv, rfl, HK, HO, HR⟩ := hrel
    have hv2 := hvv.symm
    subst hv2
    have hlr : Lv wr r [.pointer (some ⟨bp, 0, none⟩), .int .i64 (s : Int)] := HL0.out.keep HK.out id
    have q0 := hlr.cell (j := 0) rfl
    have q1 := hlr.cell (j := 1) rfl
    have HKw : Hid (Kp (fun _ => False) w wr) := HK0.out.trans HK.out (fun _ _ e => e)
    by_cases hlt : i < K
    · have hlt2 : (i : Int) < (K : Int) := by omega
      obtain ⟨E, hE⟩ : ∃ E, E = place + i := ⟨_, rfl⟩
      obtain ⟨hw1, hw2⟩ := wrapPl hE (by have := HN.out; have := HK5.out; omega)
      have HE : Hid (E = place + i) := hE
      obtain ⟨sc, hsc⟩ : ∃ sc, sc = 2 + E % s := ⟨_, rfl⟩
      have HSc : Hid (sc = 2 + (place + i) % s ∧ sc < n) := ⟨by rw [hsc, hE], by have := HN.out; have := Nat.mod_lt E (show 0 < s by omega); omega⟩
      have H1 : Hid (∀ u, Calls Tryz.prog 167 #[ringV bp s, .int .i64 (E : Int)] u fun e9 w' => e9 = .returned (.int .i64 (sc : Int)) ∧ Kp (fun _ => False) u w') := fun u => by
        rw [hsc]
        exact rsector_ok bp s E u (by have := HN.out; omega) (by have := HN.out; omega) (by have := HN.out; have := HK5.out; omega)
      obtain ⟨X, hX⟩ : ∃ X, X = nowOf dur T sc := ⟨_, rfl⟩
      have HX : Hid (X = nowOf dur T (2 + (place + i) % s)) := by show _ = _; rw [hX, HSc.out.1]
      have HPr : Hid (Pt wr bp d m n q dur T) := HP.out.keep0 HKw.out
      have H2 : Hid (∀ u, Kp (fun _ => False) wr u → Calls Tryz.prog 190 #[ringV bp s, .int .i64 (sc : Int)] u fun e w' => ∃ g c, u.heap.size ≤ g ∧ 64 ≤ c ∧ e = .returned (.tuple #[.slice (some ⟨g, 0, none⟩) 64 c, .nilIface]) ∧ Kp (fun _ => False) u w' ∧ Rb w' (some ⟨g, 0, none⟩) 64 X) := fun u ku => by
        rw [hX]
        exact rread_ok (HPr.out.keep0 ku) s sc (by have := HSc.out; omega)
      have HSS : Hid (∀ z, Kp (fun _ => False) wr z → Kp (fun _ => False) wr z ∧ z.cell? ⟨r, 0, none⟩ = some (.pointer (some ⟨bp, 0, none⟩)) ∧ z.cell? ⟨r, 1, none⟩ = some (.int .i64 (s : Int))) := fun z kz => ⟨kz, kz.cellv q0 id, kz.cellv q1 id⟩
      have HTr : Hid (∀ u u' : World, Kp (fun _ => False) wr u → Kp (fun _ => False) u u' → Kp (fun _ => False) wr u') := fun u u' h1 h2 => h1.trans h2 (fun _ _ e => e)
      clear hE hsc hX hlr
      go_upto_region 5 with fail
      have kd : Kp (fun _ => False) wr wr.drew := (Kp.refl _ _).drew
      go_region_held3 (fun z => Kp (fun _ => False) wr z ∧ z.cell? ⟨r, 0, none⟩ = some (.pointer (some ⟨bp, 0, none⟩)) ∧ z.cell? ⟨r, 1, none⟩ = some (.int .i64 (s : Int)))
        (first
          | exact HSS.out _ kd
          | exact HSS.out _ kw1
          | exact HSS.out _ kw2)
        (first
          | (go_at_call 167; refine (H1.out _).mono ?_; rintro e9 wA ⟨rfl, kA⟩; have kw1 := HTr.out _ _ kd kA)
          | (go_at_call 190; refine (H2.out _ kw1).mono ?_; rintro e9 wX ⟨g, c, hg, hc, rfl, kX, rbX⟩; have kw2 := HTr.out _ _ kw1 kX))
      all_goals
        have HK1 : Hid (Kp (fun _ => False) wr wX) := kw2
        have HB1 : Hid (Rb wX (some ⟨g, 0, none⟩) 64 X ∧ 64 ≤ c ∧ wr.heap.size ≤ g) := ⟨rbX, hc, Nat.le_trans kw1.size hg⟩
        clear kw2 rbX hc hg kw1 kA kX kd
        have HPi : Hid (Calls _ _ _ wX _) := pieceOf_ok g 0 c X wX HB1.out.2.1 HB1.out.1
        go_simp
        go_wp2_with fail
        refine HPi.out.mono ?_
        rintro e9 w2 ⟨rfl, k2⟩
        obtain ⟨zz, hzz⟩ : ∃ z, z = numAt X 1 := ⟨_, rfl⟩
        obtain ⟨cn, hcn⟩ : ∃ z, z = cntP X := ⟨_, rfl⟩
        obtain ⟨bf, hbf⟩ : ∃ z, z = fstP X := ⟨_, rfl⟩
        obtain ⟨bl, hbl⟩ : ∃ z, z = lstP X := ⟨_, rfl⟩
        obtain ⟨cc, hcc⟩ : ∃ z, z = c - 12 := ⟨_, rfl⟩
        obtain ⟨BR, hBR⟩ : ∃ z, z = rightP zz (bytP X) bf bl X := ⟨_, rfl⟩
        have HOK : Hid (okR X num i = (BR && (decide (zz = num) && decide (bf = decide (i = 0))))) := by
          show _ = _
          unfold okR
          rw [← hzz, ← hbf, ← hbl, ← hBR]
        have HBL : Hid (bl = lstP X) := hbl
        have hxl := HB1.out.1.len
        obtain ⟨hbl1, hbl2⟩ := bytP_len hxl
        rw [← hcn] at hbl1 hbl2
        have HCn : Hid ((bytP X).length = cn ∧ cn ≤ 40) := ⟨hbl1, hbl2⟩
        have rbY : Rb wX (some ⟨g, 12, none⟩) cn (bytP X) := by
          have := HB1.out.1.mid (l := 12) (m := cn) (by omega)
          rw [Nat.zero_add] at this
          unfold bytP
          rw [← hcn]
          exact this
        rw [← hzz, ← hcn, ← hbf, ← hbl, ← hcc]
        obtain ⟨t8, ht8⟩ : ∃ t8, t8 = w2.heap.size := ⟨_, rfl⟩
        obtain ⟨w3, hw3⟩ : ∃ y, y = w2.alloc (.cells #[.int .i64 zz, .slice (some ⟨g, 12, none⟩) cn cc, .bool bf, .bool bl] 232) := ⟨_, rfl⟩
        have k23 : Kp (fun _ => False) w2 w3 := by rw [hw3]; exact (Kp.refl _ _).alloc _
        have HL8 : Hid (Lv w3 t8 [.int .i64 zz, .slice (some ⟨g, 12, none⟩) cn cc, .bool bf, .bool bl]) := by rw [hw3, ht8]; exact Lv.new _ _ _
        have HK3 : Hid (Kp (fun _ => False) wr w3) := (HK1.out.trans k2 (fun _ _ e => e)).trans k23 (fun _ _ e => e)
        have HX3 : Hid (Kp (fun _ => False) wX w3) := k2.trans k23 (fun _ _ e => e)
        have HT8 : Hid (wr.heap.size ≤ t8) := by show _ ≤ _; rw [ht8]; have := HK1.out.size; have := k2.size; omega
        have HRt : Hid (Calls _ _ _ w3 _) := pright_ok zz (some ⟨g, 12, none⟩) cn cc (bytP X) bf bl (some ⟨g, 0, none⟩) c X w3 (rbY.keep0 HX3.out) (by omega) (HB1.out.1.keep0 HX3.out) (fun j hj => (HKw.out.trans HK3.out (fun _ _ e => e)).cellv (HT.out j hj) id)
        have HY : Hid (Rb w3 (some ⟨g, 12, none⟩) cn (bytP X)) := rbY.keep0 HX3.out
        rw [← hBR] at HRt
        have p0 := HL8.out.cell (j := 0) rfl
        have p1 := HL8.out.cell (j := 1) rfl
        have p2 := HL8.out.cell (j := 2) rfl
        have p3 := HL8.out.cell (j := 3) rfl
        clear hzz hcn hbf hbl hcc hBR hxl hbl1 hbl2 rbY k23 k2 HPi
        go_upto_region 9 with fail
        rw [← hw3, ← ht8]
        clear hw3 ht8
        go_wp2_with fail
        refine HRt.out.mono ?_
        rintro e9 w4 ⟨rfl, k4⟩
        have HK4 : Hid (Kp (fun _ => False) wr w4) := HK3.out.trans k4 (fun _ _ e => e)
        have HY4 : Hid (Rb w4 (some ⟨g, 12, none⟩) cn (bytP X)) := HY.out.keep0 k4
        have HL4 : Hid (Lv w4 t8 [.int .i64 zz, .slice (some ⟨g, 12, none⟩) cn cc, .bool bf, .bool bl]) := HL8.out.keep k4 id
        have HO4 : Hid (Ow w4 w0.heap.size v acc) := ownsRow_keep HO.out.1 HK4.out (fun _ _ e => e)
        clear k4 HRt HY HL8 q0 q1 p0 p1 p2 p3
        have p0 := HL4.out.cell (j := 0) rfl
        have p1 := HL4.out.cell (j := 1) rfl
        have p2 := HL4.out.cell (j := 2) rfl
        have p3 := HL4.out.cell (j := 3) rfl
        obtain ⟨BI, hBI⟩ : ∃ z, z = decide (i = 0) := ⟨_, rfl⟩
        have hi0 : ((i : Int) == 0) = BI := by
          rw [hBI]
          by_cases e : i = 0
          · subst e; rfl
          · rw [decide_eq_false e, beq_eq_false_iff_ne]; omega
        rw [← hBI] at HOK
        clear hBI
        cases BR with
        | false =>
          have HOF : Hid (okR X num i = false) := by show _ = _; rw [HOK.out]; rfl
          have HNo : Hid (Z = none) := by
            show _ = _
            rw [HR.out, show K - i = (K - (i + 1)) + 1 by omega]
            show (if okR (nowOf dur T (2 + (place + i) % s)) num i = true then _ else _) = _
            rw [← HX.out, if_neg (by rw [HOF.out]; decide)]
          have r0 := (HL0.out.keep (HK.out.trans HK4.out (fun _ _ e => e)) id).cell (j := 0) rfl
          have r1 := (HL0.out.keep (HK.out.trans HK4.out (fun _ _ e => e)) id).cell (j := 1) rfl
          go_wp2_with fail
          refine (rsector_ok bp s place _ (by have := HN.out; omega) (by have := HN.out; omega) (by have := HN.out; omega)).mono ?_
          rintro e9 w8 ⟨rfl, k8⟩
          have HK8 : Hid (Kp (fun _ => False) w w8) := (HKw.out.trans HK4.out (fun _ _ e => e)).trans k8 (fun _ _ e => e)
          have hps := HPs.out.symm
          rw [hps]
          clear hps k8
          go_wp2_with fail
          refine (fault_flt _ 70 (by decide) w8).mono ?_
          rintro e9 w9 ⟨rfl, hw9⟩
          have hw8 := hw9.symm
          subst hw8
          clear hw9
          go_wp2
          go_ret2
          rw [HNo.out]
          exact ⟨rfl, HK8.out⟩
        | true =>
          by_cases hnum : zz = num
          · have hnb : (zz == num) = true := by rw [beq_iff_eq]; exact hnum
            by_cases hfi : bf = BI
            · have HOT : Hid (okR X num i = true) := by show _ = _; rw [HOK.out, decide_eq_true hnum, decide_eq_true hfi]; rfl
              subst hfi
              subst hnum
              cases bl with
              | true =>
                have HD : Hid (Z = some (acc ++ bytP X)) := by
                  show _ = _
                  rw [HR.out, show K - i = (K - (i + 1)) + 1 by omega]
                  show (if okR (nowOf dur T (2 + (place + i) % s)) zz i = true then _ else _) = _
                  rw [← HX.out, if_pos HOT.out, if_pos HBL.out.symm]
                go_wp2_with (refine wpList_append_bytes w4 rfl _ _ rfl w0.heap.size v acc rfl HO4.out _ _ _ (bytP X) rfl HY4.out (by have := HO.out.2; have := HCn.out; have := HK5.out; omega) (by have := HK.out.size; have := HK4.out.size; omega) ?_; intro v5 w5 ow5 k5 _; have p35 : w5.cell? ⟨t8, 3, none⟩ = some (.bool true) := k5.cellv p3 (fun e => by have := (ownBlock_lt HO.out.1 (g := t8) e).2; have := HT8.out; omega))
                have HO5 : Hid (Ow w5 w0.heap.size v5 (acc ++ bytP X)) := ow5
                have HK5w : Hid (Kp (fun _ => False) w0 w5) := Kp.app (HK.out.trans HK4.out (fun _ _ e => e)) HO4.out k5
                clear ow5 k5
                go_ret2
                rw [HD.out]
                exact ⟨⟨v5, ownsRow_base HO5.out (by have := HG.out; omega), rfl⟩, HK0.out.trans HK5w.out (fun _ _ e => e)⟩
              | false =>
                have HD : Hid (Z = recW (nowOf dur T) s place zz (K - (i + 1)) (i + 1) (acc ++ bytP X)) := by
                  show _ = _
                  rw [HR.out, show K - i = (K - (i + 1)) + 1 by omega]
                  show (if okR (nowOf dur T (2 + (place + i) % s)) zz i = true then _ else _) = _
                  rw [← HX.out, if_pos HOT.out, if_neg (by rw [← HBL.out]; decide)]
                have hwi : wrap64 ((i : Int) + 1) = ((i + 1 : Nat) : Int) := wr_1 (by have := HK5.out; omega)
                go_wp2_with (refine wpList_append_bytes w4 rfl _ _ rfl w0.heap.size v acc rfl HO4.out _ _ _ (bytP X) rfl HY4.out (by have := HO.out.2; have := HCn.out; have := HK5.out; omega) (by have := HK.out.size; have := HK4.out.size; omega) ?_; intro v5 w5 ow5 k5 _; have p35 : w5.cell? ⟨t8, 3, none⟩ = some (.bool false) := k5.cellv p3 (fun e => by have := (ownBlock_lt HO.out.1 (g := t8) e).2; have := HT8.out; omega))
                have HO5 : Hid (Ow w5 w0.heap.size v5 (acc ++ bytP X)) := ow5
                have HK5w : Hid (Kp (fun _ => False) w0 w5) := Kp.app (HK.out.trans HK4.out (fun _ _ e => e)) HO4.out k5
                clear ow5 k5
                go_roundg (K - (i + 1))
                case rel => exact ⟨i + 1, acc ++ bytP X, v5, by omega, rfl, rfl, by first | rw [hwi] | simp, HK5w.out, ⟨HO5.out, by rw [List.length_append]; have := HO.out.2; have := HCn.out; omega⟩, HD.out⟩
                case measure => omega
            · have HOF : Hid (okR X num i = false) := by show _ = _; rw [HOK.out, decide_eq_true hnum, decide_eq_false hfi]; rfl
              have hfb : (bf == BI) = false := by rw [beq_eq_false_iff_ne]; exact hfi
              have HNo : Hid (Z = none) := by
                show _ = _
                rw [HR.out, show K - i = (K - (i + 1)) + 1 by omega]
                show (if okR (nowOf dur T (2 + (place + i) % s)) num i = true then _ else _) = _
                rw [← HX.out, if_neg (by rw [HOF.out]; decide)]
              have r0 := (HL0.out.keep (HK.out.trans HK4.out (fun _ _ e => e)) id).cell (j := 0) rfl
              have r1 := (HL0.out.keep (HK.out.trans HK4.out (fun _ _ e => e)) id).cell (j := 1) rfl
              go_wp2_with fail
              refine (rsector_ok bp s place _ (by have := HN.out; omega) (by have := HN.out; omega) (by have := HN.out; omega)).mono ?_
              rintro e9 w8 ⟨rfl, k8⟩
              have HK8 : Hid (Kp (fun _ => False) w w8) := (HKw.out.trans HK4.out (fun _ _ e => e)).trans k8 (fun _ _ e => e)
              have hps := HPs.out.symm
              rw [hps]
              clear hps k8
              go_wp2_with fail
              refine (fault_flt _ 70 (by decide) w8).mono ?_
              rintro e9 w9 ⟨rfl, hw9⟩
              have hw8 := hw9.symm
              subst hw8
              clear hw9
              go_wp2
              go_ret2
              rw [HNo.out]
              exact ⟨rfl, HK8.out⟩
          · have HOF : Hid (okR X num i = false) := by show _ = _; rw [HOK.out, decide_eq_false hnum]; rfl
            have hnb : (zz == num) = false := by rw [beq_eq_false_iff_ne]; exact hnum
            have HNo : Hid (Z = none) := by
              show _ = _
              rw [HR.out, show K - i = (K - (i + 1)) + 1 by omega]
              show (if okR (nowOf dur T (2 + (place + i) % s)) num i = true then _ else _) = _
              rw [← HX.out, if_neg (by rw [HOF.out]; decide)]
            have r0 := (HL0.out.keep (HK.out.trans HK4.out (fun _ _ e => e)) id).cell (j := 0) rfl
            have r1 := (HL0.out.keep (HK.out.trans HK4.out (fun _ _ e => e)) id).cell (j := 1) rfl
            go_wp2_with fail
            refine (rsector_ok bp s place _ (by have := HN.out; omega) (by have := HN.out; omega) (by have := HN.out; omega)).mono ?_
            rintro e9 w8 ⟨rfl, k8⟩
            have HK8 : Hid (Kp (fun _ => False) w w8) := (HKw.out.trans HK4.out (fun _ _ e => e)).trans k8 (fun _ _ e => e)
            have hps := HPs.out.symm
            rw [hps]
            clear hps k8
            go_wp2_with fail
            refine (fault_flt _ 70 (by decide) w8).mono ?_
            rintro e9 w9 ⟨rfl, hw9⟩
            have hw8 := hw9.symm
            subst hw8
            clear hw9
            go_wp2
            go_ret2
            rw [HNo.out]
            exact ⟨rfl, HK8.out⟩
    · have hiK : i = K := by omega
      subst hiK
      have hlt2 : ¬ ((i : Int) < (i : Int)) := by omega
      have HNo : Hid (Z = none) := by show _ = _; rw [HR.out, Nat.sub_self]; rfl
      clear hlr
      go_wp2_with fail
      refine (rsector_ok bp s place _ (by have := HN.out; omega) (by have := HN.out; omega) (by have := HN.out; omega)).mono ?_
      rintro e9 w8 ⟨rfl, k8⟩
      have HK8 : Hid (Kp (fun _ => False) w w8) := (HKw.out).trans k8 (fun _ _ e => e)
      have hps := HPs.out.symm
      rw [hps]
      clear hps k8
      go_wp2_with fail
      refine (fault_flt _ 70 (by decide) w8).mono ?_
      rintro e9 w9 ⟨rfl, hw9⟩
      have hw8 := hw9.symm
      subst hw8
      clear hw9
      go_wp2
      go_ret2
      rw [HNo.out]
      exact ⟨rfl, HK8.out⟩
end Go.Proofs.YtmooddbhcccicaaGreatDoor
