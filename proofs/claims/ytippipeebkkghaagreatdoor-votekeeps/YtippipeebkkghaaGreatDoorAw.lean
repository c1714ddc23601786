/- A record is written: put. -/
import Derived.Test.YtippipeebkkghaaGreatDoorAv
import Derived.Deep.RegionHeld3
namespace Go.Proofs.YtippipeebkkghaaGreatDoor
set_option linter.unusedVariables false
set_option linter.unusedSimpArgs false
open Go.RowKit Go.Deep

theorem pcs_get {z : Int} {b o len K j : Nat} (hj : j < K) : (pcsC z b o len K)[j * 4 + 0]? = some (.int .i64 z) ∧ (pcsC z b o len K)[j * 4 + 1]? = some (chV b o len j) ∧ (pcsC z b o len K)[j * 4 + 2]? = some (.bool (decide (j = 0))) ∧ (pcsC z b o len K)[j * 4 + 3]? = some (.bool (decide (j = K - 1))) := by
  have hraw : ∀ j, (rawC z b o len j).length = 4 := fun j => rfl
  have hl : ((List.range K).flatMap (rawC z b o len)).length = K * 4 := by rw [fm_len _ hraw, List.length_range]
  have hg : ∀ r, r < 4 → ((List.range K).flatMap (rawC z b o len))[j * 4 + r]? = (rawC z b o len j)[r]? := fun r hr => by
    have := fm_get (rawC z b o len) hraw (List.range K) j r (by rw [List.length_range]; exact hj) hr
    rwa [List.getElem_range] at this
  unfold pcsC
  refine ⟨?_, ?_, ?_, ?_⟩
  · rw [List.getElem?_set_ne (by omega), List.getElem?_set_ne (by omega), hg 0 (by omega)]; rfl
  · rw [List.getElem?_set_ne (by omega), List.getElem?_set_ne (by omega), hg 1 (by omega)]; rfl
  · rw [List.getElem?_set_ne (by omega)]
    by_cases h0 : j = 0
    · subst h0
      rw [show 0 * 4 + 2 = 2 from rfl, List.getElem?_set_self (by omega)]; rfl
    · rw [List.getElem?_set_ne (by omega), hg 2 (by omega), decide_eq_false h0]; rfl
  · by_cases h0 : j = K - 1
    · subst h0
      rw [List.getElem?_set_self (by rw [List.length_set]; omega), decide_eq_true rfl]
    · rw [List.getElem?_set_ne (by omega), List.getElem?_set_ne (by omega), hg 3 (by omega), decide_eq_false h0]; rfl
/-- a record's j-th sector of K -/
def secJ (u : Nat) (ys : List Nat) (K j : Nat) : List Nat := pcB u ((ys.drop (40 * j)).take 40) (decide (j = 0)) (decide (j = K - 1))
/-- what is dirty behind so many sectors of a record, from place e on -/
def wrT (T : Nat → Option (List Nat)) (s e u : Nat) (ys : List Nat) (K : Nat) : Nat → Nat → Option (List Nat)
  | 0 => T
  | j + 1 => fun i => if i = 2 + (e + j) % s then some (secJ u ys K j) else wrT T s e u ys K j i
theorem chunk_rb {w : World} {b o len : Nat} {ys : List Nat} (h : Rb w (some ⟨b, o, none⟩) len ys) {j : Nat} (hj : 40 * j < len) : Rb w (some ⟨b, o + 40 * j, none⟩) (chL len j) ((ys.drop (40 * j)).take 40) ∧ 0 < chL len j ∧ chL len j ≤ 40 := by
  have h1 := h.mid (l := 40 * j) (m := chL len j) (by unfold chL; omega)
  refine ⟨?_, by unfold chL; omega, by unfold chL; omega⟩
  have e : (ys.drop (40 * j)).take (chL len j) = (ys.drop (40 * j)).take 40 := by
    have hl := h.len
    unfold chL
    by_cases h2 : 40 ≤ len - 40 * j
    · rw [Nat.min_eq_left h2]
    · rw [Nat.min_eq_right (by omega), List.take_of_length_le (by rw [List.length_drop]; omega), List.take_of_length_le (by rw [List.length_drop]; omega)]
  rw [e] at h1
  exact h1
/-- a log's free places as a heap -/
theorem Wl.ip {w : World} {g bp s gf : Nat} {A : H4} {last : Int} {e k : Nat} (h : Wl w g bp s gf A last e k) : ∃ cap l, Ip w g 6 gf cap [.pointer (some ⟨bp, 0, none⟩), .int .i64 s, .int .i64 A.a, .int .i64 A.b, .int .i64 A.c, .int .i64 A.d] [.int .i64 last] l ∧ Free l e k := by
  obtain ⟨cap, l, h1, h2, h3⟩ := h.hp
  have hl := h3.len
  exact ⟨cap, l, ⟨by rw [hl]; exact h1, rfl, by rw [hl]; exact h2, h.ne⟩, h3⟩
theorem Wl.of_ip {w : World} {g bp s gf cap : Nat} {A : H4} {last : Int} {e k : Nat} {l : List Nat} (h : Ip w g 6 gf cap [.pointer (some ⟨bp, 0, none⟩), .int .i64 s, .int .i64 A.a, .int .i64 A.b, .int .i64 A.c, .int .i64 A.d] [.int .i64 last] l) (hf : Free l e k) : Wl w g bp s gf A last e k := by
  have hl := hf.len
  refine ⟨⟨cap, l, ?_, ?_, hf⟩, h.ne⟩
  · have := h.lv; rw [hl] at this; exact this
  · have := h.ow; rw [hl] at this; exact this

set_option maxRecDepth 100000 in
set_option maxHeartbeats 3200000 in
theorem put_ok {w : World} {g bp d m n q s gf b o len cap K e k lt : Nat} {dur : List Nat} {T : Nat → Option (List Nat)} {A : H4} {ys : List Nat} (hP : Pt w bp d m n q dur T) (hq : (q : Int) ≤ 9000000000000000000) (hs : n = 2 + s ∧ 1 ≤ s) (hW : Wl w g bp s gf A lt e k) (hKk : K ≤ k) (hK : Hid (K = (len + 39) / 40 ∧ len ≤ 2000 ∧ len ≤ cap)) (h1 : Hid (1 ≤ len)) (hr : Rb w (some ⟨b, o, none⟩) len ys) (hk9 : k ≤ 8192) (he9 : (e : Int) ≤ 900000000000000000) (hl9 : (lt : Int) < 1152921504606846976)
    (hne : g ≠ d ∧ g ≠ m ∧ bp ≠ g ∧ gf ≠ d ∧ gf ≠ m ∧ bp ≠ gf ∧ b ≠ m ∧ b ≠ g ∧ b ≠ gf ∧ g ≠ 0 ∧ gf ≠ 0 ∧ m ≠ 0) (ht : Turns w) :
    Calls Tryz.prog 128 #[.pointer (some ⟨g, 0, none⟩), .slice (some ⟨b, o, none⟩) len cap] w fun e9 w' => e9 = .returned .nilIface ∧ Kp (fun x => x = m ∨ x = g ∨ x = gf) w w' ∧ Pt w' bp d m n (q + K) dur (wrT T s e (lt + 1) ys K K) ∧ Wl w' g bp s gf A ((lt + 1 : Nat) : Int) (e + K) (k - K) := by
  obtain ⟨aa, ab, ac, ad⟩ := A
  obtain ⟨num, hnum⟩ : ∃ num : Int, num = ((lt + 1 : Nat) : Int) := ⟨_, rfl⟩
  have hwl : wrap64 ((lt : Int) + 1) = num := by rw [hnum]; unfold wrap64; omega
  have HPc : Hid (Calls _ _ _ w _) := pieces_ok num b o len cap K hK h1 w
  obtain ⟨cap0, l0, ip0, fr0⟩ := hW.ip
  have v7 : w.cell? ⟨g, 7, none⟩ = some (.int .i64 (lt : Int)) := ip0.lv.cell (j := 7) rfl
  have HP : Hid (Pt w bp d m n q dur T) := hP
  have HWl : Hid (Wl w g bp s gf ⟨aa, ab, ac, ad⟩ lt e k) := hW
  have HR : Hid (Rb w (some ⟨b, o, none⟩) len ys) := hr
  have HT : Hid (Turns w) := ht
  have HNe : Hid (g ≠ d ∧ g ≠ m ∧ bp ≠ g ∧ gf ≠ d ∧ gf ≠ m ∧ bp ≠ gf ∧ b ≠ m ∧ b ≠ g ∧ b ≠ gf ∧ g ≠ 0 ∧ gf ≠ 0 ∧ m ≠ 0) := hne
  have HB : Hid ((q : Int) ≤ 9000000000000000000 ∧ n = 2 + s ∧ 1 ≤ s ∧ K ≤ k ∧ k ≤ 8192 ∧ (e : Int) ≤ 900000000000000000 ∧ g < w.heap.size ∧ gf < w.heap.size ∧ m < w.heap.size ∧ n ≤ 8192) := ⟨hq, hs.1, hs.2, hKk, hk9, he9, hW.gl, hW.fl, hP.mp.lt, hP.n2⟩
  have HNm : Hid (num = ((lt + 1 : Nat) : Int) ∧ (lt : Int) < 1152921504606846976) := ⟨hnum, hl9⟩
  have HKK : Hid (1 ≤ K ∧ K ≤ 50) := ⟨by have := hK.out; have := h1.out; omega, by have := hK.out; omega⟩
  have hnn := nil_neq
  clear ip0 fr0 hW hP hr ht hne hq hs hKk hk9 he9 hl9 hnum
  go_enter Tryz.func128, Tryz.ntmps128
  go_wp2_with fail
  refine HPc.out.mono ?_
  rintro e9 w1 ⟨v, rfl, o1, b1⟩
  obtain ⟨gp, cp, rfl⟩ : ∃ gp cp, v = .slice (some ⟨gp, 0, none⟩) K cp := by
    rcases Joins.ownsRow_forms o1 with ⟨e1, e2⟩ | ⟨gp, cp, e⟩
    · have := HKK.out; omega
    · exact ⟨gp, cp, e⟩
  have HK1 : Hid (Kp (fun _ => False) w w1) := Kp.of_below b1
  have HO1 : Hid (w1.ownsRow w.heap.size 272 4 (.slice (some ⟨gp, 0, none⟩) K cp) K (pcsC num b o len K)) := o1
  clear o1 b1 HPc v7 hwl
  go_wp2_with fail
  go_loopg [16] K (fun gk iv wr => ∃ j : Nat, j ≤ K ∧ gk = K - j ∧ iv = .int .i64 j ∧ Hid (Kp (fun x => x = m ∨ x = g ∨ x = gf) w1 wr) ∧ Hid (Wl wr g bp s gf ⟨aa, ab, ac, ad⟩ lt (e + j) (k - j)) ∧ Hid (Pt wr bp d m n (q + j) dur (wrT T s e (lt + 1) ys K j)))
  case atStart => exact ⟨0, Nat.zero_le _, rfl, rfl, Kp.refl _ _, HWl.out.keep HK1.out id id, HP.out.keep0 HK1.out⟩
  case round =>
    obtain ⟨j, hj, rfl, rfl, HK, HW, HQ⟩ := hrel
    by_cases hlt : j < K
    · have hlt2 : (j : Int) < (K : Int) := by omega
      have hwj : wrap64 ((j : Int) + 1) = ((j + 1 : Nat) : Int) := by have := HKK.out; unfold wrap64; omega
      have hjlen : 40 * j < len := by have := hK.out; omega
      obtain ⟨rbC, cl0, cl40⟩ := chunk_rb HR.out hjlen
      obtain ⟨cl, hcl⟩ : ∃ c, c = chL len j := ⟨_, rfl⟩
      obtain ⟨ob, hob⟩ : ∃ y, y = o + 40 * j := ⟨_, rfl⟩
      obtain ⟨bf, hbf⟩ : ∃ y, y = decide (j = 0) := ⟨_, rfl⟩
      obtain ⟨bl, hbl⟩ : ∃ y, y = decide (j = K - 1) := ⟨_, rfl⟩
      have hch : chV b o len j = .slice (some ⟨b, ob, none⟩) cl cl := by unfold chV; rw [hcl, hob]
      rw [← hcl] at rbC cl0 cl40
      rw [← hob] at rbC
      have HOr : wr.ownsRow w.heap.size 272 4 (.slice (some ⟨gp, 0, none⟩) K cp) K (pcsC num b o len K) := ownsRow_keep HO1.out HK.out (fun g' e1 e2 => by
        have e' : some gp = some g' := e1
        injection e' with e'
        have h9 := (ownBlock_lt HO1.out (g := gp) rfl).1
        have := HB.out
        omega)
      obtain ⟨g0, g1, g2, g3⟩ := pcs_get (z := num) (b := b) (o := o) (len := len) hlt
      rw [hch] at g1
      rw [← hbf] at g2
      rw [← hbl] at g3
      have c0 := HOr.cells (g := gp) rfl _ _ g0
      have c1 := HOr.cells (g := gp) rfl _ _ g1
      have c2 := HOr.cells (g := gp) rfl _ _ g2
      have c3 := HOr.cells (g := gp) rfl _ _ g3
      rw [Addr.add_mid, Nat.zero_add] at c0 c1 c2 c3
      rw [Nat.add_zero] at c0
      obtain ⟨kk, hkk⟩ : ∃ kk, k - j = kk + 1 := ⟨k - j - 1, by have := HB.out; omega⟩
      obtain ⟨capz, lz, ipz, frz⟩ := HW.out.ip
      rw [hkk] at frz
      have hlz := frz.len
      obtain ⟨p1, p2, p3⟩ := frz.pop
      obtain ⟨E, hE⟩ : ∃ E, E = e + j := ⟨_, rfl⟩
      rw [← hE] at p1 p2 p3
      obtain ⟨t6, ht6⟩ : ∃ t, t = wr.heap.size := ⟨_, rfl⟩
      obtain ⟨w5, hw5⟩ : ∃ y, y = wr.alloc (.cells #[.int .i64 num, .slice (some ⟨b, ob, none⟩) cl cl, .bool bf, .bool bl] 272) := ⟨_, rfl⟩
      have k5 : Kp (fun _ => False) wr w5 := by rw [hw5]; exact (Kp.refl _ _).alloc _
      have l6 : Lv w5 t6 [.int .i64 num, .slice (some ⟨b, ob, none⟩) cl cl, .bool bf, .bool bl] := by rw [hw5, ht6]; exact Lv.new _ _ _
      have ip5 := ipz.keep0 k5
      have HIp5 : Hid (Ip w5 g 6 gf capz [.pointer (some ⟨bp, 0, none⟩), .int .i64 s, .int .i64 aa, .int .i64 ab, .int .i64 ac, .int .i64 ad] [.int .i64 lt] lz ∧ lz.length = kk + 1 ∧ Free (popIL lz) (E + 1) kk) := ⟨ip5, hlz, p3⟩
      have d0 : w5.cell? ⟨g, 0, none⟩ = some (.pointer (some ⟨bp, 0, none⟩)) := ip5.lv.cell (j := 0) rfl
      have d1 : w5.cell? ⟨g, 1, none⟩ = some (.int .i64 s) := ip5.lv.cell (j := 1) rfl
      have d6 : w5.cell? ⟨g, 6, none⟩ = some (.slice (some ⟨gf, 0, none⟩) (kk + 1) capz) := by have := ip5.c0; rw [hlz] at this; exact this
      have df : w5.cell? ⟨gf, 0, none⟩ = some (.int .i64 (E : Int)) := by have := ip5.cn (j := 0) (by omega); rw [p1] at this; exact this
      have hm6 : m ≠ t6 := by have h8 := HB.out; have h9 := HK1.out.size; have h10 := HK.out.size; omega
      have HSS : Hid (∀ z, Kp (fun x => x = m) w5 z → Kp (fun x => x = m) w5 z ∧ z.cell? ⟨g, 0, none⟩ = some (.pointer (some ⟨bp, 0, none⟩)) ∧ z.cell? ⟨g, 1, none⟩ = some (.int .i64 s) ∧ z.cell? ⟨g, 6, none⟩ = some (.slice (some ⟨gf, 0, none⟩) (kk + 1) capz) ∧ z.cell? ⟨gf, 0, none⟩ = some (.int .i64 (E : Int)) ∧ z.cell? ⟨t6, 0, none⟩ = some (.int .i64 num) ∧ z.cell? ⟨t6, 1, none⟩ = some (.slice (some ⟨b, ob, none⟩) cl cl) ∧ z.cell? ⟨t6, 2, none⟩ = some (.bool bf) ∧ z.cell? ⟨t6, 3, none⟩ = some (.bool bl)) := fun z kz =>
        ⟨kz, kz.cellv d0 HNe.out.2.1, kz.cellv d1 HNe.out.2.1, kz.cellv d6 HNe.out.2.1, kz.cellv df HNe.out.2.2.2.2.1, kz.cellv (l6.cell (j := 0) rfl) (Ne.symm hm6), kz.cellv (l6.cell (j := 1) rfl) (Ne.symm hm6), kz.cellv (l6.cell (j := 2) rfl) (Ne.symm hm6), kz.cellv (l6.cell (j := 3) rfl) (Ne.symm hm6)⟩
      obtain ⟨sc, hsc⟩ : ∃ sc, sc = 2 + E % s := ⟨_, rfl⟩
      have hscn : sc < n := by have := HB.out; have := Nat.mod_lt E (show 0 < s by omega); omega
      have H1 : Hid (∀ u, Calls Tryz.prog 168 #[ringV bp s, .int .i64 (E : Int)] u fun e9 w' => e9 = .returned (.int .i64 (sc : Int)) ∧ Kp (fun _ => False) u w') := fun u => by
        rw [hsc]
        exact rsector_ok bp s E u (by have := HB.out; omega) (by have := HB.out; omega) (by have := HB.out; have := HKK.out; omega)
      have HKw5 : Hid (Kp (fun x => x = m ∨ x = g ∨ x = gf) w w5) := ((HK1.out.mono (fun _ _ e => e.elim)).trans HK.out (fun _ _ e => e)).trans k5 (fun _ _ e => e.elim)
      obtain ⟨X, hX⟩ : ∃ X, X = secJ (lt + 1) ys K j := ⟨_, rfl⟩
      have hXe : pcB (u64Of num) ((ys.drop (40 * j)).take 40) bf bl = X := by
        rw [hX]
        unfold secJ
        have hu : u64Of num = lt + 1 := by
          rw [HNm.out.1]
          unfold u64Of
          have := HNm.out.2
          omega
        rw [hu, ← hbf, ← hbl]
      have H2 : Hid (∀ u, Kp (fun x => x = m) w5 u → Calls Tryz.prog 169 #[pcV num (.slice (some ⟨b, ob, none⟩) cl cl) bf bl] u fun e9 w' => ∃ g9, u.heap.size ≤ g9 ∧ e9 = .returned (.slice (some ⟨g9, 0, none⟩) 64 64) ∧ Kp (fun _ => False) u w' ∧ Rb w' (some ⟨g9, 0, none⟩) 64 X) := fun u ku => by
        have hku : Kp (fun x => x = m ∨ x = g ∨ x = gf) w u := HKw5.out.trans ku (fun _ _ e => Or.inl e)
        refine (psector_ok num (some ⟨b, ob, none⟩) cl cl _ bf bl u (rbC.keep hku (fun a ha _ => ?_)) cl0 (by omega) (fun i hi => hku.cellv (HT.out i hi) (fun e => ?_))).mono ?_
        · cases ha
          intro e
          have := HNe.out
          have e' : b = m ∨ b = g ∨ b = gf := e
          omega
        · have e' : (0 : Nat) = m ∨ (0 : Nat) = g ∨ (0 : Nat) = gf := e
          have := HNe.out
          omega
        · rintro e9 w' ⟨g9, hg9, he, hk, hb⟩
          rw [hXe] at hb
          exact ⟨g9, hg9, he, hk, hb.rb⟩
      have HPt5 : Hid (Pt w5 bp d m n (q + j) dur (wrT T s e (lt + 1) ys K j)) := HQ.out.keep0 k5
      have H3 : Hid (∀ u g9, Kp (fun _ => False) w5 u → Rb u (some ⟨g9, 0, none⟩) 64 X → Calls Tryz.prog 167 #[ringV bp s, .int .i64 (sc : Int), .slice (some ⟨g9, 0, none⟩) 64 64] u fun e9 w' => e9 = .returned .nilIface ∧ Kp (fun x => x = m) u w' ∧ Pt w' bp d m n (q + (j + 1)) dur (wrT T s e (lt + 1) ys K (j + 1))) := fun u g9 ku hb => by
        refine (rwrite_ok (HPt5.out.keep0 ku) (by have := HB.out; have := HKK.out; omega) s sc (by omega) g9 0 64 X hb).mono ?_
        rintro e9 w' ⟨he, hk, hp⟩
        refine ⟨he, hk, ?_⟩
        have e1 : (fun i => if i = sc then some X else wrT T s e (lt + 1) ys K j i) = wrT T s e (lt + 1) ys K (j + 1) := by
          funext i
          rw [hsc, hX, hE]
          rfl
        rw [e1, Nat.add_assoc] at hp
        exact hp
      have hn0 : (0 : Int) < ((kk + 1 : Nat) : Int) := by omega
      have HE : Hid (E = e + j ∧ k - j = kk + 1) := ⟨hE, hkk⟩
      clear hE hkk
      clear HOr g0 g1 g2 g3 hch hcl hob hbf hbl rbC cl0 cl40 ipz frz hlz p1 p2 p3 ip5 d0 d1 d6 df l6 hsc hX hXe hscn hjlen
      go_upto_region 4 with fail
      rw [← hw5, ← ht6]
      have HKr5 : Hid (Kp (fun _ => False) wr w5) := k5
      clear hw5 ht6 k5 c0 c1 c2 c3
      have kd : Kp (fun x => x = m) w5 w5.drew := (Kp.refl _ _).drew
      have kf : Kp (fun _ => False) w5 w5.drew := (Kp.refl _ _).drew
      have HTr : Hid (∀ u u' : World, Kp (fun _ => False) w5 u → Kp (fun _ => False) u u' → Kp (fun _ => False) w5 u') := fun u u' h1 h2 => h1.trans h2 (fun _ _ e => e)
      have HTm : Hid (∀ u, Kp (fun _ => False) w5 u → Kp (fun x => x = m) w5 u) := fun u h => h.mono (fun _ _ e => e.elim)
      have HTw : Hid (∀ u u' : World, Kp (fun _ => False) w5 u → Kp (fun x => x = m) u u' → Kp (fun x => x = m) w5 u') := fun u u' h1 h2 => (h1.mono (fun _ _ e => e.elim)).trans h2 (fun _ _ e => e)
      go_region_held3 (fun z => Kp (fun x => x = m) w5 z ∧ z.cell? ⟨g, 0, none⟩ = some (.pointer (some ⟨bp, 0, none⟩)) ∧ z.cell? ⟨g, 1, none⟩ = some (.int .i64 s) ∧ z.cell? ⟨g, 6, none⟩ = some (.slice (some ⟨gf, 0, none⟩) (kk + 1) capz) ∧ z.cell? ⟨gf, 0, none⟩ = some (.int .i64 (E : Int)) ∧ z.cell? ⟨t6, 0, none⟩ = some (.int .i64 num) ∧ z.cell? ⟨t6, 1, none⟩ = some (.slice (some ⟨b, ob, none⟩) cl cl) ∧ z.cell? ⟨t6, 2, none⟩ = some (.bool bf) ∧ z.cell? ⟨t6, 3, none⟩ = some (.bool bl))
        (first
          | exact HSS.out _ kd
          | exact HSS.out _ km1
          | exact HSS.out _ km2
          | exact HSS.out _ km3)
        (first
          | (go_at_call 168; refine (H1.out _).mono ?_; rintro e9 wA ⟨rfl, kA⟩; have kw1 := HTr.out _ _ kf kA; have km1 := HTm.out _ kw1)
          | (go_at_call 169; refine (H2.out _ km1).mono ?_; rintro e9 wB ⟨g9, hg9, rfl, kB, rb9⟩; have kw2 := HTr.out _ _ kw1 kB; have km2 := HTm.out _ kw2)
          | (go_at_call 167; refine (H3.out _ _ kw2 rb9).mono ?_; rintro e9 wX ⟨rfl, kX, pX⟩; have km3 := HTw.out _ _ kw2 kX))
      all_goals
        have HPX : Hid (Pt wX bp d m n (q + (j + 1)) dur (wrT T s e (lt + 1) ys K (j + 1))) := pX
        have HKX : Hid (Kp (fun x => x = m) w5 wX) := km3
        have HIX : Hid (Ip wX g 6 gf capz [.pointer (some ⟨bp, 0, none⟩), .int .i64 s, .int .i64 aa, .int .i64 ab, .int .i64 ac, .int .i64 ad] [.int .i64 lt] lz) := HIp5.out.1.keep km3 HNe.out.2.1 HNe.out.2.2.2.2.1
        have HPo : Hid (Calls _ _ _ wX _) := heapPopI HIX.out (by have h9 := HIp5.out.2.1; have := HB.out; have := HE.out; omega)
        clear pX kX kB kA rb9 hg9 kw1 kw2 km1 km2 km3 kd kf hm6
        go_simp
        go_wp2_with fail
        refine HPo.out.mono ?_
        rintro e9 wY ⟨rfl, kY, ipY⟩
        have HF : Hid (Kp (fun x => x = m ∨ x = g ∨ x = gf) w1 wY ∧ Wl wY g bp s gf ⟨aa, ab, ac, ad⟩ lt (e + (j + 1)) (k - (j + 1)) ∧ Pt wY bp d m n (q + (j + 1)) dur (wrT T s e (lt + 1) ys K (j + 1))) := by
          refine ⟨((HK.out.trans HKr5.out (fun _ _ e => e.elim)).trans HKX.out (fun _ _ e => Or.inl e)).trans kY (fun _ _ e => Or.inr e), ?_, HPX.out.keep kY (fun e9 => by
            have e' : bp = g ∨ bp = gf := e9
            have := HNe.out
            omega) (fun e9 => by
            have e' : d = g ∨ d = gf := e9
            have := HNe.out
            omega) (fun e9 => by
            have e' : m = g ∨ m = gf := e9
            have := HNe.out
            omega)⟩
          have h9 := Wl.of_ip (A := ⟨aa, ab, ac, ad⟩) ipY HIp5.out.2.2
          have h10 := HE.out
          rw [show e + (j + 1) = E + 1 by omega, show k - (j + 1) = kk by omega]
          exact h9
        clear kY ipY HPo
        go_wp2
        go_roundg (K - (j + 1))
        case rel => exact ⟨j + 1, by omega, rfl, by first | rw [hwj] | simp, HF.out.1, HF.out.2.1, HF.out.2.2⟩
        case measure => omega
    · have hjK : j = K := by omega
      subst hjK
      have hlt2 : ¬ ((j : Int) < (j : Int)) := by omega
      obtain ⟨capz, lz, ipz, frz⟩ := HW.out.ip
      have v7 : wr.cell? ⟨g, 7, none⟩ = some (.int .i64 (lt : Int)) := ipz.lv.cell (j := 7) rfl
      have f7 : wr.frozen? ⟨g, 7, none⟩ = false := ipz.lv.fz (j := 7) (by simp)
      have hwl : wrap64 ((lt : Int) + 1) = num := by rw [HNm.out.1]; have := HNm.out.2; unfold wrap64; omega
      obtain ⟨w5, hw5⟩ : ∃ y, y = wr.setCell ⟨g, 7, none⟩ (.int .i64 num) := ⟨_, rfl⟩
      have k5 : Kp (fun x => x = g) wr w5 := by rw [hw5]; exact kp_set
      have hl5 : Lv w5 g [.pointer (some ⟨bp, 0, none⟩), .int .i64 s, .int .i64 aa, .int .i64 ab, .int .i64 ac, .int .i64 ad, .slice (some ⟨gf, 0, none⟩) lz.length capz, .int .i64 num] := by
        rw [hw5]
        exact ipz.lv.set1 7 (.int .i64 num) (by simp)
      have HF : Hid (Kp (fun x => x = m ∨ x = g ∨ x = gf) w w5 ∧ Pt w5 bp d m n (q + j) dur (wrT T s e (lt + 1) ys j j) ∧ Wl w5 g bp s gf ⟨aa, ab, ac, ad⟩ ((lt + 1 : Nat) : Int) (e + j) (k - j)) := by
        refine ⟨((HK1.out.mono (fun _ _ e => e.elim)).trans HK.out (fun _ _ e => e)).trans k5 (fun _ _ e => Or.inr (Or.inl e)), HQ.out.keep k5 HNe.out.2.2.1 (fun e => HNe.out.1 e.symm) (fun e => HNe.out.2.1 e.symm), ?_⟩
        rw [← HNm.out.1]
        exact Wl.of_ip ⟨hl5, rfl, ownsRow_keep ipz.ow k5 (fun g' e e2 => by have e' : some gf = some g' := e; injection e' with e'; have := ipz.ne; omega), ipz.ne⟩ frz
      clear ipz frz k5 hl5
      go_wp2
      rw [← hw5]
      go_ret
      exact ⟨rfl, HF.out⟩
end Go.Proofs.YtippipeebkkghaaGreatDoor
