/- Texts of this proof, joined: Jrn, Jro, Jra. -/
import Derived.Test.YtmooddbhcccicaaGreatDoorMgBC
import Derived.Test.YtmooddbhcccicaaGreatDoorMgAY
/- A stock written anew: the records that count, as a history of their own (plain). -/
namespace Go.Proofs.YtmooddbhcccicaaGreatDoor
set_option linter.unusedVariables false
set_option linter.unusedSimpArgs false

/-- a thing's sectors -/
def fS (h : List Rc) (x : K3) : Int := match (stS h).1 x with | some o => (secS o : Int) | none => 0
def sumI (l : List Int) : Int := l.foldr (· + ·) 0
theorem sumI_cons (a : Int) (l : List Int) : sumI (a :: l) = a + sumI l := rfl
theorem sumI_zero : ∀ l : List K3, sumI (l.map fun _ => (0 : Int)) = 0
  | [] => rfl
  | a :: l => by rw [List.map_cons, sumI_cons, sumI_zero l]; rfl
/-- two sums that differ at one place alone -/
theorem sum_at {f g : K3 → Int} {z : K3} : ∀ (l : List K3), l.Nodup → z ∈ l → (∀ x ∈ l, x ≠ z → f x = g x) → sumI (l.map f) = sumI (l.map g) - g z + f z
  | [], _, h, _ => absurd h List.not_mem_nil
  | x :: l, hn, hz, he => by
    rw [List.map_cons, List.map_cons, sumI_cons, sumI_cons]
    have hn2 := List.nodup_cons.1 hn
    by_cases e : x = z
    · subst e
      have hsame : l.map f = l.map g := List.map_congr_left (fun y hy => he y (List.mem_cons_of_mem _ hy) (fun e2 => hn2.1 (e2 ▸ hy)))
      rw [hsame]
      omega
    · have hz2 : z ∈ l := (List.mem_cons.1 hz).resolve_left (fun e2 => e e2.symm)
      rw [sum_at l hn2.2 hz2 (fun y hy hne => he y (List.mem_cons_of_mem _ hy) hne), he x List.mem_cons_self e]
      omega
theorem sum_same {f g : K3 → Int} (l : List K3) (he : ∀ x ∈ l, f x = g x) : sumI (l.map f) = sumI (l.map g) := by rw [List.map_congr_left he]
theorem fS_at (h : List Rc) (r : Rc) (x : K3) : fS (h ++ [r]) x = if x = subS r then (if staysS r = true then (secS r : Int) else 0) else fS h x := by
  unfold fS
  rw [stS_at]
  by_cases h1 : x = subS r
  · rw [if_pos h1, if_pos h1]
    by_cases h2 : staysS r = true
    · rw [if_pos h2, if_pos h2]
    · rw [if_neg h2, if_neg h2]
  · rw [if_neg h1, if_neg h1]
/-- the sectors of all that counts -/
theorem stS_sum (h : List Rc) : ∀ ks : List K3, ks.Nodup → (∀ x o, (stS h).1 x = some o → x ∈ ks) → (stS h).2 = sumI (ks.map (fS h)) := by
  suffices H : ∀ n, ∀ h : List Rc, h.length = n → ∀ ks : List K3, ks.Nodup → (∀ x o, (stS h).1 x = some o → x ∈ ks) → (stS h).2 = sumI (ks.map (fS h)) from H _ h rfl
  intro n
  induction n with
  | zero =>
    intro h hl ks _ _
    rw [List.eq_nil_of_length_eq_zero hl, stS_nil]
    have e : ks.map (fS []) = ks.map (fun _ => (0 : Int)) := List.map_congr_left (fun x _ => by unfold fS; rw [stS_nil])
    rw [e, sumI_zero]
  | succ n ih =>
    intro h hl ks hk hs
    obtain ⟨l, r, rfl⟩ : ∃ l r, h = l ++ [r] := ⟨h.dropLast, h.getLast (by intro e; subst e; simp at hl), (List.dropLast_concat_getLast _).symm⟩
    have hll : l.length = n := by simpa using hl
    have hsup : ∀ x o, (stS l).1 x = some o → x = subS r ∨ x ∈ ks := fun x o ho => by
      by_cases e : x = subS r
      · exact Or.inl e
      · refine Or.inr (hs x o ?_)
        rw [stS_at, if_neg e]
        exact ho
    have hbeh : (stS (l ++ [r])).2 = (stS l).2 - fS l (subS r) + fS (l ++ [r]) (subS r) := by
      rw [stS_snoc, fS_at, if_pos rfl]
      show behS _ _ _ = _
      unfold behS fS
      rfl
    have hne : ∀ x, x ≠ subS r → fS (l ++ [r]) x = fS l x := fun x hx => by rw [fS_at, if_neg hx]
    by_cases hz : subS r ∈ ks
    · have h1 := ih l hll ks hk (fun x o ho => (hsup x o ho).elim (fun e => e ▸ hz) id)
      rw [hbeh, h1, sum_at ks hk hz (fun x _ hx => hne x hx)]
    · have h1 := ih l hll (subS r :: ks) (List.nodup_cons.2 ⟨hz, hk⟩) (fun x o ho => (hsup x o ho).elim (fun e => e ▸ List.mem_cons_self) (List.mem_cons_of_mem _))
      have h2 : fS (l ++ [r]) (subS r) = 0 := by
        unfold fS
        cases hx : (stS (l ++ [r])).1 (subS r) with
        | none => rfl
        | some o => exact absurd (hs _ _ hx) hz
      rw [hbeh, h1, h2, List.map_cons, sumI_cons, sum_same ks (fun x hx => hne x (fun e => hz (e ▸ hx)))]
      omega
/-- records of different things that all stay -/
def Dst3 (l : List Rc) : Prop := (l.map subS).Nodup ∧ ∀ r ∈ l, staysS r = true
theorem dst_at {l : List Rc} : Dst3 l → ∀ x o, (stS l).1 x = some o ↔ o ∈ l ∧ x = subS o := by
  suffices H : ∀ n, ∀ l : List Rc, l.length = n → Dst3 l → ∀ x o, (stS l).1 x = some o ↔ o ∈ l ∧ x = subS o from H _ l rfl
  intro n
  induction n with
  | zero =>
    intro l hl _ x o
    rw [List.eq_nil_of_length_eq_zero hl, stS_nil]
    simp
  | succ n ih =>
    intro h hl hd x o
    obtain ⟨l, r, rfl⟩ : ∃ l r, h = l ++ [r] := ⟨h.dropLast, h.getLast (by intro e; subst e; simp at hl), (List.dropLast_concat_getLast _).symm⟩
    have hd1 : (l.map subS).Nodup ∧ subS r ∉ l.map subS := by
      have h1 := hd.1
      rw [List.map_append] at h1
      have h2 := List.nodup_append.1 h1
      exact ⟨h2.1, fun hm => h2.2.2 _ hm _ (List.mem_singleton.2 rfl) rfl⟩
    have hi := ih l (by simpa using hl) ⟨hd1.1, fun q hq => hd.2 q (List.mem_append_left _ hq)⟩ x o
    rw [stS_at]
    by_cases e : x = subS r
    · rw [if_pos e, if_pos (hd.2 r (List.mem_append_right _ (List.mem_singleton.2 rfl)))]
      constructor
      · intro h1
        cases h1
        exact ⟨List.mem_append_right _ (List.mem_singleton.2 rfl), e⟩
      · rintro ⟨h1, h2⟩
        rcases List.mem_append.1 h1 with h1 | h1
        · exact absurd (List.mem_map.2 ⟨o, h1, by rw [← h2, e]⟩) hd1.2
        · rw [List.mem_singleton.1 h1]
    · rw [if_neg e, hi]
      constructor
      · rintro ⟨h1, h2⟩
        exact ⟨List.mem_append_left _ h1, h2⟩
      · rintro ⟨h1, h2⟩
        rcases List.mem_append.1 h1 with h1 | h1
        · exact ⟨h1, h2⟩
        · rw [List.mem_singleton.1 h1] at h2
          exact absurd h2 e
/-- all that counts, in order -/
def ckL (h : List Rc) (ss : List K3) : List Rc := (srt3 ss).filterMap (stS h).1
theorem ckL_mem {h : List Rc} {ss : List K3} (hs : Ths h ss) {o : Rc} : o ∈ ckL h ss → (stS h).1 (subS o) = some o ∧ staysS o = true ∧ subS o ∈ ss := fun ho => by
  obtain ⟨x, hx, hxo⟩ := List.mem_filterMap.1 ho
  obtain ⟨e1, e2⟩ := stS_sub h x o hxo
  rw [← e1]
  exact ⟨hxo, e2, (srt3_mem ss x).1 hx⟩
theorem ckL_sub {h : List Rc} : ∀ (l : List K3), (∀ x ∈ l, ∃ o, (stS h).1 x = some o) → (l.filterMap (stS h).1).map subS = l
  | [], _ => rfl
  | x :: l, hs => by
    obtain ⟨o, ho⟩ := hs x List.mem_cons_self
    rw [List.filterMap_cons_some ho, List.map_cons, ← (stS_sub h x o ho).1, ckL_sub l (fun y hy => hs y (List.mem_cons_of_mem _ hy))]
theorem ckL_dst {h : List Rc} {ss : List K3} (hs : Ths h ss) : Dst3 (ckL h ss) ∧ (ckL h ss).map subS = srt3 ss := by
  have h1 : (ckL h ss).map subS = srt3 ss := ckL_sub (srt3 ss) (fun x hx => ((hs.2 x).1 ((srt3_mem ss x).1 hx)).2)
  refine ⟨⟨?_, fun r hr => (ckL_mem hs hr).2.1⟩, h1⟩
  rw [h1]
  exact (List.mergeSort_perm ss _).nodup_iff.2 hs.1
/-- what is written anew comes to the same -/
theorem ckL_same {h : List Rc} {ss : List K3} (hs : Ths h ss) (hw : ∀ x o, (stS h).1 x = some o → wf3 x) : (stS (ckL h ss)).1 = (stS h).1 ∧ (stS (ckL h ss)).2 = (stS h).2 := by
  have h1 : (stS (ckL h ss)).1 = (stS h).1 := by
    funext x
    have hd := dst_at (ckL_dst hs).1 x
    cases hx : (stS h).1 x with
    | none =>
      cases hy : (stS (ckL h ss)).1 x with
      | none => rfl
      | some o =>
        obtain ⟨h2, h3⟩ := (hd o).1 hy
        have := (ckL_mem hs h2).1
        rw [← h3, hx] at this
        cases this
    | some o =>
      refine (hd o).2 ⟨List.mem_filterMap.2 ⟨x, (srt3_mem ss x).2 ((hs.2 x).2 ⟨hw x o hx, o, hx⟩), hx⟩, (stS_sub h x o hx).1⟩
  refine ⟨h1, ?_⟩
  rw [stS_sum (ckL h ss) ss hs.1 (fun x o ho => (hs.2 x).2 ⟨hw x o (h1 ▸ ho), o, h1 ▸ ho⟩), stS_sum h ss hs.1 (fun x o ho => (hs.2 x).2 ⟨hw x o ho, o, ho⟩)]
  refine sum_same ss (fun x _ => ?_)
  unfold fS
  rw [h1]
/-- and takes so many sectors -/
theorem dst_tot : ∀ {l : List Rc}, Dst3 l → (totW (l.map wrS) : Int) = (stS l).2 := by
  intro l
  suffices H : ∀ n, ∀ l : List Rc, l.length = n → Dst3 l → (totW (l.map wrS) : Int) = (stS l).2 from H _ l rfl
  intro n
  induction n with
  | zero =>
    intro l hl _
    rw [List.eq_nil_of_length_eq_zero hl, stS_nil]
    rfl
  | succ n ih =>
    intro h hl hd
    obtain ⟨l, r, rfl⟩ : ∃ l r, h = l ++ [r] := ⟨h.dropLast, h.getLast (by intro e; subst e; simp at hl), (List.dropLast_concat_getLast _).symm⟩
    have hd1 : (l.map subS).Nodup ∧ subS r ∉ l.map subS := by
      have h1 := hd.1
      rw [List.map_append] at h1
      have h2 := List.nodup_append.1 h1
      exact ⟨h2.1, fun hm => h2.2.2 _ hm _ (List.mem_singleton.2 rfl) rfl⟩
    have hdl : Dst3 l := ⟨hd1.1, fun q hq => hd.2 q (List.mem_append_left _ hq)⟩
    have h1 := ih l (by simpa using hl) hdl
    rw [List.map_append, totW_app, stS_snoc]
    show ((totW (l.map wrS) + secS r : Nat) : Int) = behS _ _ _
    unfold behS
    have hno : (stS l).1 (subS r) = none := by
      cases hx : (stS l).1 (subS r) with
      | none => rfl
      | some o =>
        obtain ⟨h2, h3⟩ := (dst_at hdl _ _).1 hx
        exact absurd (List.mem_map.2 ⟨o, h2, h3.symm⟩) hd1.2
    rw [hno, if_pos (hd.2 r (List.mem_append_right _ (List.mem_singleton.2 rfl)))]
    dsimp only
    omega
end Go.Proofs.YtmooddbhcccicaaGreatDoor

/- A stock's bytes: written. -/
namespace Go.Proofs.YtmooddbhcccicaaGreatDoor
set_option linter.unusedVariables false
set_option linter.unusedSimpArgs false
open Go.RowKit Go.Deep Go.Maps

set_option maxRecDepth 100000 in
set_option maxHeartbeats 6400000 in
theorem swritten_ok {w : World} {Z : Nat → Prop} {sh mp g : Nat} {h : List Rc} (x : Sk w Z sh mp g h) :
    Calls Tryz.prog 84 #[.pointer (some ⟨sh, 1, none⟩)] w fun e w' => ∃ v ss, e = .returned v ∧ Kp (fun _ => False) w w' ∧ Rw w' w.heap.size v ((ckL h ss).map wrS) ∧ Ths h ss ∧ ss.length ≤ 1000 := by
  have HA : Hid (Calls _ _ _ w _) := sall_ok x
  have HX : Hid (Sk w Z sh mp g h) := x
  clear x
  go_enter Tryz.func84, Tryz.ntmps84
  go_wp2_with fail
  refine HA.out.mono ?_
  rintro e9 w2 ⟨v2, ss, G, rfl, k2, r2, hT, hG⟩
  have HLn : Hid ((srt3 ss).length ≤ 1000 ∧ ss.length ≤ 1000) := by
    have := hT.len HX.out
    exact ⟨by rw [srt3_len]; exact this, this⟩
  obtain ⟨L, hL⟩ : ∃ L, L = srt3 ss := ⟨_, rfl⟩
  rw [← hL] at r2 HLn
  obtain ⟨pp, cc, rfl, hc⟩ := r2
  have HR : Hid (∀ j, j < L.length → ∃ g o, pp = some ⟨g, o, none⟩ ∧ w.heap.size ≤ g ∧ ∀ r u, (cE G (L.getD j default))[r]? = some u → w2.cell? ⟨g, o + j * 5 + r, none⟩ = some u) := hc
  have HGo : Hid (∀ j, j < L.length → ∃ o, (stS h).1 (L.getD j default) = some o ∧ (L.getD j default).k = (o.k : Int) ∧ (L.getD j default).n = (o.n : Int) ∧ (L.getD j default).i = (o.i : Int) ∧ (G (L.getD j default)).e = (o.e : Int) ∧ (G (L.getD j default)).n = o.b.length ∧ Rb w2 (G (L.getD j default)).p o.b.length o.b ∧ GoodR o) := fun j hj => by
    have hm : L.getD j default ∈ ss := by
      rw [← srt3_mem, ← hL, List.getD_eq_getElem?_getD, List.getElem?_eq_getElem hj]
      exact List.getElem_mem hj
    obtain ⟨hw, o, ho⟩ := (hT.2 _).1 hm
    obtain ⟨a1, a2, a3, a4, a5, a6, a7, a8⟩ := hG _ o hw ho
    exact ⟨o, ho, a1, a2, a3, a4, a5, a6.keep0 k2, a8⟩
  have HF : Hid (Ths h ss ∧ L = srt3 ss ∧ Kp (fun _ => False) w w2 ∧ ss.length ≤ 1000) := ⟨hT, hL, k2, HLn.out.2⟩
  obtain ⟨n, hn⟩ : ∃ n, n = L.length := ⟨_, rfl⟩
  have HN : Hid (n = L.length ∧ n ≤ 1000) := ⟨hn, by rw [hn]; exact HLn.out.1⟩
  rw [← hn] at HR HGo
  rw [← hn]
  clear hc hG hT hL k2 HLn HA HX hn
  go_wp2_with fail
  go_loopg [3, 9] n (fun gk v iv wr => ∃ (j : Nat) (v1 : Value), j ≤ n ∧ gk = n - j ∧ v = v1 ∧ iv = .int .i64 (j : Int) ∧ Hid (Kp (fun _ => False) w2 wr ∧ Rw wr w2.heap.size v1 (((L.take j).filterMap (stS h).1).map wrS)))
  case atStart => exact ⟨0, _, Nat.zero_le _, rfl, rfl, rfl, Kp.refl _ _, Rw.nil _ _⟩
  case round =>
    obtain ⟨j, v1, hj, rfl, hvv, rfl, HK⟩ := hrel
    have hv2 := hvv.symm
    subst hv2
    clear hvv
    by_cases hlt : j < n
    · have hlt2 : (j : Int) < (n : Int) := by omega
      obtain ⟨g0, o0, hpp, hz0, hcs⟩ := HR.out j hlt
      obtain ⟨o, ho, a1, a2, a3, a4, a5, a6, a7⟩ := HGo.out j hlt
      have hjL : j < L.length := by rw [← HN.out.1]; exact hlt
      have HSn : Hid (((L.take (j + 1)).filterMap (stS h).1).map wrS = ((L.take j).filterMap (stS h).1).map wrS ++ [wrS o]) := by
        show _ = _
        rw [take_snoc3 L j hjL, List.filterMap_append, List.map_append]
        congr 1
        rw [List.filterMap_cons_some ho]
        rfl
      obtain ⟨y, hy⟩ : ∃ y, y = L.getD j default := ⟨_, rfl⟩
      rw [← hy] at ho a1 a2 a3 a4 a5 a6 hcs
      obtain ⟨⟨ge, gp, gn, gc⟩, hgy⟩ : ∃ z, z = G y := ⟨_, rfl⟩
      have hk : Kp (fun _ => False) w2 wr := HK.out.1
      have q0 := hk.cellv (hcs 0 _ rfl) id
      have q1 := hk.cellv (hcs 1 _ rfl) id
      have q2 := hk.cellv (hcs 2 _ rfl) id
      have q3 := hk.cellv (hcs 3 _ rfl) id
      have q4 := hk.cellv (hcs 4 _ rfl) id
      rw [← hgy] at q3 q4 a4 a5 a6
      dsimp only at q3 q4 a4 a5 a6
      rw [a1] at q0
      rw [a2] at q1
      rw [a3] at q2
      rw [a4] at q3
      rw [a5] at q4
      rw [Nat.add_zero] at q0
      subst hpp
      have hw1 : wrap64 ((j : Int) + 1) = ((j + 1 : Nat) : Int) := by have := HN.out.2; unfold wrap64; omega
      obtain ⟨wb, hwb⟩ : ∃ z, z = wr.alloc (.cells #[.int .i64 (o.k : Int), .int .i64 (o.n : Int), .int .i64 (o.i : Int), .int .i64 (o.e : Int), .slice gp o.b.length gc] 85) := ⟨_, rfl⟩
      have kb : Kp (fun _ => False) wr wb := by rw [hwb]; exact (Kp.refl _ _).alloc _
      have HWr : Hid (Calls Tryz.prog 86 #[.agg #[.int .i64 (o.k : Int), .int .i64 (o.n : Int), .int .i64 (o.i : Int), .int .i64 (o.e : Int), .slice gp o.b.length gc]] wb _) := written_ok o gp gc wb ((a6.keep0 hk).keep0 kb) a7
      have HKb : Hid (Kp (fun _ => False) wr wb) := kb
      have HJ : Hid (j < n) := hlt
      have HWb : Hid (∀ y ∈ wrS o, y < 256) := wrS_b a7
      clear hcs ho a1 a2 a3 a4 a5 a6 a7 hgy hk hy hlt hz0 hjL kb
      go_wp2_with fail
      rw [← hwb]
      clear hwb q0 q1 q2 q3 q4
      refine HWr.out.mono ?_
      rintro e9 wc ⟨u, rfl, kc, oc⟩
      obtain ⟨wd, hwd⟩ : ∃ z, z = wc.alloc (.cells #[u] 34) := ⟨_, rfl⟩
      have kd : Kp (fun _ => False) wc wd := by rw [hwd]; exact (Kp.refl _ _).alloc _
      have krd : Kp (fun _ => False) wr wd := (HKb.out.trans kc (fun _ _ e => e)).trans kd (fun _ _ e => e)
      obtain ⟨pu, cu, rfl⟩ := own_form oc
      have HCd : Hid (wd.cell? ⟨wc.heap.size, 0, none⟩ = some (.slice pu (wrS o).length cu)) := by rw [hwd]; exact (show Lv _ _ [.slice pu (wrS o).length cu] from Lv.new wc _ _).cell (j := 0) rfl
      obtain ⟨vs, r1, r3, r4⟩ := HK.out.2.keep0 krd
      obtain ⟨ln, hln⟩ : ∃ ln, ln = (((L.take j).filterMap (stS h).1).map wrS).length := ⟨_, rfl⟩
      have hlnb : ln ≤ 1000 := by
        rw [hln, List.length_map]
        have h2 : ((L.take j).filterMap (stS h).1).length ≤ (L.take j).length := List.length_filterMap_le _ _
        rw [List.length_take] at h2
        have := HN.out
        omega
      have HO1 : Hid (wd.ownsRow w2.heap.size 34 1 v1 ln vs ∧ ln ≤ 1000 ∧ w2.heap.size ≤ wd.heap.size) := ⟨by rw [hln]; exact r1, hlnb, Nat.le_trans HK.out.1.size krd.size⟩
      have HAp : Hid (∀ v' w', w'.ownsRow w2.heap.size 34 1 v' (ln + 1) (vs ++ [.slice pu (wrS o).length cu]) → Kp (fun b => v1.ownBlock = some b) wd w' → (v'.ownBlock = v1.ownBlock ∨ v'.ownBlock = some wd.heap.size) → Kp (fun _ => False) w2 w' ∧ Rw w' w2.heap.size v' (((L.take (j + 1)).filterMap (stS h).1).map wrS)) := fun v' w' o7 k7 hv7 => by
        have hzw : w2.heap.size ≤ wb.heap.size := Nat.le_trans HK.out.1.size HKb.out.size
        refine ⟨(HK.out.1.trans krd (fun _ _ e => e)).trans k7 (fun b hb e => by have := (ownBlock_lt HO1.out.1 e).1; omega), ?_⟩
        rw [HSn.out]
        refine Rw.app (v := v1) r3 r4 (ownsRow_base (ownsRow_keep oc kd (fun _ _ e => e)) hzw) (fun b e e2 => ?_) (by rw [hln] at o7; exact o7) k7 hv7
        have h1 := (ownBlock_lt oc e2).1
        have h2 := (ownBlock_lt HK.out.2.choose_spec.1 e).2
        have h3 := HKb.out.size
        omega
      obtain ⟨M, hM⟩ : ∃ M, M = (wrS o).length := ⟨_, rfl⟩
      rw [← hM] at HCd HAp
      rw [← hM] at hwd
      rw [← hM]
      clear kc oc kd krd r1 r3 r4 hln hlnb hM HWr HWb HSn
      go_wp2_with (refine wpList_append_text (wc.alloc (.cells #[.slice pu M cu] 34)) rfl _ _ rfl w2.heap.size v1 ln vs (.slice pu M cu) wc.heap.size rfl (by rw [← hwd]; exact HO1.out.1) rfl rfl (by rw [← hwd]; exact HCd.out) (by have := HO1.out.2.1; omega) (by rw [← hwd]; exact HO1.out.2.2) ?_; intro v7 w7 o7 k7 hv7; rw [← hwd] at k7 hv7)
      have HF9 : Hid (Kp (fun _ => False) w2 w7 ∧ Rw w7 w2.heap.size v7 (((L.take (j + 1)).filterMap (stS h).1).map wrS)) := HAp.out v7 w7 o7 k7 hv7
      clear o7 k7 hv7 HAp HO1 HCd hwd HK HKb
      go_roundg (n - (j + 1))
      case rel => exact ⟨j + 1, v7, HJ.out, rfl, rfl, by first | rw [hw1] | (simp; done), HF9.out⟩
      case measure => exact Nat.sub_lt_sub_left HJ.out (Nat.lt_succ_self j)
    · have hjn : j = n := by omega
      subst hjn
      have hlt2 : ¬ ((j : Int) < (j : Int)) := by omega
      have HE : Hid (Ths h ss ∧ Kp (fun _ => False) w wr ∧ Rw wr w.heap.size v1 ((ckL h ss).map wrS) ∧ ss.length ≤ 1000) := by
        refine ⟨HF.out.1, HF.out.2.2.1.trans HK.out.1 (fun _ _ e => e), ?_, HF.out.2.2.2⟩
        have h9 := HK.out.2.base HF.out.2.2.1.size
        rw [List.take_of_length_le (Nat.le_of_eq HN.out.1.symm), HF.out.2.1] at h9
        exact h9
      clear HK HR HGo HF
      go_wp2
      go_ret
      exact ⟨v1, rfl, HE.out.2.1, ss, HE.out.2.2.1, HE.out.1, HE.out.2.2.2⟩
end Go.Proofs.YtmooddbhcccicaaGreatDoor

/- A shelf's cursor: next, number, of what is there. -/
namespace Go.Proofs.YtmooddbhcccicaaGreatDoor
set_option linter.unusedVariables false
set_option linter.unusedSimpArgs false
open Go.RowKit Go.Deep Go.Maps

/-- a cursor in memory, at block r, with bytes xs left -/
def Cq (Z : Nat → Prop) (w : World) (r : Nat) (xs : List Nat) : Prop := ∃ q c, Lv w r [.slice q xs.length c] ∧ xs.length ≤ c ∧ Rb w q xs.length xs ∧ ∀ a, q = some a → 0 < xs.length → Z a.block ∧ a.block ≠ r
theorem Cq.keep {S Z : Nat → Prop} {w w' : World} {r : Nat} {xs : List Nat} (h : Cq Z w r xs) (k : Kp S w w') (hr : ¬ S r) (hS : ∀ b, Z b → ¬ S b) : Cq Z w' r xs := by
  obtain ⟨q, c, h1, h2, h3, h4⟩ := h
  refine ⟨q, c, h1.keep k hr, h2, ?_, h4⟩
  by_cases h0 : 0 < xs.length
  · exact h3.keep k (fun a ha _ => hS _ (h4 a ha h0).1)
  · have : xs = [] := List.eq_nil_of_length_eq_zero (by omega)
    subst this
    exact ⟨rfl, h3.byte, fun j hj => absurd hj (Nat.not_lt_zero _)⟩
theorem Cq.keep0 {Z : Nat → Prop} {w w' : World} {r : Nat} {xs : List Nat} (h : Cq Z w r xs) (k : Kp (fun _ => False) w w') : Cq Z w' r xs := h.keep k id (fun _ _ e => e)

theorem slice_rest (p : Option Addr) (n c : Nat) (hc : n ≤ c) (h1 : 1 ≤ n) (w : World) :
    (Instr.sliceAt 34 (.slice p n c) (some (.int .i64 1)) none none).run Tryz.prog w = .ok (.slice (if c = 1 then p else p.map (·.add (1 * 1))) (n - 1) (c - 1)) w := by
  have h : (Instr.slice 34 (.slice p n c) (some (.int .i64 1)) none none).run Tryz.prog w = .ok (.slice (if c = 1 then p else p.map (·.add (1 * 1))) (n - 1) (c - 1)) w := by
    obtain ⟨i, hi, hz⟩ := Option.map_eq_some_iff.1 info5
    simp only [Prod.mk.injEq] at hz
    obtain ⟨hz, hs, hb⟩ := hz
    have h2 : (n : Int) ≤ (c : Int) := by omega
    have h3 : (1 : Int) ≤ (n : Int) := by omega
    have h4 : ¬ n < 1 := by omega
    simp [Instr.slice, Instr.sliceBounds, Instr.sliceBound, asIntOf, run_underlying Tryz.underlying34, sizeOf, typeInfo, hi, hs, h2, h3, hc, h1, h4]
  simp [Instr.sliceAt, run_underlying Tryz.underlying34, h]

set_option maxRecDepth 100000 in
set_option maxHeartbeats 1600000 in
theorem cnext_ok {Z : Nat → Prop} {w : World} {r x : Nat} {t : List Nat} (h : Cq Z w r (x :: t)) :
    Calls Tryz.prog 143 #[.pointer (some ⟨r, 0, none⟩)] w fun e w' => e = .returned (.int .u8 (x : Int)) ∧ Kp (fun b => b = r) w w' ∧ Cq Z w' r t := by
  obtain ⟨q, c, h1, h2, h3, h4⟩ := h
  obtain ⟨b, o, rfl, hb⟩ := h3.pt (show 0 < (x :: t).length by simp)
  have c0 : w.cell? ⟨r, 0, none⟩ = some (.slice (some ⟨b, o, none⟩) (x :: t).length c) := h1.cell (j := 0) rfl
  have f0 : w.frozen? ⟨r, 0, none⟩ = false := h1.fz (j := 0) (by simp)
  have b0 : w.cell? ⟨b, o, none⟩ = some (.int .u8 (x : Int)) := hb 0 (by simp)
  obtain ⟨n, hn⟩ : ∃ n, n = (x :: t).length := ⟨_, rfl⟩
  have hn1 : n = t.length + 1 := by rw [hn]; rfl
  rw [← hn] at c0 h2
  obtain ⟨q2, hq2⟩ : ∃ q2, q2 = (if c = 1 then (some ⟨b, o, none⟩ : Option Addr) else (some ⟨b, o, none⟩ : Option Addr).map (·.add (1 * 1))) := ⟨_, rfl⟩
  have hsl : ∀ z, (Instr.sliceAt 34 (.slice (some ⟨b, o, none⟩) n c) (some (.int .i64 1)) none none).run Tryz.prog z = .ok (.slice q2 (n - 1) (c - 1)) z := fun z => by rw [hq2]; exact slice_rest _ n c h2 (by omega) z
  have HF : Hid (Kp (fun b => b = r) w (w.setCell ⟨r, 0, none⟩ (.slice q2 (n - 1) (c - 1))) ∧ Cq Z (w.setCell ⟨r, 0, none⟩ (.slice q2 (n - 1) (c - 1))) r t) := by
    have k1 : Kp (fun b => b = r) w (w.setCell ⟨r, 0, none⟩ (.slice q2 (n - 1) (c - 1))) := by show Kp _ _ _; exact (Kp.refl (fun b => b = r) w).setCell (fun _ => rfl) _
    have hp := h3.part (by rw [← hn]; exact h2) (l := 1) (r := (x :: t).length) (by simp) (Nat.le_refl _)
    rw [List.take_length, ← hq2] at hp
    have hbr : b ≠ r := (h4 ⟨b, o, none⟩ rfl (by simp)).2
    have hbz : Z b := (h4 ⟨b, o, none⟩ rfl (by simp)).1
    have hqb : ∀ a, q2 = some a → a.block = b := fun a ha => by
      rw [hq2] at ha
      by_cases e : c = 1
      · rw [if_pos e] at ha
        cases ha
        rfl
      · rw [if_neg e] at ha
        have e2 := Option.some.inj ha
        rw [← e2]
        rfl
    have hl : n - 1 = t.length := by omega
    refine ⟨k1, q2, c - 1, ?_, by omega, ?_, fun a ha _ => by rw [hqb a ha]; exact ⟨hbz, hbr⟩⟩
    · rw [← hl]; exact h1.set1 0 _ (by simp)
    · rw [← hl]
      have hp2 : Rb w q2 (n - 1) t := by rw [hn]; exact hp
      exact hp2.keep k1 (fun a ha _ e => hbr (by rw [← hqb a ha]; exact e))
  have hne : ¬ (n : Int) = 0 := by omega
  have hpos : (0 : Int) < (n : Int) := by omega
  clear h1 h2 h3 h4 hb hn hn1 hq2
  go_enter Tryz.func143, Tryz.ntmps143
  go_wp2
  go_ret
  exact ⟨rfl, HF.out⟩

set_option maxRecDepth 100000 in
set_option maxHeartbeats 1600000 in
theorem cnumber_ok {Z : Nat → Prop} {w : World} {r n : Nat} {t : List Nat} (hn : n ≤ 1152921504606846976) (h : Cq Z w r (numB n ++ t)) :
    Calls Tryz.prog 144 #[.pointer (some ⟨r, 0, none⟩)] w fun e w' => e = .returned (.int .i64 (n : Int)) ∧ Kp (fun b => b = r) w w' ∧ Cq Z w' r t := by
  have h8 : numW n ≤ 8 := numW_le (show n < 256 ^ 8 by have : (256 : Nat) ^ 8 = 18446744073709551616 := rfl; omega)
  have HN : Hid (n ≤ 1152921504606846976 ∧ n / 256 ^ numW n = 0) := ⟨hn, Nat.div_eq_of_lt (numW_lt n)⟩
  obtain ⟨K, hK⟩ : ∃ K, K = numW n := ⟨_, rfl⟩
  have HNx : Hid (Calls _ _ _ w _) := cnext_ok (x := numW n) (t := digs (numW n) n ++ t) h
  rw [← hK] at HNx HN h8
  have HK8 : Hid (K ≤ 8) := h8
  clear hK h hn h8
  go_enter Tryz.func144, Tryz.ntmps144
  go_wp2_with fail
  refine HNx.out.mono ?_
  rintro e9 w1 ⟨rfl, k1, q1⟩
  have HQ1 : Hid (Kp (fun b => b = r) w w1 ∧ Cq Z w1 r (digs K n ++ t)) := ⟨k1, q1⟩
  clear k1 q1 HNx
  go_wp2_with fail
  go_loopg [3, 6] K (fun gk av iv wr => ∃ (j a : Nat), j ≤ K ∧ gk = K - j ∧ av = .int .u64 (a : Int) ∧ iv = .int .u8 (j : Int) ∧ Hid (a = n / 256 ^ (K - j) ∧ Kp (fun b => b = r) w wr ∧ Cq Z wr r (digs (K - j) n ++ t)))
  case atStart => exact ⟨0, 0, Nat.zero_le _, rfl, rfl, rfl, HN.out.2.symm, HQ1.out.1, HQ1.out.2⟩
  case round =>
    obtain ⟨j, a, hj, rfl, rfl, rfl, HK⟩ := hrel
    by_cases hlt : j < K
    · have hlt2 : (j : Int) < (K : Int) := by omega
      obtain ⟨m, hm⟩ : ∃ m, K - j = m + 1 := ⟨K - j - 1, by omega⟩
      have hq := HK.out.2.2
      rw [hm] at hq
      obtain ⟨x, hx⟩ : ∃ x, x = (n / 256 ^ m) % 256 := ⟨_, rfl⟩
      have HNx : Hid (Calls _ _ _ wr _) := cnext_ok (x := x) (t := digs m n ++ t) (by rw [hx]; exact hq)
      have ha : a < 256 ^ 7 := by
        have h1 := HK.out.1
        rw [hm] at h1
        rw [h1]
        have h2 := HN.out.1
        refine Nat.div_lt_of_lt_mul ?_
        have h3 : 256 ^ 1 ≤ 256 ^ (m + 1) := Nat.pow_le_pow_right (by decide) (by omega)
        have h4 : 256 ^ 1 * 256 ^ 7 ≤ 256 ^ (m + 1) * 256 ^ 7 := Nat.mul_le_mul_right _ h3
        have h5 : (256 : Nat) ^ 1 * 256 ^ 7 = 18446744073709551616 := rfl
        omega
      have hx8 : x < 256 := by rw [hx]; exact Nat.mod_lt _ (by decide)
      have hor := u64_or_shiftW a x ha hx8
      have hj1 : IntKind.u8.wrap ((j : Int) + 1) = ((j + 1 : Nat) : Int) := by
        have := HK8.out
        simp [IntKind.wrap, IntKind.bits, IntKind.signed]
        omega
      have hxu : IntKind.u64.wrap (x : Int) = (x : Int) := by
        simp [IntKind.wrap, IntKind.bits, IntKind.signed]
        omega
      have HNew : Hid (a * 256 + x = n / 256 ^ (K - (j + 1)) ∧ K - (j + 1) = m) := by
        have h1 := HK.out.1
        rw [hm, Nat.pow_succ, ← Nat.div_div_eq_div_mul] at h1
        have hm2 : K - (j + 1) = m := by omega
        refine ⟨?_, hm2⟩
        rw [hm2, h1, hx]
        omega
      clear hq hx ha hx8 hlt hm
      go_wp2_with fail
      refine HNx.out.mono ?_
      rintro e9 w2 ⟨rfl, k2, q2⟩
      have HF : Hid (Kp (fun b => b = r) w w2 ∧ Cq Z w2 r (digs m n ++ t)) := ⟨HK.out.2.1.trans k2 (fun _ _ e => e), q2⟩
      clear k2 q2 HNx
      go_wp2
      go_roundg (K - (j + 1))
      case rel => exact ⟨j + 1, a * 256 + x, by omega, rfl, by first | rw [hor] | simp, by first | rw [hj1] | simp, HNew.out.1, HF.out.1, by rw [HNew.out.2]; exact HF.out.2⟩
      case measure => omega
    · have hjK : j = K := by omega
      subst hjK
      have hlt2 : ¬ (j : Int) < (j : Int) := by omega
      have hf := HK.out
      rw [Nat.sub_self, Nat.pow_zero, Nat.div_one] at hf
      have ha : a = n := hf.1
      subst ha
      have hw : wrap64 (a : Int) = (a : Int) := by have := HN.out.1; unfold wrap64; omega
      have HF : Hid (Kp (fun b => b = r) w wr ∧ Cq Z wr r t) := ⟨hf.2.1, hf.2.2⟩
      clear hf HK
      go_wp2
      go_ret
      exact ⟨by first | rfl | rw [hw], HF.out⟩
end Go.Proofs.YtmooddbhcccicaaGreatDoor
