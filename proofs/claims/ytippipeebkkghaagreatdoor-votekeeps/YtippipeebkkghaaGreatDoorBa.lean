/- A record off the ring: record. -/
import Derived.Test.YtippipeebkkghaaGreatDoorAx
namespace Go.Proofs.YtippipeebkkghaaGreatDoor
set_option linter.unusedVariables false
set_option linter.unusedSimpArgs false
open Go.RowKit Go.Deep

/-- whether a sector is the right one for a record's i-th piece -/
def okR (b : List Nat) (num : Int) (i : Nat) : Bool := rightP (numAt b 1) (bytP b) (fstP b) (lstP b) b && (decide (numAt b 1 = num) && decide (fstP b = decide (i = 0)))
/-- the record of a number from a place on: what r more sectors, from the i-th on, say behind acc -/
def recW (rd : Nat → List Nat) (s place : Nat) (num : Int) : Nat → Nat → List Nat → Option (List Nat)
  | 0, _, _ => none
  | r + 1, i, acc => if okR (rd (2 + (place + i) % s)) num i = true then (if lstP (rd (2 + (place + i) % s)) = true then some (acc ++ bytP (rd (2 + (place + i) % s))) else recW rd s place num r (i + 1) (acc ++ bytP (rd (2 + (place + i) % s)))) else none
def RcRes (w' : World) (base : Nat) (S : Int) : Option (List Nat) → Ending → Prop
  | some ys, e => ∃ v, Ow w' base v ys ∧ e = .returned (.tuple #[v, .nilIface])
  | none, e => e = .returned (.tuple #[.slice none 0 0, flt S 70])

theorem min_50 (y : Nat) : min (y : Int) 50 = ((min y 50 : Nat) : Int) := by omega
theorem wrapPl {p i E : Nat} (h : E = p + i) (hE : (E : Int) ≤ 1000000000000000000) : wrap64 ((p : Int) + (i : Int)) = (E : Int) ∧ IntKind.i64.wrap ((p : Int) + (i : Int)) = (E : Int) := by
  rw [IntKind.wrap_i64]
  unfold wrap64
  omega
theorem wr_1 {i : Nat} (h : i ≤ 100000) : wrap64 ((i : Int) + 1) = ((i + 1 : Nat) : Int) := by unfold wrap64; omega
theorem bytP_len {b : List Nat} (h : b.length = 64) : (bytP b).length = cntP b ∧ cntP b ≤ 40 := by
  have h40 : cntP b ≤ 40 := Nat.min_le_right _ _
  refine ⟨?_, h40⟩
  unfold bytP
  rw [List.length_take, List.length_drop]
  omega

set_option maxRecDepth 100000 in
set_option maxHeartbeats 3200000 in
theorem record_ok {w : World} {bp d m n q s : Nat} {dur : List Nat} {T : Nat → Option (List Nat)} (h : Pt w bp d m n q dur T) (hs : n = 2 + s ∧ 1 ≤ s) (place mo : Nat) (num : Int) (hp : (place : Int) ≤ 900000000000000000) (ht : Turns w) :
    Calls Tryz.prog 185 #[ringV bp s, .int .i64 place, .int .i64 num, .int .i64 mo] w fun e w' => RcRes w' w.heap.size ((2 + place % s : Nat) : Int) (recW (nowOf dur T) s place num (min mo 50) 0 []) e ∧ Kp (fun _ => False) w w' := by
  obtain ⟨K, hK⟩ : ∃ K, K = min mo 50 := ⟨_, rfl⟩
  have hmin : min (mo : Int) 50 = (K : Int) := by rw [hK]; exact min_50 mo
  have HK5 : Hid (K ≤ 50) := by show K ≤ 50; omega
  rw [← hK]
  clear hK
  obtain ⟨Z, hZ0⟩ : ∃ Z, Z = recW (nowOf dur T) s place num K 0 [] := ⟨_, rfl⟩
  have HZ : Hid (Z = recW (nowOf dur T) s place num K 0 []) := hZ0
  rw [← hZ0]
  clear hZ0
  have HP : Hid (Pt w bp d m n q dur T) := h
  have HT : Hid (Turns w) := ht
  have HN : Hid (n = 2 + s ∧ 1 ≤ s ∧ n ≤ 8192 ∧ (place : Int) ≤ 900000000000000000) := ⟨hs.1, hs.2, h.n2, hp⟩
  obtain ⟨ps, hps⟩ : ∃ ps, ps = 2 + place % s := ⟨_, rfl⟩
  have HPs : Hid (ps = 2 + place % s) := hps
  rw [← hps]
  clear hps
  obtain ⟨r, hr⟩ : ∃ r, r = w.heap.size := ⟨_, rfl⟩
  obtain ⟨w0, hw0⟩ : ∃ y, y = w.alloc (.cells #[.pointer (some ⟨bp, 0, none⟩), .int .i64 (s : Int)] 132) := ⟨_, rfl⟩
  have z1 : w0.heap.size = w.heap.size + 1 := by rw [hw0]; simp
  have HK0 : Hid (Kp (fun _ => False) w w0) := by rw [hw0]; exact (Kp.refl _ _).alloc _
  have HL0 : Hid (Lv w0 r [.pointer (some ⟨bp, 0, none⟩), .int .i64 (s : Int)]) := by rw [hw0, hr]; exact Lv.new w _ _
  have HG : Hid (w.heap.size ≤ r ∧ r < w0.heap.size ∧ w.heap.size ≤ w0.heap.size) := ⟨by omega, by omega, by omega⟩
  have hnn := nil_neq
  clear z1 h hs hp ht
  go_enter Tryz.func185, Tryz.ntmps185
  go_wp2_with fail
  rw [← hw0, ← hr]
  clear hw0 hr
  go_loopg [10, 17] K (fun gk vv iv wr => ∃ (i : Nat) (acc : List Nat) (v : Value), i ≤ K ∧ gk = K - i ∧ vv = v ∧ iv = .int .i64 i ∧ Hid (Kp (fun _ => False) w0 wr) ∧ Hid (Ow wr w0.heap.size v acc ∧ acc.length ≤ 40 * i) ∧ Hid (Z = recW (nowOf dur T) s place num (K - i) i acc))
  case atStart => exact ⟨0, [], _, Nat.zero_le _, rfl, rfl, rfl, Kp.refl _ _, ⟨World.ownsRow_nil _ _ _ _, Nat.le_refl _⟩, HZ.out⟩
  case round =>
    obtain ⟨i, acc, v, hi, rfl, hvv, rfl, HK, HO, HR⟩ := hrel
    have hv2 := hvv.symm
    subst hv2
    have hlr : Lv wr r [.pointer (some ⟨bp, 0, none⟩), .int .i64 (s : Int)] := HL0.out.keep HK.out id
    have q0 := hlr.cell (j := 0) rfl
    have q1 := hlr.cell (j := 1) rfl
    have HKw : Hid (Kp (fun _ => False) w wr) := HK0.out.trans HK.out (fun _ _ e => e)
    by_cases hlt : i < K
    · have hlt2 : (i : Int) < (K : Int) := by omega
      obtain ⟨E, hE⟩ : ∃ E, E = place + i := ⟨_, rfl⟩
      obtain ⟨hw1, hw2⟩ := wrapPl hE (by have := HN.out; have := HK5.out; omega)
      have HE : Hid (E = place + i) := hE
      obtain ⟨sc, hsc⟩ : ∃ sc, sc = 2 + E % s := ⟨_, rfl⟩
      have HSc : Hid (sc = 2 + (place + i) % s ∧ sc < n) := ⟨by rw [hsc, hE], by have := HN.out; have := Nat.mod_lt E (show 0 < s by omega); omega⟩
      have H1 : Hid (∀ u, Calls Tryz.prog 168 #[ringV bp s, .int .i64 (E : Int)] u fun e9 w' => e9 = .returned (.int .i64 (sc : Int)) ∧ Kp (fun _ => False) u w') := fun u => by
        rw [hsc]
        exact rsector_ok bp s E u (by have := HN.out; omega) (by have := HN.out; omega) (by have := HN.out; have := HK5.out; omega)
      obtain ⟨X, hX⟩ : ∃ X, X = nowOf dur T sc := ⟨_, rfl⟩
      have HX : Hid (X = nowOf dur T (2 + (place + i) % s)) := by show _ = _; rw [hX, HSc.out.1]
      have HPr : Hid (Pt wr bp d m n q dur T) := HP.out.keep0 HKw.out
      have H2 : Hid (∀ u, Kp (fun _ => False) wr u → Calls Tryz.prog 140 #[ringV bp s, .int .i64 (sc : Int)] u fun e w' => ∃ g c, u.heap.size ≤ g ∧ 64 ≤ c ∧ e = .returned (.tuple #[.slice (some ⟨g, 0, none⟩) 64 c, .nilIface]) ∧ Kp (fun _ => False) u w' ∧ Rb w' (some ⟨g, 0, none⟩) 64 X) := fun u ku => by
        rw [hX]
        exact rread_ok (HPr.out.keep0 ku) s sc (by have := HSc.out; omega)
      have HSS : Hid (∀ z, Kp (fun _ => False) wr z → Kp (fun _ => False) wr z ∧ z.cell? ⟨r, 0, none⟩ = some (.pointer (some ⟨bp, 0, none⟩)) ∧ z.cell? ⟨r, 1, none⟩ = some (.int .i64 (s : Int))) := fun z kz => ⟨kz, kz.cellv q0 id, kz.cellv q1 id⟩
      have HTr : Hid (∀ u u' : World, Kp (fun _ => False) wr u → Kp (fun _ => False) u u' → Kp (fun _ => False) wr u') := fun u u' h1 h2 => h1.trans h2 (fun _ _ e => e)
      clear hE hsc hX hlr
      go_upto_region 5 with fail
      have kd : Kp (fun _ => False) wr wr.drew := (Kp.refl _ _).drew
      go_region_held3 (fun z => Kp (fun _ => False) wr z ∧ z.cell? ⟨r, 0, none⟩ = some (.pointer (some ⟨bp, 0, none⟩)) ∧ z.cell? ⟨r, 1, none⟩ = some (.int .i64 (s : Int)))
        (first
          | exact HSS.out _ kd
          | exact HSS.out _ kw1
          | exact HSS.out _ kw2)
        (first
          | (go_at_call 168; refine (H1.out _).mono ?_; rintro e9 wA ⟨rfl, kA⟩; have kw1 := HTr.out _ _ kd kA)
          | (go_at_call 140; refine (H2.out _ kw1).mono ?_; rintro e9 wX ⟨g, c, hg, hc, rfl, kX, rbX⟩; have kw2 := HTr.out _ _ kw1 kX))
      all_goals
        have HK1 : Hid (Kp (fun _ => False) wr wX) := kw2
        have HB1 : Hid (Rb wX (some ⟨g, 0, none⟩) 64 X ∧ 64 ≤ c ∧ wr.heap.size ≤ g) := ⟨rbX, hc, Nat.le_trans kw1.size hg⟩
        clear kw2 rbX hc hg kw1 kA kX kd
        have HPi : Hid (Calls _ _ _ wX _) := pieceOf_ok g 0 c X wX HB1.out.2.1 HB1.out.1
        go_simp
        go_wp2_with fail
        refine HPi.out.mono ?_
        rintro e9 w2 ⟨rfl, k2⟩
        obtain ⟨zz, hzz⟩ : ∃ z, z = numAt X 1 := ⟨_, rfl⟩
        obtain ⟨cn, hcn⟩ : ∃ z, z = cntP X := ⟨_, rfl⟩
        obtain ⟨bf, hbf⟩ : ∃ z, z = fstP X := ⟨_, rfl⟩
        obtain ⟨bl, hbl⟩ : ∃ z, z = lstP X := ⟨_, rfl⟩
        obtain ⟨cc, hcc⟩ : ∃ z, z = c - 12 := ⟨_, rfl⟩
        obtain ⟨BR, hBR⟩ : ∃ z, z = rightP zz (bytP X) bf bl X := ⟨_, rfl⟩
        have HOK : Hid (okR X num i = (BR && (decide (zz = num) && decide (bf = decide (i = 0))))) := by
          show _ = _
          unfold okR
          rw [← hzz, ← hbf, ← hbl, ← hBR]
        have HBL : Hid (bl = lstP X) := hbl
        have hxl := HB1.out.1.len
        obtain ⟨hbl1, hbl2⟩ := bytP_len hxl
        rw [← hcn] at hbl1 hbl2
        have HCn : Hid ((bytP X).length = cn ∧ cn ≤ 40) := ⟨hbl1, hbl2⟩
        have rbY : Rb wX (some ⟨g, 12, none⟩) cn (bytP X) := by
          have := HB1.out.1.mid (l := 12) (m := cn) (by omega)
          rw [Nat.zero_add] at this
          unfold bytP
          rw [← hcn]
          exact this
        rw [← hzz, ← hcn, ← hbf, ← hbl, ← hcc]
        obtain ⟨t8, ht8⟩ : ∃ t8, t8 = w2.heap.size := ⟨_, rfl⟩
        obtain ⟨w3, hw3⟩ : ∃ y, y = w2.alloc (.cells #[.int .i64 zz, .slice (some ⟨g, 12, none⟩) cn cc, .bool bf, .bool bl] 272) := ⟨_, rfl⟩
        have k23 : Kp (fun _ => False) w2 w3 := by rw [hw3]; exact (Kp.refl _ _).alloc _
        have HL8 : Hid (Lv w3 t8 [.int .i64 zz, .slice (some ⟨g, 12, none⟩) cn cc, .bool bf, .bool bl]) := by rw [hw3, ht8]; exact Lv.new _ _ _
        have HK3 : Hid (Kp (fun _ => False) wr w3) := (HK1.out.trans k2 (fun _ _ e => e)).trans k23 (fun _ _ e => e)
        have HX3 : Hid (Kp (fun _ => False) wX w3) := k2.trans k23 (fun _ _ e => e)
        have HT8 : Hid (wr.heap.size ≤ t8) := by show _ ≤ _; rw [ht8]; have := HK1.out.size; have := k2.size; omega
        have HRt : Hid (Calls _ _ _ w3 _) := pright_ok zz (some ⟨g, 12, none⟩) cn cc (bytP X) bf bl (some ⟨g, 0, none⟩) c X w3 (rbY.keep0 HX3.out) (by omega) (HB1.out.1.keep0 HX3.out) (fun j hj => (HKw.out.trans HK3.out (fun _ _ e => e)).cellv (HT.out j hj) id)
        have HY : Hid (Rb w3 (some ⟨g, 12, none⟩) cn (bytP X)) := rbY.keep0 HX3.out
        rw [← hBR] at HRt
        have p0 := HL8.out.cell (j := 0) rfl
        have p1 := HL8.out.cell (j := 1) rfl
        have p2 := HL8.out.cell (j := 2) rfl
        have p3 := HL8.out.cell (j := 3) rfl
        clear hzz hcn hbf hbl hcc hBR hxl hbl1 hbl2 rbY k23 k2 HPi
        go_upto_region 9 with fail
        rw [← hw3, ← ht8]
        clear hw3 ht8
        go_wp2_with fail
        refine HRt.out.mono ?_
        rintro e9 w4 ⟨rfl, k4⟩
        have HK4 : Hid (Kp (fun _ => False) wr w4) := HK3.out.trans k4 (fun _ _ e => e)
        have HY4 : Hid (Rb w4 (some ⟨g, 12, none⟩) cn (bytP X)) := HY.out.keep0 k4
        have HL4 : Hid (Lv w4 t8 [.int .i64 zz, .slice (some ⟨g, 12, none⟩) cn cc, .bool bf, .bool bl]) := HL8.out.keep k4 id
        have HO4 : Hid (Ow w4 w0.heap.size v acc) := ownsRow_keep HO.out.1 HK4.out (fun _ _ e => e)
        clear k4 HRt HY HL8 q0 q1 p0 p1 p2 p3
        have p0 := HL4.out.cell (j := 0) rfl
        have p1 := HL4.out.cell (j := 1) rfl
        have p2 := HL4.out.cell (j := 2) rfl
        have p3 := HL4.out.cell (j := 3) rfl
        obtain ⟨BI, hBI⟩ : ∃ z, z = decide (i = 0) := ⟨_, rfl⟩
        have hi0 : ((i : Int) == 0) = BI := by
          rw [hBI]
          by_cases e : i = 0
          · subst e; rfl
          · rw [decide_eq_false e, beq_eq_false_iff_ne]; omega
        rw [← hBI] at HOK
        clear hBI
        cases BR with
        | false =>
          have HOF : Hid (okR X num i = false) := by show _ = _; rw [HOK.out]; rfl
          have HNo : Hid (Z = none) := by
            show _ = _
            rw [HR.out, show K - i = (K - (i + 1)) + 1 by omega]
            show (if okR (nowOf dur T (2 + (place + i) % s)) num i = true then _ else _) = _
            rw [← HX.out, if_neg (by rw [HOF.out]; decide)]
          have r0 := (HL0.out.keep (HK.out.trans HK4.out (fun _ _ e => e)) id).cell (j := 0) rfl
          have r1 := (HL0.out.keep (HK.out.trans HK4.out (fun _ _ e => e)) id).cell (j := 1) rfl
          go_wp2_with fail
          refine (rsector_ok bp s place _ (by have := HN.out; omega) (by have := HN.out; omega) (by have := HN.out; omega)).mono ?_
          rintro e9 w8 ⟨rfl, k8⟩
          have HK8 : Hid (Kp (fun _ => False) w w8) := (HKw.out.trans HK4.out (fun _ _ e => e)).trans k8 (fun _ _ e => e)
          have hps := HPs.out.symm
          rw [hps]
          clear hps k8
          go_wp2_with fail
          refine (fault_flt _ 70 (by decide) w8).mono ?_
          rintro e9 w9 ⟨rfl, hw9⟩
          have hw8 := hw9.symm
          subst hw8
          clear hw9
          go_wp2
          go_ret2
          rw [HNo.out]
          exact ⟨rfl, HK8.out⟩
        | true =>
          by_cases hnum : zz = num
          · have hnb : (zz == num) = true := by rw [beq_iff_eq]; exact hnum
            by_cases hfi : bf = BI
            · have HOT : Hid (okR X num i = true) := by show _ = _; rw [HOK.out, decide_eq_true hnum, decide_eq_true hfi]; rfl
              subst hfi
              subst hnum
              cases bl with
              | true =>
                have HD : Hid (Z = some (acc ++ bytP X)) := by
                  show _ = _
                  rw [HR.out, show K - i = (K - (i + 1)) + 1 by omega]
                  show (if okR (nowOf dur T (2 + (place + i) % s)) zz i = true then _ else _) = _
                  rw [← HX.out, if_pos HOT.out, if_pos HBL.out.symm]
                go_wp2_with (refine wpList_append_bytes w4 rfl _ _ rfl w0.heap.size v acc rfl HO4.out _ _ _ (bytP X) rfl HY4.out (by have := HO.out.2; have := HCn.out; have := HK5.out; omega) (by have := HK.out.size; have := HK4.out.size; omega) ?_; intro v5 w5 ow5 k5 _; have p35 : w5.cell? ⟨t8, 3, none⟩ = some (.bool true) := k5.cellv p3 (fun e => by have := (ownBlock_lt HO.out.1 (g := t8) e).2; have := HT8.out; omega))
                have HO5 : Hid (Ow w5 w0.heap.size v5 (acc ++ bytP X)) := ow5
                have HK5w : Hid (Kp (fun _ => False) w0 w5) := Kp.app (HK.out.trans HK4.out (fun _ _ e => e)) HO4.out k5
                clear ow5 k5
                go_ret2
                rw [HD.out]
                exact ⟨⟨v5, ownsRow_base HO5.out (by have := HG.out; omega), rfl⟩, HK0.out.trans HK5w.out (fun _ _ e => e)⟩
              | false =>
                have HD : Hid (Z = recW (nowOf dur T) s place zz (K - (i + 1)) (i + 1) (acc ++ bytP X)) := by
                  show _ = _
                  rw [HR.out, show K - i = (K - (i + 1)) + 1 by omega]
                  show (if okR (nowOf dur T (2 + (place + i) % s)) zz i = true then _ else _) = _
                  rw [← HX.out, if_pos HOT.out, if_neg (by rw [← HBL.out]; decide)]
                have hwi : wrap64 ((i : Int) + 1) = ((i + 1 : Nat) : Int) := wr_1 (by have := HK5.out; omega)
                go_wp2_with (refine wpList_append_bytes w4 rfl _ _ rfl w0.heap.size v acc rfl HO4.out _ _ _ (bytP X) rfl HY4.out (by have := HO.out.2; have := HCn.out; have := HK5.out; omega) (by have := HK.out.size; have := HK4.out.size; omega) ?_; intro v5 w5 ow5 k5 _; have p35 : w5.cell? ⟨t8, 3, none⟩ = some (.bool false) := k5.cellv p3 (fun e => by have := (ownBlock_lt HO.out.1 (g := t8) e).2; have := HT8.out; omega))
                have HO5 : Hid (Ow w5 w0.heap.size v5 (acc ++ bytP X)) := ow5
                have HK5w : Hid (Kp (fun _ => False) w0 w5) := Kp.app (HK.out.trans HK4.out (fun _ _ e => e)) HO4.out k5
                clear ow5 k5
                go_roundg (K - (i + 1))
                case rel => exact ⟨i + 1, acc ++ bytP X, v5, by omega, rfl, rfl, by first | rw [hwi] | simp, HK5w.out, ⟨HO5.out, by rw [List.length_append]; have := HO.out.2; have := HCn.out; omega⟩, HD.out⟩
                case measure => omega
            · have HOF : Hid (okR X num i = false) := by show _ = _; rw [HOK.out, decide_eq_true hnum, decide_eq_false hfi]; rfl
              have hfb : (bf == BI) = false := by rw [beq_eq_false_iff_ne]; exact hfi
              have HNo : Hid (Z = none) := by
                show _ = _
                rw [HR.out, show K - i = (K - (i + 1)) + 1 by omega]
                show (if okR (nowOf dur T (2 + (place + i) % s)) num i = true then _ else _) = _
                rw [← HX.out, if_neg (by rw [HOF.out]; decide)]
              have r0 := (HL0.out.keep (HK.out.trans HK4.out (fun _ _ e => e)) id).cell (j := 0) rfl
              have r1 := (HL0.out.keep (HK.out.trans HK4.out (fun _ _ e => e)) id).cell (j := 1) rfl
              go_wp2_with fail
              refine (rsector_ok bp s place _ (by have := HN.out; omega) (by have := HN.out; omega) (by have := HN.out; omega)).mono ?_
              rintro e9 w8 ⟨rfl, k8⟩
              have HK8 : Hid (Kp (fun _ => False) w w8) := (HKw.out.trans HK4.out (fun _ _ e => e)).trans k8 (fun _ _ e => e)
              have hps := HPs.out.symm
              rw [hps]
              clear hps k8
              go_wp2_with fail
              refine (fault_flt _ 70 (by decide) w8).mono ?_
              rintro e9 w9 ⟨rfl, hw9⟩
              have hw8 := hw9.symm
              subst hw8
              clear hw9
              go_wp2
              go_ret2
              rw [HNo.out]
              exact ⟨rfl, HK8.out⟩
          · have HOF : Hid (okR X num i = false) := by show _ = _; rw [HOK.out, decide_eq_false hnum]; rfl
            have hnb : (zz == num) = false := by rw [beq_eq_false_iff_ne]; exact hnum
            have HNo : Hid (Z = none) := by
              show _ = _
              rw [HR.out, show K - i = (K - (i + 1)) + 1 by omega]
              show (if okR (nowOf dur T (2 + (place + i) % s)) num i = true then _ else _) = _
              rw [← HX.out, if_neg (by rw [HOF.out]; decide)]
            have r0 := (HL0.out.keep (HK.out.trans HK4.out (fun _ _ e => e)) id).cell (j := 0) rfl
            have r1 := (HL0.out.keep (HK.out.trans HK4.out (fun _ _ e => e)) id).cell (j := 1) rfl
            go_wp2_with fail
            refine (rsector_ok bp s place _ (by have := HN.out; omega) (by have := HN.out; omega) (by have := HN.out; omega)).mono ?_
            rintro e9 w8 ⟨rfl, k8⟩
            have HK8 : Hid (Kp (fun _ => False) w w8) := (HKw.out.trans HK4.out (fun _ _ e => e)).trans k8 (fun _ _ e => e)
            have hps := HPs.out.symm
            rw [hps]
            clear hps k8
            go_wp2_with fail
            refine (fault_flt _ 70 (by decide) w8).mono ?_
            rintro e9 w9 ⟨rfl, hw9⟩
            have hw8 := hw9.symm
            subst hw8
            clear hw9
            go_wp2
            go_ret2
            rw [HNo.out]
            exact ⟨rfl, HK8.out⟩
    · have hiK : i = K := by omega
      subst hiK
      have hlt2 : ¬ ((i : Int) < (i : Int)) := by omega
      have HNo : Hid (Z = none) := by show _ = _; rw [HR.out, Nat.sub_self]; rfl
      clear hlr
      go_wp2_with fail
      refine (rsector_ok bp s place _ (by have := HN.out; omega) (by have := HN.out; omega) (by have := HN.out; omega)).mono ?_
      rintro e9 w8 ⟨rfl, k8⟩
      have HK8 : Hid (Kp (fun _ => False) w w8) := (HKw.out).trans k8 (fun _ _ e => e)
      have hps := HPs.out.symm
      rw [hps]
      clear hps k8
      go_wp2_with fail
      refine (fault_flt _ 70 (by decide) w8).mono ?_
      rintro e9 w9 ⟨rfl, hw9⟩
      have hw8 := hw9.symm
      subst hw8
      clear hw9
      go_wp2
      go_ret2
      rw [HNo.out]
      exact ⟨rfl, HK8.out⟩
end Go.Proofs.YtippipeebkkghaaGreatDoor
