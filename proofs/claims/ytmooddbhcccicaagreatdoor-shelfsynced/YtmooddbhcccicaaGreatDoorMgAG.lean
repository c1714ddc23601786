/- Texts of this proof, joined: MgAT, MgAU, MgAB. -/
import Derived.Test.YtmooddbhcccicaaGreatDoorMgAS
import Derived.Test.YtmooddbhcccicaaGreatDoorMgAJ
import Derived.Test.YtmooddbhcccicaaGreatDoorMgAI
import Derived.Laws.CopyOwn
import Derived.Laws.BitsAllLaws
import Derived.Test.YtmooddbhcccicaaGreatDoorMgAA
import Derived.BigRegion
/- Texts of this proof, joined: Ba, Bb. -/
/- A record off the ring: record. -/
namespace Go.Proofs.YtmooddbhcccicaaGreatDoor
set_option linter.unusedVariables false
set_option linter.unusedSimpArgs false
open Go.RowKit Go.Deep

/-- whether a sector is the right one for a record's i-th piece -/
def okR (b : List Nat) (num : Int) (i : Nat) : Bool := rightP (numAt b 1) (bytP b) (fstP b) (lstP b) b && (decide (numAt b 1 = num) && decide (fstP b = decide (i = 0)))
/-- the record of a number from a place on: what r more sectors, from the i-th on, say behind acc -/
def recW (rd : Nat → List Nat) (s place : Nat) (num : Int) : Nat → Nat → List Nat → Option (List Nat)
  | 0, _, _ => none
  | r + 1, i, acc => if okR (rd (2 + (place + i) % s)) num i = true then (if lstP (rd (2 + (place + i) % s)) = true then some (acc ++ bytP (rd (2 + (place + i) % s))) else recW rd s place num r (i + 1) (acc ++ bytP (rd (2 + (place + i) % s)))) else none
def RcRes (w' : World) (base : Nat) (S : Int) : Option (List Nat) → Ending → Prop
  | some ys, e => ∃ v, Ow w' base v ys ∧ e = .returned (.tuple #[v, .nilIface])
  | none, e => e = .returned (.tuple #[.slice none 0 0, flt S 70])

theorem min_50 (y : Nat) : min (y : Int) 50 = ((min y 50 : Nat) : Int) := by omega
theorem wrapPl {p i E : Nat} (h : E = p + i) (hE : (E : Int) ≤ 1000000000000000000) : wrap64 ((p : Int) + (i : Int)) = (E : Int) ∧ IntKind.i64.wrap ((p : Int) + (i : Int)) = (E : Int) := by
  rw [IntKind.wrap_i64]
  unfold wrap64
  omega
theorem wr_1 {i : Nat} (h : i ≤ 100000) : wrap64 ((i : Int) + 1) = ((i + 1 : Nat) : Int) := by unfold wrap64; omega
theorem bytP_len {b : List Nat} (h : b.length = 64) : (bytP b).length = cntP b ∧ cntP b ≤ 40 := by
  have h40 : cntP b ≤ 40 := Nat.min_le_right _ _
  refine ⟨?_, h40⟩
  unfold bytP
  rw [List.length_take, List.length_drop]
  omega

set_option maxRecDepth 100000 in
set_option maxHeartbeats 3200000 in
theorem record_ok {w : World} {bp d m n q s : Nat} {dur : List Nat} {T : Nat → Option (List Nat)} (h : Pt w bp d m n q dur T) (hs : n = 2 + s ∧ 1 ≤ s) (place mo : Nat) (num : Int) (hp : (place : Int) ≤ 900000000000000000) (ht : Turns w) :
    Calls Tryz.prog 223 #[ringV bp s, .int .i64 place, .int .i64 num, .int .i64 mo] w fun e w' => RcRes w' w.heap.size ((2 + place % s : Nat) : Int) (recW (nowOf dur T) s place num (min mo 50) 0 []) e ∧ Kp (fun _ => False) w w' := by
  obtain ⟨K, hK⟩ : ∃ K, K = min mo 50 := ⟨_, rfl⟩
  have hmin : min (mo : Int) 50 = (K : Int) := by rw [hK]; exact min_50 mo
  have HK5 : Hid (K ≤ 50) := by show K ≤ 50; omega
  rw [← hK]
  clear hK
  obtain ⟨Z, hZ0⟩ : ∃ Z, Z = recW (nowOf dur T) s place num K 0 [] := ⟨_, rfl⟩
  have HZ : Hid (Z = recW (nowOf dur T) s place num K 0 []) := hZ0
  rw [← hZ0]
  clear hZ0
  have HP : Hid (Pt w bp d m n q dur T) := h
  have HT : Hid (Turns w) := ht
  have HN : Hid (n = 2 + s ∧ 1 ≤ s ∧ n ≤ 8192 ∧ (place : Int) ≤ 900000000000000000) := ⟨hs.1, hs.2, h.n2, hp⟩
  obtain ⟨ps, hps⟩ : ∃ ps, ps = 2 + place % s := ⟨_, rfl⟩
  have HPs : Hid (ps = 2 + place % s) := hps
  rw [← hps]
  clear hps
  obtain ⟨r, hr⟩ : ∃ r, r = w.heap.size := ⟨_, rfl⟩
  obtain ⟨w0, hw0⟩ : ∃ y, y = w.alloc (.cells #[.pointer (some ⟨bp, 0, none⟩), .int .i64 (s : Int)] 153) := ⟨_, rfl⟩
  have z1 : w0.heap.size = w.heap.size + 1 := by rw [hw0]; simp
  have HK0 : Hid (Kp (fun _ => False) w w0) := by rw [hw0]; exact (Kp.refl _ _).alloc _
  have HL0 : Hid (Lv w0 r [.pointer (some ⟨bp, 0, none⟩), .int .i64 (s : Int)]) := by rw [hw0, hr]; exact Lv.new w _ _
  have HG : Hid (w.heap.size ≤ r ∧ r < w0.heap.size ∧ w.heap.size ≤ w0.heap.size) := ⟨by omega, by omega, by omega⟩
  have hnn := nil_neq
  clear z1 h hs hp ht
  go_enter Tryz.func223, Tryz.ntmps223
  go_wp2_with fail
  rw [← hw0, ← hr]
  clear hw0 hr
  go_loopg [10, 17] K (fun gk vv iv wr => ∃ (i : Nat) (acc : List Nat) (v : Value), i ≤ K ∧ gk = K - i ∧ vv = v ∧ iv = .int .i64 i ∧ Hid (Kp (fun _ => False) w0 wr) ∧ Hid (Ow wr w0.heap.size v acc ∧ acc.length ≤ 40 * i) ∧ Hid (Z = recW (nowOf dur T) s place num (K - i) i acc))
  case atStart => exact ⟨0, [], _, Nat.zero_le _, rfl, rfl, rfl, Kp.refl _ _, ⟨World.ownsRow_nil _ _ _ _, Nat.le_refl _⟩, HZ.out⟩
  case round =>
    obtain ⟨i, acc, v, hi, rfl, hvv, rfl, HK, HO, HR⟩ := hrel
    have hv2 := hvv.symm
    subst hv2
    have hlr : Lv wr r [.pointer (some ⟨bp, 0, none⟩), .int .i64 (s : Int)] := HL0.out.keep HK.out id
    have q0 := hlr.cell (j := 0) rfl
    have q1 := hlr.cell (j := 1) rfl
    have HKw : Hid (Kp (fun _ => False) w wr) := HK0.out.trans HK.out (fun _ _ e => e)
    by_cases hlt : i < K
    · have hlt2 : (i : Int) < (K : Int) := by omega
      obtain ⟨E, hE⟩ : ∃ E, E = place + i := ⟨_, rfl⟩
      obtain ⟨hw1, hw2⟩ := wrapPl hE (by have := HN.out; have := HK5.out; omega)
      have HE : Hid (E = place + i) := hE
      obtain ⟨sc, hsc⟩ : ∃ sc, sc = 2 + E % s := ⟨_, rfl⟩
      have HSc : Hid (sc = 2 + (place + i) % s ∧ sc < n) := ⟨by rw [hsc, hE], by have := HN.out; have := Nat.mod_lt E (show 0 < s by omega); omega⟩
      have H1 : Hid (∀ u, Calls Tryz.prog 167 #[ringV bp s, .int .i64 (E : Int)] u fun e9 w' => e9 = .returned (.int .i64 (sc : Int)) ∧ Kp (fun _ => False) u w') := fun u => by
        rw [hsc]
        exact rsector_ok bp s E u (by have := HN.out; omega) (by have := HN.out; omega) (by have := HN.out; have := HK5.out; omega)
      obtain ⟨X, hX⟩ : ∃ X, X = nowOf dur T sc := ⟨_, rfl⟩
      have HX : Hid (X = nowOf dur T (2 + (place + i) % s)) := by show _ = _; rw [hX, HSc.out.1]
      have HPr : Hid (Pt wr bp d m n q dur T) := HP.out.keep0 HKw.out
      have H2 : Hid (∀ u, Kp (fun _ => False) wr u → Calls Tryz.prog 190 #[ringV bp s, .int .i64 (sc : Int)] u fun e w' => ∃ g c, u.heap.size ≤ g ∧ 64 ≤ c ∧ e = .returned (.tuple #[.slice (some ⟨g, 0, none⟩) 64 c, .nilIface]) ∧ Kp (fun _ => False) u w' ∧ Rb w' (some ⟨g, 0, none⟩) 64 X) := fun u ku => by
        rw [hX]
        exact rread_ok (HPr.out.keep0 ku) s sc (by have := HSc.out; omega)
      have HSS : Hid (∀ z, Kp (fun _ => False) wr z → Kp (fun _ => False) wr z ∧ z.cell? ⟨r, 0, none⟩ = some (.pointer (some ⟨bp, 0, none⟩)) ∧ z.cell? ⟨r, 1, none⟩ = some (.int .i64 (s : Int))) := fun z kz => ⟨kz, kz.cellv q0 id, kz.cellv q1 id⟩
      have HTr : Hid (∀ u u' : World, Kp (fun _ => False) wr u → Kp (fun _ => False) u u' → Kp (fun _ => False) wr u') := fun u u' h1 h2 => h1.trans h2 (fun _ _ e => e)
      clear hE hsc hX hlr
      go_upto_region 5 with fail
      have kd : Kp (fun _ => False) wr wr.drew := (Kp.refl _ _).drew
      go_region_held3 (fun z => Kp (fun _ => False) wr z ∧ z.cell? ⟨r, 0, none⟩ = some (.pointer (some ⟨bp, 0, none⟩)) ∧ z.cell? ⟨r, 1, none⟩ = some (.int .i64 (s : Int)))
        (first
          | exact HSS.out _ kd
          | exact HSS.out _ kw1
          | exact HSS.out _ kw2)
        (first
          | (go_at_call 167; refine (H1.out _).mono ?_; rintro e9 wA ⟨rfl, kA⟩; have kw1 := HTr.out _ _ kd kA)
          | (go_at_call 190; refine (H2.out _ kw1).mono ?_; rintro e9 wX ⟨g, c, hg, hc, rfl, kX, rbX⟩; have kw2 := HTr.out _ _ kw1 kX))
      all_goals
        have HK1 : Hid (Kp (fun _ => False) wr wX) := kw2
        have HB1 : Hid (Rb wX (some ⟨g, 0, none⟩) 64 X ∧ 64 ≤ c ∧ wr.heap.size ≤ g) := ⟨rbX, hc, Nat.le_trans kw1.size hg⟩
        clear kw2 rbX hc hg kw1 kA kX kd
        have HPi : Hid (Calls _ _ _ wX _) := pieceOf_ok g 0 c X wX HB1.out.2.1 HB1.out.1
        go_simp
        go_wp2_with fail
        refine HPi.out.mono ?_
        rintro e9 w2 ⟨rfl, k2⟩
        obtain ⟨zz, hzz⟩ : ∃ z, z = numAt X 1 := ⟨_, rfl⟩
        obtain ⟨cn, hcn⟩ : ∃ z, z = cntP X := ⟨_, rfl⟩
        obtain ⟨bf, hbf⟩ : ∃ z, z = fstP X := ⟨_, rfl⟩
        obtain ⟨bl, hbl⟩ : ∃ z, z = lstP X := ⟨_, rfl⟩
        obtain ⟨cc, hcc⟩ : ∃ z, z = c - 12 := ⟨_, rfl⟩
        obtain ⟨BR, hBR⟩ : ∃ z, z = rightP zz (bytP X) bf bl X := ⟨_, rfl⟩
        have HOK : Hid (okR X num i = (BR && (decide (zz = num) && decide (bf = decide (i = 0))))) := by
          show _ = _
          unfold okR
          rw [← hzz, ← hbf, ← hbl, ← hBR]
        have HBL : Hid (bl = lstP X) := hbl
        have hxl := HB1.out.1.len
        obtain ⟨hbl1, hbl2⟩ := bytP_len hxl
        rw [← hcn] at hbl1 hbl2
        have HCn : Hid ((bytP X).length = cn ∧ cn ≤ 40) := ⟨hbl1, hbl2⟩
        have rbY : Rb wX (some ⟨g, 12, none⟩) cn (bytP X) := by
          have := HB1.out.1.mid (l := 12) (m := cn) (by omega)
          rw [Nat.zero_add] at this
          unfold bytP
          rw [← hcn]
          exact this
        rw [← hzz, ← hcn, ← hbf, ← hbl, ← hcc]
        obtain ⟨t8, ht8⟩ : ∃ t8, t8 = w2.heap.size := ⟨_, rfl⟩
        obtain ⟨w3, hw3⟩ : ∃ y, y = w2.alloc (.cells #[.int .i64 zz, .slice (some ⟨g, 12, none⟩) cn cc, .bool bf, .bool bl] 232) := ⟨_, rfl⟩
        have k23 : Kp (fun _ => False) w2 w3 := by rw [hw3]; exact (Kp.refl _ _).alloc _
        have HL8 : Hid (Lv w3 t8 [.int .i64 zz, .slice (some ⟨g, 12, none⟩) cn cc, .bool bf, .bool bl]) := by rw [hw3, ht8]; exact Lv.new _ _ _
        have HK3 : Hid (Kp (fun _ => False) wr w3) := (HK1.out.trans k2 (fun _ _ e => e)).trans k23 (fun _ _ e => e)
        have HX3 : Hid (Kp (fun _ => False) wX w3) := k2.trans k23 (fun _ _ e => e)
        have HT8 : Hid (wr.heap.size ≤ t8) := by show _ ≤ _; rw [ht8]; have := HK1.out.size; have := k2.size; omega
        have HRt : Hid (Calls _ _ _ w3 _) := pright_ok zz (some ⟨g, 12, none⟩) cn cc (bytP X) bf bl (some ⟨g, 0, none⟩) c X w3 (rbY.keep0 HX3.out) (by omega) (HB1.out.1.keep0 HX3.out) (fun j hj => (HKw.out.trans HK3.out (fun _ _ e => e)).cellv (HT.out j hj) id)
        have HY : Hid (Rb w3 (some ⟨g, 12, none⟩) cn (bytP X)) := rbY.keep0 HX3.out
        rw [← hBR] at HRt
        have p0 := HL8.out.cell (j := 0) rfl
        have p1 := HL8.out.cell (j := 1) rfl
        have p2 := HL8.out.cell (j := 2) rfl
        have p3 := HL8.out.cell (j := 3) rfl
        clear hzz hcn hbf hbl hcc hBR hxl hbl1 hbl2 rbY k23 k2 HPi
        go_upto_region 9 with fail
        rw [← hw3, ← ht8]
        clear hw3 ht8
        go_wp2_with fail
        refine HRt.out.mono ?_
        rintro e9 w4 ⟨rfl, k4⟩
        have HK4 : Hid (Kp (fun _ => False) wr w4) := HK3.out.trans k4 (fun _ _ e => e)
        have HY4 : Hid (Rb w4 (some ⟨g, 12, none⟩) cn (bytP X)) := HY.out.keep0 k4
        have HL4 : Hid (Lv w4 t8 [.int .i64 zz, .slice (some ⟨g, 12, none⟩) cn cc, .bool bf, .bool bl]) := HL8.out.keep k4 id
        have HO4 : Hid (Ow w4 w0.heap.size v acc) := ownsRow_keep HO.out.1 HK4.out (fun _ _ e => e)
        clear k4 HRt HY HL8 q0 q1 p0 p1 p2 p3
        have p0 := HL4.out.cell (j := 0) rfl
        have p1 := HL4.out.cell (j := 1) rfl
        have p2 := HL4.out.cell (j := 2) rfl
        have p3 := HL4.out.cell (j := 3) rfl
        obtain ⟨BI, hBI⟩ : ∃ z, z = decide (i = 0) := ⟨_, rfl⟩
        have hi0 : ((i : Int) == 0) = BI := by
          rw [hBI]
          by_cases e : i = 0
          · subst e; rfl
          · rw [decide_eq_false e, beq_eq_false_iff_ne]; omega
        rw [← hBI] at HOK
        clear hBI
        cases BR with
        | false =>
          have HOF : Hid (okR X num i = false) := by show _ = _; rw [HOK.out]; rfl
          have HNo : Hid (Z = none) := by
            show _ = _
            rw [HR.out, show K - i = (K - (i + 1)) + 1 by omega]
            show (if okR (nowOf dur T (2 + (place + i) % s)) num i = true then _ else _) = _
            rw [← HX.out, if_neg (by rw [HOF.out]; decide)]
          have r0 := (HL0.out.keep (HK.out.trans HK4.out (fun _ _ e => e)) id).cell (j := 0) rfl
          have r1 := (HL0.out.keep (HK.out.trans HK4.out (fun _ _ e => e)) id).cell (j := 1) rfl
          go_wp2_with fail
          refine (rsector_ok bp s place _ (by have := HN.out; omega) (by have := HN.out; omega) (by have := HN.out; omega)).mono ?_
          rintro e9 w8 ⟨rfl, k8⟩
          have HK8 : Hid (Kp (fun _ => False) w w8) := (HKw.out.trans HK4.out (fun _ _ e => e)).trans k8 (fun _ _ e => e)
          have hps := HPs.out.symm
          rw [hps]
          clear hps k8
          go_wp2_with fail
          refine (fault_flt _ 70 (by decide) w8).mono ?_
          rintro e9 w9 ⟨rfl, hw9⟩
          have hw8 := hw9.symm
          subst hw8
          clear hw9
          go_wp2
          go_ret2
          rw [HNo.out]
          exact ⟨rfl, HK8.out⟩
        | true =>
          by_cases hnum : zz = num
          · have hnb : (zz == num) = true := by rw [beq_iff_eq]; exact hnum
            by_cases hfi : bf = BI
            · have HOT : Hid (okR X num i = true) := by show _ = _; rw [HOK.out, decide_eq_true hnum, decide_eq_true hfi]; rfl
              subst hfi
              subst hnum
              cases bl with
              | true =>
                have HD : Hid (Z = some (acc ++ bytP X)) := by
                  show _ = _
                  rw [HR.out, show K - i = (K - (i + 1)) + 1 by omega]
                  show (if okR (nowOf dur T (2 + (place + i) % s)) zz i = true then _ else _) = _
                  rw [← HX.out, if_pos HOT.out, if_pos HBL.out.symm]
                go_wp2_with (refine wpList_append_bytes w4 rfl _ _ rfl w0.heap.size v acc rfl HO4.out _ _ _ (bytP X) rfl HY4.out (by have := HO.out.2; have := HCn.out; have := HK5.out; omega) (by have := HK.out.size; have := HK4.out.size; omega) ?_; intro v5 w5 ow5 k5 _; have p35 : w5.cell? ⟨t8, 3, none⟩ = some (.bool true) := k5.cellv p3 (fun e => by have := (ownBlock_lt HO.out.1 (g := t8) e).2; have := HT8.out; omega))
                have HO5 : Hid (Ow w5 w0.heap.size v5 (acc ++ bytP X)) := ow5
                have HK5w : Hid (Kp (fun _ => False) w0 w5) := Kp.app (HK.out.trans HK4.out (fun _ _ e => e)) HO4.out k5
                clear ow5 k5
                go_ret2
                rw [HD.out]
                exact ⟨⟨v5, ownsRow_base HO5.out (by have := HG.out; omega), rfl⟩, HK0.out.trans HK5w.out (fun _ _ e => e)⟩
              | false =>
                have HD : Hid (Z = recW (nowOf dur T) s place zz (K - (i + 1)) (i + 1) (acc ++ bytP X)) := by
                  show _ = _
                  rw [HR.out, show K - i = (K - (i + 1)) + 1 by omega]
                  show (if okR (nowOf dur T (2 + (place + i) % s)) zz i = true then _ else _) = _
                  rw [← HX.out, if_pos HOT.out, if_neg (by rw [← HBL.out]; decide)]
                have hwi : wrap64 ((i : Int) + 1) = ((i + 1 : Nat) : Int) := wr_1 (by have := HK5.out; omega)
                go_wp2_with (refine wpList_append_bytes w4 rfl _ _ rfl w0.heap.size v acc rfl HO4.out _ _ _ (bytP X) rfl HY4.out (by have := HO.out.2; have := HCn.out; have := HK5.out; omega) (by have := HK.out.size; have := HK4.out.size; omega) ?_; intro v5 w5 ow5 k5 _; have p35 : w5.cell? ⟨t8, 3, none⟩ = some (.bool false) := k5.cellv p3 (fun e => by have := (ownBlock_lt HO.out.1 (g := t8) e).2; have := HT8.out; omega))
                have HO5 : Hid (Ow w5 w0.heap.size v5 (acc ++ bytP X)) := ow5
                have HK5w : Hid (Kp (fun _ => False) w0 w5) := Kp.app (HK.out.trans HK4.out (fun _ _ e => e)) HO4.out k5
                clear ow5 k5
                go_roundg (K - (i + 1))
                case rel => exact ⟨i + 1, acc ++ bytP X, v5, by omega, rfl, rfl, by first | rw [hwi] | simp, HK5w.out, ⟨HO5.out, by rw [List.length_append]; have := HO.out.2; have := HCn.out; omega⟩, HD.out⟩
                case measure => omega
            · have HOF : Hid (okR X num i = false) := by show _ = _; rw [HOK.out, decide_eq_true hnum, decide_eq_false hfi]; rfl
              have hfb : (bf == BI) = false := by rw [beq_eq_false_iff_ne]; exact hfi
              have HNo : Hid (Z = none) := by
                show _ = _
                rw [HR.out, show K - i = (K - (i + 1)) + 1 by omega]
                show (if okR (nowOf dur T (2 + (place + i) % s)) num i = true then _ else _) = _
                rw [← HX.out, if_neg (by rw [HOF.out]; decide)]
              have r0 := (HL0.out.keep (HK.out.trans HK4.out (fun _ _ e => e)) id).cell (j := 0) rfl
              have r1 := (HL0.out.keep (HK.out.trans HK4.out (fun _ _ e => e)) id).cell (j := 1) rfl
              go_wp2_with fail
              refine (rsector_ok bp s place _ (by have := HN.out; omega) (by have := HN.out; omega) (by have := HN.out; omega)).mono ?_
              rintro e9 w8 ⟨rfl, k8⟩
              have HK8 : Hid (Kp (fun _ => False) w w8) := (HKw.out.trans HK4.out (fun _ _ e => e)).trans k8 (fun _ _ e => e)
              have hps := HPs.out.symm
              rw [hps]
              clear hps k8
              go_wp2_with fail
              refine (fault_flt _ 70 (by decide) w8).mono ?_
              rintro e9 w9 ⟨rfl, hw9⟩
              have hw8 := hw9.symm
              subst hw8
              clear hw9
              go_wp2
              go_ret2
              rw [HNo.out]
              exact ⟨rfl, HK8.out⟩
          · have HOF : Hid (okR X num i = false) := by show _ = _; rw [HOK.out, decide_eq_false hnum]; rfl
            have hnb : (zz == num) = false := by rw [beq_eq_false_iff_ne]; exact hnum
            have HNo : Hid (Z = none) := by
              show _ = _
              rw [HR.out, show K - i = (K - (i + 1)) + 1 by omega]
              show (if okR (nowOf dur T (2 + (place + i) % s)) num i = true then _ else _) = _
              rw [← HX.out, if_neg (by rw [HOF.out]; decide)]
            have r0 := (HL0.out.keep (HK.out.trans HK4.out (fun _ _ e => e)) id).cell (j := 0) rfl
            have r1 := (HL0.out.keep (HK.out.trans HK4.out (fun _ _ e => e)) id).cell (j := 1) rfl
            go_wp2_with fail
            refine (rsector_ok bp s place _ (by have := HN.out; omega) (by have := HN.out; omega) (by have := HN.out; omega)).mono ?_
            rintro e9 w8 ⟨rfl, k8⟩
            have HK8 : Hid (Kp (fun _ => False) w w8) := (HKw.out.trans HK4.out (fun _ _ e => e)).trans k8 (fun _ _ e => e)
            have hps := HPs.out.symm
            rw [hps]
            clear hps k8
            go_wp2_with fail
            refine (fault_flt _ 70 (by decide) w8).mono ?_
            rintro e9 w9 ⟨rfl, hw9⟩
            have hw8 := hw9.symm
            subst hw8
            clear hw9
            go_wp2
            go_ret2
            rw [HNo.out]
            exact ⟨rfl, HK8.out⟩
    · have hiK : i = K := by omega
      subst hiK
      have hlt2 : ¬ ((i : Int) < (i : Int)) := by omega
      have HNo : Hid (Z = none) := by show _ = _; rw [HR.out, Nat.sub_self]; rfl
      clear hlr
      go_wp2_with fail
      refine (rsector_ok bp s place _ (by have := HN.out; omega) (by have := HN.out; omega) (by have := HN.out; omega)).mono ?_
      rintro e9 w8 ⟨rfl, k8⟩
      have HK8 : Hid (Kp (fun _ => False) w w8) := (HKw.out).trans k8 (fun _ _ e => e)
      have hps := HPs.out.symm
      rw [hps]
      clear hps k8
      go_wp2_with fail
      refine (fault_flt _ 70 (by decide) w8).mono ?_
      rintro e9 w9 ⟨rfl, hw9⟩
      have hw8 := hw9.symm
      subst hw8
      clear hw9
      go_wp2
      go_ret2
      rw [HNo.out]
      exact ⟨rfl, HK8.out⟩
end Go.Proofs.YtmooddbhcccicaaGreatDoor

/- The records off the ring: records. -/
namespace Go.Proofs.YtmooddbhcccicaaGreatDoor
set_option linter.unusedVariables false
set_option linter.unusedSimpArgs false
open Go.RowKit Go.Deep

/-- the records from a number on, off the ring: what stands behind used sectors and the records acc -/
def recsW (rd : Nat → List Nat) (s place first : Nat) : Nat → Nat → List (List Nat) → List (List Nat) × Nat
  | 0, used, acc => (acc, used)
  | f + 1, used, acc => match recW rd s (place + used) ((first + acc.length : Nat) : Int) (min (s - used) 50) 0 [] with
    | none => (acc, used)
    | some ys => recsW rd s place first f (used + (ys.length + 39) / 40) (acc ++ [ys])

def stepRs (rd : Nat → List Nat) (s place first f used : Nat) (acc : List (List Nat)) : Option (List Nat) → List (List Nat) × Nat
  | none => (acc, used)
  | some ys => recsW rd s place first f (used + (ys.length + 39) / 40) (acc ++ [ys])
theorem recsW_succ (rd : Nat → List Nat) (s place first f used : Nat) (acc : List (List Nat)) : recsW rd s place first (f + 1) used acc = stepRs rd s place first f used acc (recW rd s (place + used) ((first + acc.length : Nat) : Int) (min (s - used) 50) 0 []) := by
  rw [recsW]
  cases recW rd s (place + used) ((first + acc.length : Nat) : Int) (min (s - used) 50) 0 [] <;> rfl

theorem okR_len {b : List Nat} {num : Int} {i : Nat} (h : okR b num i = true) : 1 ≤ (bytP b).length ∧ (lstP b = true ∨ (bytP b).length = 40) ∧ (bytP b).length ≤ 40 := by
  refine ⟨?_, ?_, ?_⟩
  · unfold okR rightP at h
    simp only [Bool.and_eq_true, decide_eq_true_eq] at h
    exact h.1.1
  · unfold okR rightP at h
    simp only [Bool.and_eq_true, Bool.or_eq_true, decide_eq_true_eq] at h
    exact h.1.2.1
  · unfold bytP
    rw [List.length_take]
    have : cntP b ≤ 40 := Nat.min_le_right _ _
    omega
theorem recW_len {rd : Nat → List Nat} {s place : Nat} {num : Int} : ∀ (r i : Nat) (acc ys : List Nat), acc.length = 40 * i → recW rd s place num r i acc = some ys → 1 ≤ ys.length ∧ (ys.length + 39) / 40 ≤ i + r ∧ ys.length ≤ 40 * (i + r)
  | 0, i, acc, ys, ha, h => by cases h
  | r + 1, i, acc, ys, ha, h => by
    unfold recW at h
    obtain ⟨b, hb⟩ : ∃ b, b = rd (2 + (place + i) % s) := ⟨_, rfl⟩
    rw [← hb] at h
    by_cases ho : okR b num i = true
    · rw [if_pos ho] at h
      obtain ⟨h1, h2, h3⟩ := okR_len ho
      by_cases hl : lstP b = true
      · rw [if_pos hl] at h
        have h9 := Option.some.inj h
        rw [← h9, List.length_append]
        omega
      · rw [if_neg hl] at h
        have h40 : (bytP b).length = 40 := h2.resolve_left hl
        have := recW_len r (i + 1) (acc ++ bytP b) ys (by rw [List.length_append]; omega) h
        omega
    · rw [if_neg ho] at h
      cases h

theorem own_form {w : World} {base : Nat} {v : Value} {xs : List Nat} (h : Ow w base v xs) : ∃ p c, v = .slice p xs.length c := by
  rcases Joins.ownsRow_forms h with ⟨e1, e2⟩ | ⟨g, c, e⟩
  · exact ⟨none, 0, by rw [e1, e2]⟩
  · exact ⟨_, c, e⟩

/-- a row of texts of one's own, each in bytes of one's own -/
def Rw (w : World) (base : Nat) (v : Value) (recs : List (List Nat)) : Prop := ∃ vs : List Value, w.ownsRow base 34 1 v recs.length vs ∧ vs.length = recs.length ∧ ∀ (i : Nat) (x : List Nat) (u : Value), recs[i]? = some x → vs[i]? = some u → Ow w base u x ∧ ∀ b, v.ownBlock = some b → u.ownBlock ≠ some b
theorem Rw.nil (w : World) (base : Nat) : Rw w base (.slice none 0 0) [] := ⟨[], World.ownsRow_nil _ _ _ _, rfl, fun i x u h => by cases h⟩
theorem Rw.keep0 {w w' : World} {base : Nat} {v : Value} {recs : List (List Nat)} (h : Rw w base v recs) (k : Kp (fun _ => False) w w') : Rw w' base v recs := by
  obtain ⟨vs, h1, h2, h3⟩ := h
  exact ⟨vs, ownsRow_keep h1 k (fun _ _ e => e), h2, fun i x u hx hu => ⟨ownsRow_keep (h3 i x u hx hu).1 k (fun _ _ e => e), (h3 i x u hx hu).2⟩⟩
theorem Rw.base {w : World} {base base' : Nat} {v : Value} {recs : List (List Nat)} (h : Rw w base v recs) (hb : base' ≤ base) : Rw w base' v recs := by
  obtain ⟨vs, h1, h2, h3⟩ := h
  exact ⟨vs, ownsRow_base h1 hb, h2, fun i x u hx hu => ⟨ownsRow_base (h3 i x u hx hu).1 hb, (h3 i x u hx hu).2⟩⟩
theorem Rw.app {w w' : World} {base : Nat} {v v' u : Value} {recs : List (List Nat)} {ys : List Nat} {vs : List Value} (h1 : vs.length = recs.length) (h3 : ∀ (i : Nat) (x : List Nat) (u : Value), recs[i]? = some x → vs[i]? = some u → Ow w base u x ∧ ∀ b, v.ownBlock = some b → u.ownBlock ≠ some b)
    (hu : Ow w base u ys) (hub : ∀ b, v.ownBlock = some b → u.ownBlock ≠ some b) (o : w'.ownsRow base 34 1 v' (recs.length + 1) (vs ++ [u])) (k : Kp (fun b => v.ownBlock = some b) w w') (hv : v'.ownBlock = v.ownBlock ∨ v'.ownBlock = some w.heap.size) : Rw w' base v' (recs ++ [ys]) := by
  have key : ∀ x z, Ow w base z x → (∀ b, v.ownBlock = some b → z.ownBlock ≠ some b) → Ow w' base z x ∧ ∀ b, v'.ownBlock = some b → z.ownBlock ≠ some b := fun x z ho hb => by
    refine ⟨ownsRow_keep ho k (fun g e e2 => hb g e2 e), fun b e e2 => ?_⟩
    rcases hv with e9 | e9
    · exact hb b (e9.symm.trans e) e2
    · rw [e9] at e
      have := (ownBlock_lt ho e2).2
      injection e with e
      omega
  refine ⟨vs ++ [u], by rw [List.length_append]; exact o, by rw [List.length_append, List.length_append, h1]; rfl, fun i x z hx hz => ?_⟩
  by_cases hi : i < recs.length
  · rw [List.getElem?_append_left hi] at hx
    rw [List.getElem?_append_left (by omega)] at hz
    exact key x z (h3 i x z hx hz).1 (h3 i x z hx hz).2
  · have hi2 : i = recs.length := by
      have := (List.getElem?_eq_some_iff.1 hx).1
      rw [List.length_append] at this
      simp at this
      omega
    subst hi2
    rw [List.getElem?_append_right (Nat.le_refl _), Nat.sub_self] at hx
    rw [List.getElem?_append_right (by omega), h1, Nat.sub_self] at hz
    cases hx
    cases hz
    exact key _ _ hu hub

theorem infoTx : (Tryz.prog.info? 34).map (fun i => (i.zero, i.size, i.bytes)) = some (some (.slice none 0 0), 1, 24) := by kernel_rfl
/-- append of one text -/
theorem wpList_append_text {ops : Array Oper} {rest : List Oper} {o : Oper} {a : Act} {Q : Exit → Act → World → Prop} (w : World) (hgd : o.guard = none) (s y : Operand)
    (ho : o.op = .call { callee := .builtin .append, args := #[s, y], argTypes := #[22, 22] })
    (base : Nat) (v : Value) (n : Nat) (xs : List Value) (u : Value) (g : Nat) (hs : a.eval s = v) (hown : w.ownsRow base 34 1 v n xs) (hx : a.eval y = .slice (some ⟨g, 0, none⟩) 1 1) (hu1 : u.oneCell' = true) (hc : w.cell? ⟨g, 0, none⟩ = some u) (hlen : n ≤ 100000) (hbase : base ≤ w.heap.size)
    (h : ∀ v' w', w'.ownsRow base 34 1 v' (n + 1) (xs ++ [u]) → Kp (fun b => v.ownBlock = some b) w w' → (v'.ownBlock = v.ownBlock ∨ v'.ownBlock = some w.heap.size) → wpList Tryz.prog ops Q rest (a.put o.dst v') w') :
    wpList Tryz.prog ops Q (o :: rest) a w := by
  obtain ⟨ti, hi0, hz0, hz1, hz2⟩ := info_parts infoTx
  refine wpList_append_own_src w hgd s y 22 22 ho base 34 ti (.slice none 0 0) 1 24 Tryz.underlying22 hi0 hz0 hz1 hz2 rfl (by decide) v n xs hs hown _ 1 [u] hx
    (Src.ofSlice w Tryz.underlying22 ⟨g, 0, none⟩ 1 1 [u] (by simp) (fun j z hj => by
      have hj0 : j = 0 := by
        have := (List.getElem?_eq_some_iff.1 hj).1
        simp at this
        exact this
      subst hj0
      simp at hj
      subst hj
      simpa [Addr.add] using hc) (fun z hz => by
      simp at hz
      subst hz
      exact hu1)) (by unfold maxLen; omega) (by omega) hbase ?_
  intro v' w' h1 h2 h3
  exact h v' w' h1 (grownBy_kp h2) h3

theorem wrapFL {f l F : Nat} (h : F = f + l) (hF : (F : Int) ≤ 2000000000000000000) : wrap64 ((f : Int) + (l : Int)) = (F : Int) := by unfold wrap64; omega
theorem wrapSU {s u m : Nat} (h : m = s - u) (hu : u ≤ s) (hs : s ≤ 8192) : wrap64 ((s : Int) - (u : Int)) = (m : Int) := by unfold wrap64; omega

set_option maxRecDepth 100000 in
set_option maxHeartbeats 3200000 in
theorem records_ok {w : World} {bp d m n q s : Nat} {dur : List Nat} {T : Nat → Option (List Nat)} (h : Pt w bp d m n q dur T) (hs : n = 2 + s ∧ 1 ≤ s) (ha hb place first : Nat) (hp : (place : Int) ≤ 800000000000000000) (hf : (first : Int) ≤ 1800000000000000000) (ht : Turns w) :
    Calls Tryz.prog 194 #[ringV bp s, headV ha hb place first] w fun e w' => ∃ v, e = .returned (.tuple #[v, .int .i64 ((recsW (nowOf dur T) s place first (s + 1) 0 []).2 : Nat), .nilIface]) ∧ Kp (fun _ => False) w w' ∧ Rw w' w.heap.size v (recsW (nowOf dur T) s place first (s + 1) 0 []).1 := by
  obtain ⟨Z, hZ0⟩ : ∃ Z, Z = recsW (nowOf dur T) s place first (s + 1) 0 [] := ⟨_, rfl⟩
  have HZ : Hid (Z = recsW (nowOf dur T) s place first (s + 1) 0 []) := hZ0
  rw [← hZ0]
  clear hZ0
  have HP : Hid (Pt w bp d m n q dur T) := h
  have HT : Hid (Turns w) := ht
  have HN : Hid (n = 2 + s ∧ 1 ≤ s ∧ n ≤ 8192 ∧ (place : Int) ≤ 800000000000000000 ∧ (first : Int) ≤ 1800000000000000000) := ⟨hs.1, hs.2, h.n2, hp, hf⟩
  obtain ⟨r, hr⟩ : ∃ r, r = w.heap.size := ⟨_, rfl⟩
  obtain ⟨r2, hr2⟩ : ∃ r2, r2 = w.heap.size + 1 := ⟨_, rfl⟩
  obtain ⟨w0, hw0⟩ : ∃ y, y = (w.alloc (.cells #[.pointer (some ⟨bp, 0, none⟩), .int .i64 (s : Int)] 153)).alloc (.cells #[.int .i64 (ha : Int), .int .i64 (hb : Int), .int .i64 (place : Int), .int .i64 (first : Int)] 155) := ⟨_, rfl⟩
  have z1 : (w.alloc (.cells #[.pointer (some ⟨bp, 0, none⟩), .int .i64 (s : Int)] 153)).heap.size = w.heap.size + 1 := by simp
  have z2 : w0.heap.size = w.heap.size + 1 + 1 := by rw [hw0]; simp
  have HK0 : Hid (Kp (fun _ => False) w w0) := by rw [hw0]; exact ((Kp.refl _ _).alloc _).alloc _
  have HL0 : Hid (Lv w0 r [.pointer (some ⟨bp, 0, none⟩), .int .i64 (s : Int)]) := by rw [hw0, hr]; exact (Lv.new w _ _).keep ((Kp.refl (fun _ => False) _).alloc _) id
  have HL2 : Hid (Lv w0 r2 [.int .i64 (ha : Int), .int .i64 (hb : Int), .int .i64 (place : Int), .int .i64 (first : Int)]) := by rw [hw0, hr2, ← z1]; exact Lv.new _ _ _
  have HG : Hid (w.heap.size ≤ w0.heap.size) := by show _ ≤ _; omega
  have hnn := nil_neq
  have HI : Hid (∀ u S, Calls Tryz.prog 57 #[flt S 70, eno 70] u fun e w' => e = .returned (.bool true) ∧ Kp (fun _ => False) u w') := fun u S => is_flt S 70 70 u
  have HI0 : Hid (∀ u, Calls Tryz.prog 57 #[.nilIface, eno 70] u fun e w' => e = .returned (.bool false) ∧ w' = u) := fun u => is_nil 70 u
  clear z1 z2 h hs hp hf ht
  go_enter Tryz.func194, Tryz.ntmps194
  go_wp2_with fail
  rw [← hw0, ← hr2, ← hr]
  clear hw0 hr hr2
  go_loopg [7, 8] (s + 1) (fun gk vv uv wr => ∃ (f used : Nat) (acc : List (List Nat)) (v : Value), used ≤ s ∧ s + 1 ≤ f + used ∧ gk = f ∧ vv = v ∧ uv = .int .i64 used ∧ Hid (Kp (fun _ => False) w0 wr) ∧ Hid (Rw wr w0.heap.size v acc ∧ acc.length ≤ used) ∧ Hid (Z = recsW (nowOf dur T) s place first f used acc))
  case atStart => exact ⟨s + 1, 0, [], _, Nat.zero_le _, Nat.le_refl _, rfl, rfl, rfl, Kp.refl _ _, ⟨Rw.nil _ _, Nat.le_refl _⟩, HZ.out⟩
  case round =>
    obtain ⟨f, used, acc, v, hus, hfu, hgk, hvv, rfl, HK, HO, HR⟩ := hrel
    have hv2 := hvv.symm
    subst hv2
    obtain ⟨f9, hf9⟩ : ∃ f', f = f' + 1 := ⟨f - 1, by omega⟩
    subst hf9
    subst hgk
    have q0 := (HL0.out.keep HK.out id).cell (j := 0) rfl
    have q1 := (HL0.out.keep HK.out id).cell (j := 1) rfl
    have q2 := (HL2.out.keep HK.out id).cell (j := 2) rfl
    have q3 := (HL2.out.keep HK.out id).cell (j := 3) rfl
    have HKw : Hid (Kp (fun _ => False) w wr) := HK0.out.trans HK.out (fun _ _ e => e)
    obtain ⟨vs, hvs1, hvs2, hvs3⟩ := HO.out.1
    obtain ⟨L, hL⟩ : ∃ L, L = acc.length := ⟨_, rfl⟩
    rw [← hL] at hvs1
    have HLe : Hid (L = acc.length ∧ L ≤ used) := ⟨hL, by rw [hL]; exact HO.out.2⟩
    have HV : Hid (wr.ownsRow w0.heap.size 34 1 v L vs) := hvs1
    have HVs : Hid (vs.length = acc.length ∧ ∀ (i : Nat) (x : List Nat) (u : Value), acc[i]? = some x → vs[i]? = some u → Ow wr w0.heap.size u x ∧ ∀ b, v.ownBlock = some b → u.ownBlock ≠ some b) := ⟨hvs2, hvs3⟩
    obtain ⟨pv, cv, hv⟩ : ∃ p c, v = .slice p L c := by
      rcases Joins.ownsRow_forms hvs1 with ⟨e1, e2⟩ | ⟨g, c, e⟩
      · exact ⟨none, 0, by rw [e1, e2]⟩
      · exact ⟨_, c, e⟩
    subst hv
    obtain ⟨E, hE⟩ : ∃ E, E = place + used := ⟨_, rfl⟩
    obtain ⟨F, hF⟩ : ∃ F, F = first + L := ⟨_, rfl⟩
    obtain ⟨mo, hmo⟩ : ∃ mo, mo = s - used := ⟨_, rfl⟩
    obtain ⟨S, hS⟩ : ∃ S : Int, S = ((2 + E % s : Nat) : Int) := ⟨_, rfl⟩
    have HRec : Hid (Calls _ _ _ wr _) := record_ok (HP.out.keep0 HKw.out) ⟨HN.out.1, HN.out.2.1⟩ E mo (F : Int) (by have := HN.out; omega) (fun j hj => HKw.out.cellv (HT.out j hj) id)
    obtain ⟨O, hO⟩ : ∃ O, O = recW (nowOf dur T) s E (F : Int) (min mo 50) 0 [] := ⟨_, rfl⟩
    rw [← hO, ← hS] at HRec
    have HSt : Hid (Z = stepRs (nowOf dur T) s place first f9 used acc O) := by
      show _ = _
      rw [HR.out, recsW_succ, hO, hE, hF, hmo, hL]
    have HOl : Hid (∀ ys, O = some ys → 1 ≤ ys.length ∧ (ys.length + 39) / 40 ≤ s - used ∧ ys.length ≤ 2000) := fun ys hy => by
      have := recW_len _ 0 [] ys rfl (hO.symm.trans hy)
      omega
    have HW : Hid (wrap64 ((place : Int) + (used : Int)) = (E : Int) ∧ wrap64 ((first : Int) + (L : Int)) = (F : Int) ∧ wrap64 ((s : Int) - (used : Int)) = (mo : Int)) := ⟨(wrapPl hE (by have := HN.out; omega)).1, wrapFL hF (by have := HN.out; have := HLe.out.2; omega), wrapSU hmo hus (by have := HN.out; omega)⟩
    clear hvs1 hvs2 hvs3 hL hE hF hmo hS hO
    obtain ⟨hw1, hw2, hw3⟩ := HW.out
    go_wp2_with fail
    refine HRec.out.mono ?_
    rintro e9 w1 ⟨res, k1⟩
    have HK1 : Hid (Kp (fun _ => False) wr w1) := k1
    clear k1 HRec q0 q1 q2 q3 hw1 hw2 hw3
    cases O with
    | none =>
      have he : e9 = .returned (.tuple #[.slice none 0 0, flt S 70]) := res
      subst he
      have HZz : Hid (Z = (acc, used)) := HSt.out
      clear res HSt HOl
      go_wp2_with fail
      refine (HI.out _ _).mono ?_
      rintro e9 w2 ⟨rfl, k2⟩
      have HK2 : Hid (Kp (fun _ => False) wr w2) := HK1.out.trans k2 (fun _ _ e => e)
      clear k2
      go_wp2
      go_ret3
      rw [HZz.out]
      exact ⟨_, rfl, HKw.out.trans HK2.out (fun _ _ e => e), (HO.out.1.keep0 HK2.out).base HG.out⟩
    | some ys =>
      obtain ⟨u, ou, he⟩ := res
      subst he
      obtain ⟨N9, hN9⟩ : ∃ N, N = ys.length := ⟨_, rfl⟩
      obtain ⟨K9, hK9⟩ : ∃ K, K = (N9 + 39) / 40 := ⟨_, rfl⟩
      obtain ⟨U, hU⟩ : ∃ U, U = used + K9 := ⟨_, rfl⟩
      obtain ⟨l1, l2, l3⟩ := HOl.out ys rfl
      rw [← hN9] at l1 l2 l3
      rw [← hK9] at l2
      have HBd : Hid (1 ≤ K9 ∧ K9 ≤ s - used ∧ N9 ≤ 2000 ∧ U = used + K9) := ⟨by omega, l2, l3, hU⟩
      obtain ⟨pu, cu, hu⟩ := own_form ou
      rw [← hN9] at hu
      subst hu
      have HOu : Hid (Ow w1 wr.heap.size (.slice pu N9 cu) ys) := ou
      have HWu : Hid (wrap64 ((used : Int) + (K9 : Int)) = (U : Int)) := (wrapPl hU (by have := HN.out; have := HBd.out; omega)).1
      have HZz : Hid (Z = recsW (nowOf dur T) s place first f9 U (acc ++ [ys])) := by
        show _ = _
        rw [hU, hK9, hN9]
        exact HSt.out
      have HSec : Hid (∀ u, Calls Tryz.prog 126 #[.slice pu N9 cu] u fun e w' => e = .returned (.int .i64 (K9 : Int)) ∧ w' = u) := fun u => sectorsOf_ok pu N9 cu K9 hK9 (by have := HBd.out; omega) u
      obtain ⟨w3, hw3⟩ : ∃ y, y = w1.alloc (.cells #[.slice pu N9 cu] 34) := ⟨_, rfl⟩
      have k3 : Kp (fun _ => False) w1 w3 := by rw [hw3]; exact (Kp.refl _ _).alloc _
      have HK3 : Hid (Kp (fun _ => False) wr w3) := HK1.out.trans k3 (fun _ _ e => e)
      have HO3 : Hid (w3.ownsRow w0.heap.size 34 1 (.slice pv L cv) L vs) := ownsRow_keep HV.out HK3.out (fun _ _ e => e)
      have HC3 : Hid (w3.cell? ⟨w1.heap.size, 0, none⟩ = some (.slice pu N9 cu)) := by
        have l3 : Lv w3 w1.heap.size [.slice pu N9 cu] := by rw [hw3]; exact Lv.new _ _ _
        exact l3.cell (j := 0) rfl
      have HU3 : Hid (Ow w3 w0.heap.size (.slice pu N9 cu) ys ∧ ∀ b, (Value.slice pv L cv).ownBlock = some b → (Value.slice pu N9 cu).ownBlock ≠ some b) := ⟨ownsRow_base (ownsRow_keep HOu.out k3 (fun _ _ e => e)) HK.out.size, fun b e1 e2 => by
        have h1 := (ownBlock_lt HV.out e1).2
        have h2 := (ownBlock_lt HOu.out e2).1
        omega⟩
      have HB3 : Hid (w0.heap.size ≤ w3.heap.size) := Nat.le_trans HK.out.size HK3.out.size
      clear ou l1 l2 l3 hN9 hK9 hU HSt HOl k3
      go_wp2_with fail
      refine (HI0.out _).mono ?_
      rintro e9 w2 ⟨rfl, hw2⟩
      have hw8 := hw2.symm
      subst hw8
      clear hw2
      have hwu := HWu.out
      go_wp2_with (first
        | (refine wpList_append_text (w1.alloc (.cells #[.slice pu N9 cu] 34)) rfl _ _ rfl w0.heap.size (.slice pv L cv) L vs (.slice pu N9 cu) w1.heap.size rfl (by rw [← hw3]; exact HO3.out) rfl rfl (by rw [← hw3]; exact HC3.out) (by have := HLe.out; have := HN.out; omega) (by rw [← hw3]; exact HB3.out) ?_; intro v5 w5 o5 k5 hv5; rw [← hw3] at k5 hv5))
      refine (HSec.out _).mono ?_
      rintro e9 w6 ⟨rfl, hw6⟩
      have hw8 := hw6.symm
      subst hw8
      clear hw6
      have HF : Hid (Kp (fun _ => False) w0 w5 ∧ Rw w5 w0.heap.size v5 (acc ++ [ys]) ∧ (acc ++ [ys]).length ≤ U) := by
        refine ⟨Kp.app (HK.out.trans HK3.out (fun _ _ e => e)) HO3.out k5, ?_, ?_⟩
        · rw [HLe.out.1] at o5
          exact Rw.app HVs.out.1 (fun i x u hx hu => ⟨ownsRow_keep (HVs.out.2 i x u hx hu).1 HK3.out (fun _ _ e => e), (HVs.out.2 i x u hx hu).2⟩) HU3.out.1 HU3.out.2 o5 k5 hv5
        · rw [List.length_append]
          have := HO.out.2
          have := HBd.out
          simp
          omega
      clear o5 k5 hv5 hwu hw3
      have hwu := HWu.out
      go_wp2
      go_roundg f9
      case rel =>
        clear hwu
        exact ⟨f9, U, acc ++ [ys], v5, by have := HBd.out; omega, by have := HBd.out; omega, rfl, rfl, by first | rfl | rw [HWu.out], HF.out.1, HF.out.2, HZz.out⟩
      case measure => omega
end Go.Proofs.YtmooddbhcccicaaGreatDoor

/- Texts of this proof, joined: Pl5, Bf. -/
/- The verifier's written: a plate of six sectors, of which some were written. -/
namespace Go.Proofs.YtmooddbhcccicaaGreatDoor
open Go.RowKit Go.Deep Go.Maps

/-- the calls of a list, as they lie -/
structure Dos (w : World) (v : Value) (L : Nat) : Prop where
  form : ∃ (g : Option Addr) (gb go cap : Nat), v = .slice g L cap ∧ (0 < L → g = some ⟨gb, go, none⟩) ∧ ∀ r, r < L → ∃ (op i tn nn : Int) (p : Option Addr) (nb cb : Nat) (xs : List Nat) (pk : Option Addr) (nk ck : Nat),
    w.cell? ⟨gb, go + r * 6, none⟩ = some (.int .i64 op) ∧ w.cell? ⟨gb, go + r * 6 + 1, none⟩ = some (.int .i64 i) ∧ w.cell? ⟨gb, go + r * 6 + 2, none⟩ = some (.int .i64 tn) ∧ w.cell? ⟨gb, go + r * 6 + 3, none⟩ = some (.int .i64 nn) ∧
    w.cell? ⟨gb, go + r * 6 + 4, none⟩ = some (.slice p nb cb) ∧ w.cell? ⟨gb, go + r * 6 + 5, none⟩ = some (.slice pk nk ck) ∧ Rb w p nb xs
  many : (L : Int) ≤ 9223372036854775807

/-- texts of 64 bytes each, in blocks of their own -/
structure Nows (w : World) (b d m t n : Nat) (V : Nat → Value) (N : Nat → List Nat) : Prop where
  top : w.rowIs t 34 n V
  row : ∀ r, r < n → ∃ bb o c, V r = .slice (some ⟨bb, o, none⟩) 64 c ∧ Rb w (some ⟨bb, o, none⟩) 64 (N r) ∧ bb ≠ t ∧ bb ≠ d ∧ bb ≠ m ∧ bb ≠ b
  tb : t ≠ b ∧ t ≠ d ∧ t ≠ m
theorem Nows.keep {S : Nat → Prop} {w w' : World} {b d m t n : Nat} {V : Nat → Value} {N : Nat → List Nat} (h : Nows w b d m t n V N) (k : Kp S w w') (hS : ∀ x, S x → x = b ∨ x = d ∨ x = m) : Nows w' b d m t n V N := by
  refine ⟨k.row h.top (fun e => by have h1 := hS _ e; obtain ⟨h2, h3, h4⟩ := h.tb; rcases h1 with h1 | h1 | h1 <;> contradiction), fun r hr => ?_, h.tb⟩
  obtain ⟨bb, o, c, h1, h2, h3, h4, h5, h6⟩ := h.row r hr
  exact ⟨bb, o, c, h1, h2.keep k (fun a ha _ e => by cases ha; have h1 := hS _ e; dsimp only at h1; rcases h1 with h1 | h1 | h1 <;> contradiction), h3, h4, h5, h6⟩

theorem info42 : (Tryz.prog.info? 34).map (fun i => (i.zero, i.size, i.bytes)) = some (some (.slice none 0 0), 1, 24) := by kernel_rfl

/-- what a copy of bytes leaves in 64 noughts -/
def cp64 (xs : List Nat) : List Nat := (xs ++ List.replicate 64 0).take 64
theorem cp64_sec {xs : List Nat} (h : ∀ x ∈ xs, x < 256) : Sec (cp64 xs) := by
  refine ⟨by simp [cp64], fun x hx => ?_⟩
  rcases List.mem_append.1 (List.mem_of_mem_take hx) with hx | hx
  · exact h x hx
  · rw [List.eq_of_mem_replicate hx]; omega
theorem cp64_get (xs : List Nat) {j : Nat} (hj : j < 64) : (cp64 xs).getD j 0 = if j < xs.length then xs.getD j 0 else 0 := by
  unfold cp64
  rw [List.getD_eq_getElem?_getD, List.getElem?_take_of_lt hj]
  by_cases h : j < xs.length
  · rw [if_pos h, List.getElem?_append_left h, List.getD_eq_getElem?_getD]
  · rw [if_neg h, List.getElem?_append_right (by omega), List.getElem?_replicate]
    split <;> rfl
theorem wpList_copy_64 {w : World} {ops : Array Oper} {rest : List Oper} {o : Oper} {a : Act} {Q : Exit → Act → World → Prop} (hgd : o.guard = none) (dd s : Operand)
    (ho : o.op = .call { callee := .builtin .copy, args := #[dd, s], argTypes := #[34, 34] }) (d : Nat) (p : Option Addr) (nb cb : Nat) (hd : a.eval dd = .slice (some ⟨d, 0, none⟩) 64 64) (hs : a.eval s = .slice p nb cb)
    (hg : w.rowIs d 5 64 (fun _ => .int .u8 0)) (xs : List Nat) (hr : Rb w p nb xs)
    (h : ∀ w', Kp (fun b => b = d) w w' → Rb w' (some ⟨d, 0, none⟩) 64 (cp64 xs) → wpList Tryz.prog ops Q rest (a.put o.dst (goInt (Nat.min nb 64))) w') : wpList Tryz.prog ops Q (o :: rest) a w := by
  have hfin : ∀ w', w'.rowIs d 5 64 (fun j => if 0 ≤ j ∧ j < 0 + Nat.min nb 64 then .int .u8 ((xs.getD (j - 0) 0 : Nat) : Int) else .int .u8 0) → Rb w' (some ⟨d, 0, none⟩) 64 (cp64 xs) := fun w' hr' =>
    ⟨(cp64_sec hr.byte).1, (cp64_sec hr.byte).2, fun j hj => ⟨d, 0, rfl, by
      have hmin : Nat.min nb 64 = min nb 64 := rfl
      rw [Nat.zero_add, hr'.cell hj, cp64_get xs hj, hr.len]
      by_cases h1 : j < nb
      · rw [if_pos ⟨Nat.zero_le _, by rw [hmin]; omega⟩, if_pos h1]; rfl
      · rw [if_neg (by rw [hmin]; omega), if_neg h1]; rfl⟩⟩
  by_cases h0 : nb = 0
  · subst h0
    obtain ⟨ii, hi, hz⟩ := Option.map_eq_some_iff.1 info5
    simp only [Prod.mk.injEq] at hz
    have hrun : (Builtin.copy_ #[34, 34] o.type #[.slice (some ⟨d, 0, none⟩) 64 64, .slice p 0 cb]).run Tryz.prog w = .ok (goInt 0) w := by
      cases p <;> simp [Builtin.copy_, run_underlying Tryz.underlying34, sizeOf, typeInfo, hi, Builtin.lenOf, Builtin.firstCells, loadCells, loadCellsFrom, storeCells]
    refine wpList_plain hgd fun K hK => ?_
    unfold Oper.wp
    simp [execOp, ho, resolve, invoke, builtin, hd, hs, hrun, Result.andThen]
    exact hK _ _ (h w (Kp.refl _ _) (hfin w (hg.congr (fun j _ => by rw [if_neg (by simp)]))))
  · obtain ⟨bb, oo, rfl, hcell⟩ := hr.pt (by omega)
    have hmin : Nat.min nb 64 = min nb 64 := rfl
    have hr2 : Rb w (some ⟨bb, oo, none⟩) (Nat.min nb 64) (xs.take (Nat.min nb 64)) :=
      ⟨by rw [List.length_take, hr.len, hmin]; omega, fun x hx => hr.byte x (List.mem_of_mem_take hx), fun j hj => ⟨bb, oo, rfl, by
        rw [hcell j (by rw [hmin] at hj; omega), List.getD_eq_getElem?_getD, List.getD_eq_getElem?_getD, List.getElem?_take_of_lt hj]⟩⟩
    refine wpList_copy_sec hgd dd s ho d 0 64 bb oo cb nb (Nat.min nb 64) rfl hd hs 64 _ hg (Nat.le_refl _) _ hr2 ?_
    intro w' k' _ r'
    refine h w' k' (hfin w' (r'.congr (fun j hj => ?_)))
    by_cases h1 : 0 ≤ j ∧ j < 0 + Nat.min nb 64
    · rw [if_pos h1, if_pos h1, List.getD_eq_getElem?_getD, List.getD_eq_getElem?_getD, List.getElem?_take_of_lt (by omega)]
    · rw [if_neg h1, if_neg h1]

theorem nowOf_sync {w : World} {b d m n q : Nat} {dur : List Nat} {T : Nat → Option (List Nat)} (h : Pt w b d m n q dur T) {i : Nat} (hi : i < n) : nowOf (durAll dur T n) (fun _ => none) i = nowOf dur T i := by
  have hl : (durAll dur T n).length = n * 64 := by simp [durAll]
  have hget : ∀ j, j < n * 64 → (durAll dur T n)[j]? = some (Sf dur T (fun _ => false) j) := fun j hj => by unfold durAll; rw [List.getElem?_map, List.getElem?_range hj]; rfl
  obtain ⟨D, _, hDD, _⟩ := h.mp
  have key : ∀ ys : List Nat, ys.length = 64 → (∀ j, j < 64 → ys[j]? = some (Sf dur T (fun _ => false) (i * 64 + j))) → (((durAll dur T n).drop (i * 64)).take 64) = ys := fun ys hy hj => by
    apply List.ext_getElem?
    intro j
    by_cases h64 : j < 64
    · rw [List.getElem?_take_of_lt h64, List.getElem?_drop, hget _ (by omega), hj j h64]
    · rw [List.getElem?_eq_none (by rw [List.length_take]; omega), List.getElem?_eq_none (by omega)]
  unfold nowOf
  show ((durAll dur T n).drop (i * 64)).take 64 = _
  cases hT : T i with
  | none =>
    show _ = (dur.drop (i * 64)).take 64
    refine key _ (h.durSec hi).1 (fun j hj => ?_)
    rw [List.getElem?_take_of_lt hj, List.getElem?_drop]
    unfold Sf
    rw [show (i * 64 + j) / 64 = i from by omega, hT]
    show _ = some (dur.getD (i * 64 + j) 0)
    rw [List.getD_eq_getElem?_getD, List.getElem?_eq_getElem (by rw [h.len]; omega)]; rfl
  | some xs =>
    have hs := ((hDD i hi).2 xs hT).1
    show _ = xs
    refine key _ hs.1 (fun j hj => ?_)
    unfold Sf
    rw [show (i * 64 + j) / 64 = i from by omega, hT, show (i * 64 + j) % 64 = j from by omega]
    simp only [Bool.false_eq_true, if_false]
    rw [List.getD_eq_getElem?_getD, List.getElem?_eq_getElem (by rw [hs.1]; exact hj)]; rfl

/-- what written leaves -/
def Wst (w w' : World) (b d m q t : Nat) : Prop := Kp (fun _ => False) w w' ∧ (q : Int) ≤ 9223372036854775807 ∧ w.heap.size ≤ b ∧ w.heap.size ≤ d ∧ w.heap.size ≤ m ∧ w.heap.size ≤ t ∧
  ∃ (V : Nat → Value) (N : Nat → List Nat) (dur : List Nat) (T : Nat → Option (List Nat)), Pt w' b d m 6 q dur T ∧ Nows w' b d m t 6 V N ∧ ∀ i, i < 6 → N i = nowOf dur T i
def m6 (n : Int) : Nat := ((n % 18446744073709551616) % 6).toNat
theorem m6_lt (n : Int) : (m6 n : Int) < 6 := by unfold m6; omega
theorem m6_eq (n : Int) : wrap64 ((IntKind.u64.wrap n).tmod 6) = (m6 n : Int) := by
  have h : IntKind.u64.wrap n = n % 18446744073709551616 := by simp [IntKind.wrap, IntKind.bits, IntKind.signed]
  rw [h]
  have h0 : 0 ≤ n % 18446744073709551616 := Int.emod_nonneg _ (by omega)
  rw [Int.tmod_eq_emod_of_nonneg h0]
  unfold m6 wrap64
  omega
theorem Nows.put {w w' : World} {b d m t n : Nat} {V : Nat → Value} {N : Nat → List Nat} {i g c : Nat} {xs : List Nat} (h : Nows w b d m t n V N) (_hi : i < n) (hr : Rb w (some ⟨g, 0, none⟩) 64 xs) (hg : g ≠ t ∧ g ≠ d ∧ g ≠ m ∧ g ≠ b) (hw : w' = w.setCell ⟨t, i, none⟩ (.slice (some ⟨g, 0, none⟩) 64 c)) :
    Nows w' b d m t n (fun j => if j = i then .slice (some ⟨g, 0, none⟩) 64 c else V j) (fun j => if j = i then xs else N j) := by
  have ks : Kp (fun x => x = t) w w' := by rw [hw]; exact (Kp.refl (fun x => x = t) w).setCell (a := ⟨t, i, none⟩) (fun _ => rfl) _
  refine ⟨by rw [hw]; exact h.top.set i _, fun r hr' => ?_, h.tb⟩
  by_cases e : r = i
  · simp only [if_pos e]
    exact ⟨g, 0, c, rfl, hr.keep ks (fun a ha _ e => by cases ha; exact hg.1 e), hg⟩
  · simp only [if_neg e]
    obtain ⟨bb, o, c, h1, h2, h3, h4⟩ := h.row r hr'
    exact ⟨bb, o, c, h1, h2.keep ks (fun a ha _ e => by cases ha; exact h3 e), h3, h4⟩

end Go.Proofs.YtmooddbhcccicaaGreatDoor

/- What a record's sector, and a head, say when they are read (plain). -/
namespace Go.Proofs.YtmooddbhcccicaaGreatDoor
set_option linter.unusedVariables false
set_option linter.unusedSimpArgs false
open Go.RowKit Go.Deep

theorem getD_app1 {l m : List Nat} {j : Nat} (h : j < l.length) : (l ++ m).getD j 0 = l.getD j 0 := by
  rw [List.getD_eq_getElem?_getD, List.getD_eq_getElem?_getD, List.getElem?_append_left h]
theorem getD_app2 {l m : List Nat} {j : Nat} (h : l.length ≤ j) : (l ++ m).getD j 0 = m.getD (j - l.length) 0 := by
  rw [List.getD_eq_getElem?_getD, List.getD_eq_getElem?_getD, List.getElem?_append_right h]
theorem nouW_len (n : Nat) : (nouW n).length = n := by unfold nouW; exact List.length_replicate
theorem nouW_get (n j : Nat) : (nouW n).getD j 0 = 0 := by
  unfold nouW
  rw [List.getD_eq_getElem?_getD, List.getElem?_replicate]
  split <;> rfl
theorem sealB_len {xs : List Nat} (h : xs.length = 64) : (sealB xs).length = 64 := by
  unfold sealB
  simp [big_length, h]
theorem sealB_get {xs : List Nat} (h : xs.length = 64) {j : Nat} (hj : j < 59) : (sealB xs).getD j 0 = xs.getD j 0 := by
  unfold sealB
  rw [List.append_assoc, getD_app1 (by rw [List.length_take, h]; omega), getD_take0 _ _ _ hj]
theorem sealB_last {xs : List Nat} (h : xs.length = 64) : (sealB xs).getD 63 0 = 167 := by
  unfold sealB
  rw [getD_app2 (by rw [List.length_append, List.length_take, big_length, h]; decide)]
  rw [List.length_append, List.length_take, big_length, h]
  rfl
theorem pcP_len {u : Nat} {ys : List Nat} {f l : Bool} (h : ys.length ≤ 40) : (pcP u ys f l).length = 64 := by
  have h1 : (spl ((nouW 64).set 0 114) 1 (big u 8)).length = 64 := by rw [spl_len (by rw [List.length_set, nouW_len, big_length]; omega), List.length_set, nouW_len]
  unfold pcP
  rw [spl_len (by rw [List.length_set, List.length_set, List.length_set, h1]; omega), List.length_set, List.length_set, List.length_set, h1]
theorem pcP_get {u : Nat} {ys : List Nat} {f l : Bool} (h : ys.length ≤ 40) (j : Nat) : (pcP u ys f l).getD j 0 = if 12 ≤ j ∧ j < 12 + ys.length then ys.getD (j - 12) 0 else if j = 11 then l.toNat else if j = 10 then f.toNat else if j = 9 then ys.length else if 1 ≤ j ∧ j < 1 + 8 then (big u 8).getD (j - 1) 0 else if j = 0 then 114 else 0 := by
  have h1 : (spl ((nouW 64).set 0 114) 1 (big u 8)).length = 64 := by rw [spl_len (by rw [List.length_set, nouW_len, big_length]; omega), List.length_set, nouW_len]
  unfold pcP
  rw [spl_get (by rw [List.length_set, List.length_set, List.length_set, h1]; omega)]
  rw [getD_set0 _ _ _ _ (by rw [List.length_set, List.length_set, h1]; omega), getD_set0 _ _ _ _ (by rw [List.length_set, h1]; omega), getD_set0 _ _ _ _ (by rw [h1]; omega)]
  rw [spl_get (by rw [List.length_set, nouW_len, big_length]; omega), getD_set0 _ _ _ _ (by rw [nouW_len]; omega), nouW_get, big_length]
theorem mid_eq {xs ys : List Nat} {o : Nat} (h : o + ys.length ≤ xs.length) (hg : ∀ j, j < ys.length → xs.getD (o + j) 0 = ys.getD j 0) : (xs.drop o).take ys.length = ys := by
  refine list_ext0 (by rw [List.length_take, List.length_drop]; omega) fun j hj => ?_
  rw [List.length_take, List.length_drop] at hj
  rw [getD_take0 _ _ _ (by omega), ← hg j (by omega), List.getD_eq_getElem?_getD, List.getD_eq_getElem?_getD, List.getElem?_drop]
theorem numAt_eq {xs : List Nat} {o u : Nat} (hu : u < 9223372036854775808) (h : o + 8 ≤ xs.length) (hg : ∀ j, j < 8 → xs.getD (o + j) 0 = (big u 8).getD j 0) : numAt xs o = (u : Int) := by
  have h1 := mid_eq (ys := big u 8) (by rw [big_length]; exact h) (fun j hj => hg j (by rw [big_length] at hj; exact hj))
  rw [big_length] at h1
  unfold numAt
  rw [h1, hfW_big 8 u (Nat.lt_trans hu (by decide))]
  unfold i64Of
  rw [if_pos hu]
theorem pcB_say {u : Nat} {ys : List Nat} {f l : Bool} (hu : u < 9223372036854775808) (h : ys.length ≤ 40) : numAt (pcB u ys f l) 1 = (u : Int) ∧ bytP (pcB u ys f l) = ys ∧ fstP (pcB u ys f l) = f ∧ lstP (pcB u ys f l) = l := by
  have hl := pcP_len (u := u) (f := f) (l := l) h
  have hsl := sealB_len hl
  have hg : ∀ j, j < 59 → (pcB u ys f l).getD j 0 = (pcP u ys f l).getD j 0 := fun j hj => sealB_get hl hj
  have h9 : (pcB u ys f l).getD 9 0 = ys.length := by
    rw [hg 9 (by decide), pcP_get h, if_neg (by omega), if_neg (by omega), if_neg (by omega), if_pos rfl]
  have hc : cntP (pcB u ys f l) = ys.length := by unfold cntP; rw [h9]; omega
  refine ⟨numAt_eq hu (by show 1 + 8 ≤ (sealB _).length; omega) fun j hj => ?_, ?_, ?_, ?_⟩
  · rw [hg _ (by omega), pcP_get h, if_neg (by omega), if_neg (by omega), if_neg (by omega), if_neg (by omega), if_pos (by omega)]
    rw [show 1 + j - 1 = j by omega]
  · unfold bytP
    rw [hc]
    refine mid_eq (by show 12 + ys.length ≤ (sealB _).length; omega) fun j hj => ?_
    rw [hg _ (by omega), pcP_get h, if_pos (by omega)]
    rw [show 12 + j - 12 = j by omega]
  · unfold fstP
    rw [hg 10 (by decide), pcP_get h, if_neg (by omega), if_neg (by omega), if_pos rfl]
    cases f <;> rfl
  · unfold lstP
    rw [hg 11 (by decide), pcP_get h, if_neg (by omega), if_pos rfl]
    cases l <;> rfl
theorem u64Of_nat {u : Nat} (hu : u < 9223372036854775808) : u64Of (u : Int) = u := by
  unfold u64Of
  omega
/-- a sector that is written is the right one for its own place alone -/
theorem okR_pcB {u : Nat} {ys : List Nat} {f l : Bool} (hu : u < 9223372036854775808) (h : 1 ≤ ys.length ∧ ys.length ≤ 40) (hl : l = true ∨ ys.length = 40) (i : Nat) (hf : f = decide (i = 0)) : okR (pcB u ys f l) (u : Int) i = true := by
  obtain ⟨e1, e2, e3, e4⟩ := pcB_say (f := f) (l := l) hu h.2
  unfold okR rightP
  rw [e1, e2, e3, e4, u64Of_nat hu, decide_eq_true h.1, decide_eq_true rfl, decide_eq_true rfl, decide_eq_true hf]
  rcases hl with hl | hl
  · rw [hl]; rfl
  · rw [decide_eq_true hl, Bool.or_true]; rfl
/-- what is never a record's sector -/
def Bad (b : List Nat) : Prop := ∀ num i, okR b num i = false
theorem Bad.of_last {b : List Nat} (h : b.getD 63 0 ≠ 167) : Bad b := fun num i => by
  cases ho : okR b num i with
  | false => rfl
  | true =>
    obtain ⟨_, _, h3⟩ := okR_len ho
    unfold okR rightP at ho
    simp only [Bool.and_eq_true, decide_eq_true_eq] at ho
    exact absurd (by rw [ho.1.2.2]; exact sealB_last (pcP_len h3)) h
theorem bad_nou : Bad (nouW 64) := Bad.of_last (by rw [nouW_get]; decide)
theorem bad_torn {xs : List Nat} {c : Nat} (hc : c ≤ 63) (hx : xs.length = 64) : Bad (xs.take c ++ (nouW 64).drop c) := Bad.of_last (by
  rw [getD_app2 (by rw [List.length_take]; omega)]
  unfold nouW
  rw [List.drop_replicate]
  rw [List.getD_eq_getElem?_getD, List.getElem?_replicate]
  split <;> decide)

theorem hdP_len (a b c d : Nat) : (hdP a b c d).length = 64 := by
  unfold hdP
  have h1 : (spl ((nouW 64).set 0 104) 1 (big a 8)).length = 64 := by rw [spl_len (by rw [List.length_set, nouW_len, big_length]; omega), List.length_set, nouW_len]
  have h2 : (spl (spl ((nouW 64).set 0 104) 1 (big a 8)) 9 (big b 8)).length = 64 := by rw [spl_len (by rw [h1, big_length]; omega), h1]
  have h3 : (spl (spl (spl ((nouW 64).set 0 104) 1 (big a 8)) 9 (big b 8)) 17 (big c 8)).length = 64 := by rw [spl_len (by rw [h2, big_length]; omega), h2]
  rw [spl_len (by rw [h3, big_length]; omega), h3]
theorem hdP_get (a b c d j : Nat) : (hdP a b c d).getD j 0 = if 25 ≤ j ∧ j < 25 + 8 then (big d 8).getD (j - 25) 0 else if 17 ≤ j ∧ j < 17 + 8 then (big c 8).getD (j - 17) 0 else if 9 ≤ j ∧ j < 9 + 8 then (big b 8).getD (j - 9) 0 else if 1 ≤ j ∧ j < 1 + 8 then (big a 8).getD (j - 1) 0 else if j = 0 then 104 else 0 := by
  unfold hdP
  have h1 : (spl ((nouW 64).set 0 104) 1 (big a 8)).length = 64 := by rw [spl_len (by rw [List.length_set, nouW_len, big_length]; omega), List.length_set, nouW_len]
  have h2 : (spl (spl ((nouW 64).set 0 104) 1 (big a 8)) 9 (big b 8)).length = 64 := by rw [spl_len (by rw [h1, big_length]; omega), h1]
  have h3 : (spl (spl (spl ((nouW 64).set 0 104) 1 (big a 8)) 9 (big b 8)) 17 (big c 8)).length = 64 := by rw [spl_len (by rw [h2, big_length]; omega), h2]
  rw [spl_get (by rw [h3, big_length]; omega), spl_get (by rw [h2, big_length]; omega), spl_get (by rw [h1, big_length]; omega), spl_get (by rw [List.length_set, nouW_len, big_length]; omega), getD_set0 _ _ _ _ (by rw [nouW_len]; omega), nouW_get, big_length, big_length, big_length, big_length]
theorem sayH_hdB {a b c d : Nat} (ha : a < 9223372036854775808) (hb : b < 9223372036854775808) (hc : c < 9223372036854775808) (hd : d < 9223372036854775808) : sayH (hdB a b c d) = ⟨a, b, c, d⟩ := by
  have hl := hdP_len a b c d
  have hsl := sealB_len hl
  have hg : ∀ j, j < 59 → (hdB a b c d).getD j 0 = (hdP a b c d).getD j 0 := fun j hj => sealB_get hl hj
  have e1 : numAt (hdB a b c d) 1 = (a : Int) := numAt_eq ha (by show 1 + 8 ≤ (sealB _).length; omega) fun j hj => by
    rw [hg _ (by omega), hdP_get, if_neg (by omega), if_neg (by omega), if_neg (by omega), if_pos (by omega), show 1 + j - 1 = j by omega]
  have e2 : numAt (hdB a b c d) 9 = (b : Int) := numAt_eq hb (by show 9 + 8 ≤ (sealB _).length; omega) fun j hj => by
    rw [hg _ (by omega), hdP_get, if_neg (by omega), if_neg (by omega), if_pos (by omega), show 9 + j - 9 = j by omega]
  have e3 : numAt (hdB a b c d) 17 = (c : Int) := numAt_eq hc (by show 17 + 8 ≤ (sealB _).length; omega) fun j hj => by
    rw [hg _ (by omega), hdP_get, if_neg (by omega), if_pos (by omega), show 17 + j - 17 = j by omega]
  have e4 : numAt (hdB a b c d) 25 = (d : Int) := numAt_eq hd (by show 25 + 8 ≤ (sealB _).length; omega) fun j hj => by
    rw [hg _ (by omega), hdP_get, if_pos (by omega), show 25 + j - 25 = j by omega]
  unfold sayH
  rw [e1, e2, e3, e4]
theorem cntB_nat {a : Nat} (h : 1 ≤ a ∧ a ≤ 1152921504606846976) : cntB (a : Int) = true := by
  unfold cntB
  rw [decide_eq_true (by omega), decide_eq_true (by omega)]
  rfl
theorem okH_hdB {a b c d i s : Nat} (ha : 1 ≤ a ∧ a ≤ 1152921504606846976) (hb : 1 ≤ b ∧ b ≤ 1152921504606846976) (hc : c < s) (hs : s ≤ 8192) (hd : 1 ≤ d ∧ d ≤ 1152921504606846976) (hi : a % 2 = i) : okH (hdB a b c d) i s = true := by
  unfold okH
  rw [sayH_hdB (by omega) (by omega) (by omega) (by omega)]
  unfold rightH
  rw [cntB_nat ha, cntB_nat hb, cntB_nat hd, decide_eq_true (show (0 : Int) ≤ (c : Int) by omega), decide_eq_true (show (c : Int) < (s : Int) by omega)]
  rw [decide_eq_true (by simp)]
  have : ((a : Int).tmod 2 == (i : Int)) = true := by
    rw [beq_iff_eq, Int.tmod_eq_emod_of_nonneg (by omega)]
    omega
  rw [this]
  rfl
theorem okH_nou (i : Nat) (s : Int) : okH (nouW 64) i s = false := by
  unfold okH sayH rightH
  rw [numAt_nou, numAt_nou, numAt_nou, numAt_nou]
  rfl
/-- the head that counts: sector i has it, and the other sector has none that is newer -/
theorem newH_of {dur : List Nat} {T : Nat → Option (List Nat)} {s a b c d : Nat} (ha : 1 ≤ a ∧ a ≤ 1152921504606846976) (hb : 1 ≤ b ∧ b ≤ 1152921504606846976) (hc : c < s) (hs : s ≤ 8192) (hd : 1 ≤ d ∧ d ≤ 1152921504606846976) (h1 : nowOf dur T (a % 2) = hdB a b c d) (h2 : ∀ i, i < 2 → i ≠ a % 2 → okH (nowOf dur T i) i s = true → (sayH (nowOf dur T i)).a < (a : Int)) : newH dur T s 2 = ⟨a, b, c, d⟩ := by
  have hsay : sayH (nowOf dur T (a % 2)) = ⟨a, b, c, d⟩ := by rw [h1]; exact sayH_hdB (by omega) (by omega) (by omega) (by omega)
  have hme : ∀ A : H4, A.a < (a : Int) → stepH dur T s A (a % 2) = ⟨a, b, c, d⟩ := fun A hA => by
    unfold stepH
    rw [hsay, h1, okH_hdB ha hb hc hs hd rfl]
    rw [decide_eq_true hA]
    rfl
  have hoth : ∀ (A : H4) i, i < 2 → i ≠ a % 2 → (stepH dur T s A i = A ∨ (stepH dur T s A i).a < (a : Int)) := fun A i hi hne => by
    unfold stepH
    by_cases h : (okH (nowOf dur T i) i s && decide (A.a < (sayH (nowOf dur T i)).a)) = true
    · rw [if_pos h]
      rw [Bool.and_eq_true] at h
      exact Or.inr (h2 i hi hne h.1)
    · rw [if_neg h]
      exact Or.inl rfl
  have hkeep : ∀ i, i < 2 → i ≠ a % 2 → stepH dur T s ⟨a, b, c, d⟩ i = ⟨a, b, c, d⟩ := fun i hi hne => by
    unfold stepH
    rw [if_neg]
    intro h
    rw [Bool.and_eq_true, decide_eq_true_eq] at h
    have := h2 i hi hne h.1
    have h9 : (a : Int) < (sayH (nowOf dur T i)).a := h.2
    omega
  show stepH dur T s (stepH dur T s ⟨0, 0, 0, 0⟩ 0) 1 = _
  rcases Nat.mod_two_eq_zero_or_one a with e | e
  · have h0 : stepH dur T s ⟨0, 0, 0, 0⟩ 0 = ⟨a, b, c, d⟩ := by
      have := hme ⟨0, 0, 0, 0⟩ (show (0 : Int) < (a : Int) by omega)
      rw [e] at this
      exact this
    rw [h0]
    exact hkeep 1 (by omega) (by omega)
  · have := hme (stepH dur T s ⟨0, 0, 0, 0⟩ 0) (by
      rcases hoth ⟨0, 0, 0, 0⟩ 0 (by omega) (by omega) with h | h
      · rw [h]; show (0 : Int) < (a : Int); omega
      · exact h)
    rw [e] at this
    exact this
theorem nowOf_dur {dur : List Nat} {T : Nat → Option (List Nat)} {n : Nat} (hdl : dur.length = n * 64) (hTl : ∀ i xs, T i = some xs → xs.length = 64) {i : Nat} (hi : i < n) : nowOf (durAll dur T n) (fun _ => none) i = nowOf dur T i := by
  have hl : (durAll dur T n).length = n * 64 := by simp [durAll]
  have hget : ∀ j, j < n * 64 → (durAll dur T n)[j]? = some (Sf dur T (fun _ => false) j) := fun j hj => by unfold durAll; rw [List.getElem?_map, List.getElem?_range hj]; rfl
  have key : ∀ ys : List Nat, ys.length = 64 → (∀ j, j < 64 → ys[j]? = some (Sf dur T (fun _ => false) (i * 64 + j))) → (((durAll dur T n).drop (i * 64)).take 64) = ys := fun ys hy hj => by
    apply List.ext_getElem?
    intro j
    by_cases h64 : j < 64
    · rw [List.getElem?_take_of_lt h64, List.getElem?_drop, hget _ (by omega), hj j h64]
    · rw [List.getElem?_eq_none (by rw [List.length_take]; omega), List.getElem?_eq_none (by omega)]
  unfold nowOf
  show ((durAll dur T n).drop (i * 64)).take 64 = _
  cases hT : T i with
  | none =>
    show _ = (dur.drop (i * 64)).take 64
    refine key _ (by rw [List.length_take, List.length_drop, hdl]; omega) (fun j hj => ?_)
    rw [List.getElem?_take_of_lt hj, List.getElem?_drop]
    unfold Sf
    rw [show (i * 64 + j) / 64 = i from by omega, hT]
    show _ = some (dur.getD (i * 64 + j) 0)
    rw [List.getD_eq_getElem?_getD, List.getElem?_eq_getElem (by rw [hdl]; omega)]; rfl
  | some xs =>
    have hs := hTl i xs hT
    show _ = xs
    refine key _ hs (fun j hj => ?_)
    unfold Sf
    rw [show (i * 64 + j) / 64 = i from by omega, hT, show (i * 64 + j) % 64 = j from by omega]
    simp only [Bool.false_eq_true, if_false]
    rw [List.getD_eq_getElem?_getD, List.getElem?_eq_getElem (by rw [hs]; exact hj)]; rfl
theorem durAll_len (dur : List Nat) (T : Nat → Option (List Nat)) (n : Nat) : (durAll dur T n).length = n * 64 := by simp [durAll]
/-- what a plate has behind a head was written -/
theorem nowOf_wrHead {dur : List Nat} {T : Nat → Option (List Nat)} {n i : Nat} {hd : List Nat} (hdl : dur.length = n * 64) (hTl : ∀ i xs, T i = some xs → xs.length = 64) (hh : hd.length = 64) {j : Nat} (hj : j < n) : nowOf (wrHead dur T n i hd) (fun _ => none) j = if j = i then hd else nowOf dur T j := by
  unfold wrHead
  rw [nowOf_dur (durAll_len _ _ _) (fun k xs hk => by
    split at hk
    · cases hk; exact hh
    · cases hk) hj]
  by_cases hji : j = i
  · rw [if_pos hji]
    show (if j = i then some hd else none).getD _ = hd
    rw [if_pos hji]
    rfl
  · have e1 : nowOf (durAll dur (fun j => if j = i then some (nouW 64) else T j) n) (fun j => if j = i then some hd else none) j = nowOf (durAll dur (fun j => if j = i then some (nouW 64) else T j) n) (fun _ => none) j := by
      show (if j = i then some hd else none).getD _ = (none : Option (List Nat)).getD _
      rw [if_neg hji]
    rw [e1, nowOf_dur hdl (fun k xs hk => by
      split at hk
      · cases hk; exact nouW_len 64
      · exact hTl k xs hk) hj, if_neg hji]
    show (if j = i then some (nouW 64) else T j).getD _ = (T j).getD _
    rw [if_neg hji]
theorem hdB_len (a b c d : Nat) : (hdB a b c d).length = 64 := sealB_len (hdP_len a b c d)
end Go.Proofs.YtmooddbhcccicaaGreatDoor

/- Texts of this proof, joined: MgAJ, MgAC, MgAD. -/
/- Texts of this proof, joined: Pl3, Pl4. -/
/- The walk of a plate's Sync. -/
namespace Go.Proofs.YtmooddbhcccicaaGreatDoor
open Go.RowKit Go.Deep Go.Maps

/-- a sector is copied into a row, at an offset -/
theorem wpList_copy_sec {w : World} {ops : Array Oper} {rest : List Oper} {o : Oper} {a : Act} {Q : Exit → Act → World → Prop} (hgd : o.guard = none) (dd s : Operand)
    (ho : o.op = .call { callee := .builtin .copy, args := #[dd, s], argTypes := #[34, 34] }) (d off dc br ob sc sl k : Nat) (hk : k = Nat.min sl 64) (hd : a.eval dd = .slice (some ⟨d, off, none⟩) 64 dc) (hs : a.eval s = .slice (some ⟨br, ob, none⟩) sl sc)
    (m : Nat) (f : Nat → Value) (hg : w.rowIs d 5 m f) (hm : off + 64 ≤ m) (ys : List Nat) (hr : Rb w (some ⟨br, ob, none⟩) k ys)
    (h : ∀ w', Kp (fun b => b = d) w w' → w'.heap.size = w.heap.size → w'.rowIs d 5 m (fun j => if off ≤ j ∧ j < off + k then .int .u8 ((ys.getD (j - off) 0 : Nat) : Int) else f j) → wpList Tryz.prog ops Q rest (a.put o.dst (goInt k)) w') : wpList Tryz.prog ops Q (o :: rest) a w := by
  obtain ⟨cur, hc, hcs, hcv⟩ := hg
  have hl : (vl ys).length = k := by rw [vl_length, hr.len]
  have hk64 : k ≤ 64 := by rw [hk]; exact Nat.min_le_right _ _
  have := wpList_copy_own (P := Tryz.prog) (w := w) (ops := ops) (rest := rest) (o := o) (a := a) (Q := Q) hgd dd s 34 34 ho 5 Tryz.underlying34 (by kernel_rfl) d off 64 dc ⟨br, ob, none⟩ sl sc hd hs cur 5 hc (vl ys)
    (by rw [hl]; exact hk) (fun j v hj => by
      rw [Addr.add_mid]
      exact rb_range hr j v hj) (by rw [hl]; omega) (vl_one ys)
  refine this ?_
  rw [hl]
  refine h _ ⟨rfl, rfl, rfl, by simp [World.setRow], fun x _ hne => setRow_other w d x _ hne⟩ (by simp [World.setRow]) ⟨_, setRow_heap w d cur _ 5 (0, 0) hc, ?_, fun i hi => ?_⟩
  · simp [hl]; omega
  · rw [List.getElem?_toArray]
    dsimp only
    have hto : (cur.toList.take off).length = off := by rw [List.length_take, Array.length_toList, hcs]; omega
    by_cases h0 : i < off
    · rw [List.getElem?_append_left (by rw [hto]; exact h0), List.getElem?_take_of_lt h0, Array.getElem?_toList, if_neg (by omega)]
      exact hcv i hi
    · rw [List.getElem?_append_right (by rw [hto]; omega), hto]
      by_cases h1 : i < off + k
      · rw [List.getElem?_append_left (by rw [hl]; omega), vl_get (by rw [hr.len]; omega), if_pos ⟨by omega, h1⟩]
      · rw [List.getElem?_append_right (by rw [hl]; omega), hl, List.getElem?_drop, Array.getElem?_toList, if_neg (by omega), show off + k + (i - off - k) = i from by omega]
        exact hcv i hi

/-- .. into a sector of a plate's durable bytes -/
theorem wpList_copy_dr {w : World} {ops : Array Oper} {rest : List Oper} {o : Oper} {a : Act} {Q : Exit → Act → World → Prop} (hgd : o.guard = none) (dd s : Operand)
    (ho : o.op = .call { callee := .builtin .copy, args := #[dd, s], argTypes := #[34, 34] }) (d i n dc br ob sc k : Nat) (hk : k ≤ 64) (hd : a.eval dd = .slice (some ⟨d, i * 64, none⟩) 64 dc) (hs : a.eval s = .slice (some ⟨br, ob, none⟩) k sc)
    (g : Nat → Nat) (hg : Dr w d n g) (hi : i < n) (ys : List Nat) (hr : Rb w (some ⟨br, ob, none⟩) k ys)
    (h : ∀ w', Kp (fun b => b = d) w w' → w'.heap.size = w.heap.size → Dr w' d n (fun j => if i * 64 ≤ j ∧ j < i * 64 + k then ys.getD (j - i * 64) 0 else g j) → wpList Tryz.prog ops Q rest (a.put o.dst (goInt k)) w') : wpList Tryz.prog ops Q (o :: rest) a w := by
  obtain ⟨cp, f, hcp, hrow⟩ := hg
  refine wpList_copy_sec hgd dd s ho d (i * 64) dc br ob sc k k (by have : Nat.min k 64 = min k 64 := rfl; rw [this]; omega) hd hs cp _ hrow (by omega) ys hr ?_
  intro w' k' hz r'
  refine h w' k' hz ⟨cp, f, hcp, r'.congr (fun j _ => ?_)⟩
  dsimp only
  by_cases h1 : i * 64 ≤ j ∧ j < i * 64 + k
  · rw [if_pos h1, if_pos (by omega), if_pos h1]
  · rw [if_neg h1, if_neg h1]

theorem byte_getD {xs : List Nat} (h : ∀ x ∈ xs, x < 256) (j : Nat) : xs.getD j 0 < 256 := by
  by_cases hj : j < xs.length
  · rw [List.getD_eq_getElem?_getD, List.getElem?_eq_getElem hj]; exact h _ (List.getElem_mem hj)
  · rw [List.getD_eq_getElem?_getD, List.getElem?_eq_none (by omega)]; decide
/-- what is durable behind a Sync of which the sectors that left says are still to come -/
def Sf (dur : List Nat) (T : Nat → Option (List Nat)) (left : Lit → Bool) (j : Nat) : Nat :=
  match T (j / 64) with
  | some xs => if left (ik (j / 64)) then dur.getD j 0 else xs.getD (j % 64) 0
  | none => dur.getD j 0
theorem Sf_start {dur : List Nat} {T : Nat → Option (List Nat)} {left : Lit → Bool} (h : ∀ i xs, T i = some xs → left (ik i) = true) (j : Nat) : Sf dur T left j = dur.getD j 0 := by
  unfold Sf
  split
  · rename_i xs hx; rw [h _ xs hx, if_pos rfl]
  · rfl
theorem ik_same (i j : Nat) : (ik i).sameKey (ik j) = decide (i = j) := by
  by_cases e : i = j
  · subst e; simp [Lit.sameKey]
  · rw [sameKey_ne (fun h => e (ik_inj h)), decide_eq_false e]
theorem Sf_step {dur : List Nat} {T : Nat → Option (List Nat)} {left : Lit → Bool} {i : Nat} {xs : List Nat} (hi : T i = some xs) (j : Nat) :
    (if i * 64 ≤ j ∧ j < i * 64 + 64 then xs.getD (j - i * 64) 0 else Sf dur T left j) = Sf dur T (fun z => left z && !z.sameKey (ik i)) j := by
  by_cases h : i * 64 ≤ j ∧ j < i * 64 + 64
  · rw [if_pos h]
    have e1 : j / 64 = i := by omega
    have e2 : j % 64 = j - i * 64 := by omega
    unfold Sf
    rw [e1, hi]
    simp [Lit.sameKey, e2]
  · rw [if_neg h]
    have e1 : j / 64 ≠ i := by omega
    have e3 : (left (ik (j / 64)) && !(ik (j / 64)).sameKey (ik i)) = left (ik (j / 64)) := by rw [ik_same, decide_eq_false e1]; simp
    unfold Sf
    cases T (j / 64) with
    | none => rfl
    | some xs => simp only [e3]

/-- the next entry of a map of sectors -/
theorem wpList_next_sec {ops : Array Oper} {rest : List Oper} {o : Oper} {a : Act} {w : World} {Q : Exit → Act → World → Prop} (hg : o.guard = none) (it : Operand) (hop : o.op = Op.next it false) (m r q : Nat) (D : DataW (List Nat)) (left : Lit → Bool) (cnt : Nat)
    (hit : a.eval it = .pointer (some ⟨r, 0, none⟩)) (h : w.ranges Tryz.prog 3 secR m r q D left cnt)
    (hDone : cnt = 0 → (∀ kl, left kl = false) → wpList Tryz.prog ops Q rest (a.put o.dst (.tuple #[.bool false])) w)
    (hMore : ∀ (x : Int) (ys : List Nat) (w' : World) (cnt' : Nat), Sec ys → left (.int .i64 x) = true → (∀ zd, D.atKey (.int .i64 x) zd = .held ys) → w'.ranges Tryz.prog 3 secR m r q D (fun z => left z && !z.sameKey (.int .i64 x)) cnt' → cnt' < cnt →
      w.grownBy w' (some r) → w'.heap.size = w.heap.size → (Instr.entry (.pointer (some ⟨r, 0, none⟩))).run Tryz.prog w' = .ok (.tuple #[.int .i64 x, secV ys]) w' → wpList Tryz.prog ops Q rest (a.put o.dst (.tuple #[.bool true, .int .i64 x, secV ys])) w') :
    wpList Tryz.prog ops Q (o :: rest) a w := by
  refine wpList_next_ranges w hg it hop 3 keyLaw secR (Value.int .i64) secV (fun key kl hkey => by obtain ⟨x, rfl, _⟩ := Maps.keyOf_int_inv Tryz.underlying3 hkey; exact ⟨x, rfl⟩) (fun v y hv => by obtain ⟨c, _, rfl, _⟩ := secR_inv hv; exact ⟨c, rfl⟩)
    m r q D left cnt hit h hDone (fun x c kl y w' cnt' hkey hlk hv hat hrg hlt hgr hsz hen => ?_)
  obtain ⟨x', ex, rfl, hwx⟩ := Maps.keyOf_int_inv Tryz.underlying3 hkey
  cases ex
  obtain ⟨c', hs, ec, rfl⟩ := secR_inv hv
  obtain rfl := secV_inj ec
  exact hMore x c w' cnt' hs hlk hat hrg hlt hgr hsz hen
theorem ranges_keep {S : Nat → Prop} {w w' : World} {m r q : Nat} {D : DataW (List Nat)} {left : Lit → Bool} {cnt : Nat} (h : w.ranges Tryz.prog 3 secR m r q D left cnt) (k : Kp S w w') (hm : ¬ S m) (hr : ¬ S r) : w'.ranges Tryz.prog 3 secR m r q D left cnt := by
  have h1 := h.owns.lt
  have h2 := h.lt
  obtain ⟨es, clock, since, seen, c0, hb, a1, a2, a3, hi, rest⟩ := h
  exact ⟨es, clock, since, seen, c0, (k.block m h1 hm).trans hb, a1, a2, a3, (k.block r h2 hr).trans hi, rest⟩

set_option maxRecDepth 100000 in
set_option maxHeartbeats 400000 in
theorem sector_c {w : World} {b d n cp : Nat} (hcp : n * 64 ≤ cp) (c1 : w.cell? ⟨b, 1, none⟩ = some (.slice (some ⟨d, 0, none⟩) (n * 64) cp)) (hn2 : (n : Int) ≤ 8192) (i : Nat) (hi : (i : Int) < (n : Int)) :
    Calls Tryz.prog 61 #[.pointer (some ⟨b, 0, none⟩), .int .i64 (i : Int)] w fun e w' => e = .returned (.slice (some ⟨d, i * 64, none⟩) 64 64) ∧ w' = w := by
  have s1 := slice3 d (n * 64) cp (i * 64) (i * 64 + 64) (by omega) (by omega)
  rw [show i * 64 + 64 - i * 64 = 64 from by omega, show ((i * 64 + 64 : Nat) : Int) = ((i : Int) + 1) * 64 from by omega, show ((i * 64 : Nat) : Int) = (i : Int) * 64 from by omega] at s1
  go_enter Tryz.func61, Tryz.ntmps61
  go_wp2
  go_ret
  exact ⟨rfl, rfl⟩

/-- a map is cleared -/
theorem wpList_clear_map {ops : Array Oper} {rest : List Oper} {o : Oper} {a : Act} {w : World} {Q : Exit → Act → World → Prop} (hg : o.guard = none) (x : Operand) (hop : o.op = .call { callee := .builtin .clear, args := #[x], argTypes := #[101] }) (m q : Nat) (D : DataW (List Nat))
    (hx : a.eval x = .map (some m)) (hown : w.ownsMap Tryz.prog 3 secR m q D)
    (hK : ∀ w', w'.ownsMap Tryz.prog 3 secR m 0 (.map []) → Kp (fun b => b = m) w w' → wpList Tryz.prog ops Q rest (a.put o.dst (.tuple #[])) w') : wpList Tryz.prog ops Q (o :: rest) a w := by
  obtain ⟨es, clock, hb, _⟩ := hown
  refine wpList_plain hg fun K' hK' => ?_
  unfold Oper.wp
  simp [execOp, hop, resolve, invoke, builtin, hx, Builtin.clear_, run_underlying Tryz.underlying101, getObj, setObj, Sem.run, hb, Result.andThen]
  have hlt : m < w.heap.size := (Array.getElem?_eq_some_iff.1 hb).1
  refine hK' _ _ (hK _ ⟨#[], clock, ?_, ⟨by simp, MapKept.stamped_empty clock, by simp⟩, Nat.le_refl _, rfl⟩ ⟨rfl, rfl, rfl, by simp, fun x hx hne => ?_⟩)
  · simp [hlt]
  · rw [Array.getElem?_setIfInBounds, if_neg (fun e => hne e.symm)]
/-- the durable bytes behind a Sync -/
def durAll (dur : List Nat) (T : Nat → Option (List Nat)) (n : Nat) : List Nat := (List.range (n * 64)).map (Sf dur T (fun _ => false))

set_option maxRecDepth 100000 in
set_option maxHeartbeats 1600000 in
theorem sync_ok {w : World} {b d m n q : Nat} {dur : List Nat} {T : Nat → Option (List Nat)} (h : Pt w b d m n q dur T) :
    Calls Tryz.prog 137 #[.pointer (some ⟨b, 0, none⟩)] w fun e w' => e = .returned (.int .i64 0) ∧ Kp (fun x => x = d ∨ x = m) w w' ∧ Pt w' b d m n 0 (durAll dur T n) (fun _ => none) := by
  have H : Hid (Calls _ _ _ w _) := state_ok h
  have c2 := h.c2
  have hn2 : (n : Int) ≤ 8192 := by have := h.n2; omega
  obtain ⟨D, hown, hDD⟩ := h.mp
  have HDD : Hid _ := hDD
  have HP : Hid (Pt w b d m n q dur T) := h
  clear hDD h
  go_enter Tryz.func137, Tryz.ntmps137
  go_wp2_with (first
    | (go_at_call 51; refine H.out.mono ?_; rintro e w' ⟨rfl, rfl⟩)
    | (at_range; refine wpList_range_own _ rfl _ 101 rfl 3 108 keyLaw Tryz.underlying101 secR m q D rfl hown ?_; intro w0 hrg0 hg0 hs0))
  go_frame
  have kp0 := grownBy_kp hg0
  have hd0 : d < w'.heap.size := HP.out.row.lt
  have hLt0 := HP.out.lt
  obtain ⟨cp, hcp, cc1⟩ := HP.out.c1
  have HC1 : Hid (w'.cell? ⟨b, 1, none⟩ = some (.slice (some ⟨d, 0, none⟩) (n * 64) cp)) := cc1
  clear cc1
  have HR0 : Hid (Dr w0 d n (fun j => Sf dur T (Maps.has D) j)) := (HP.out.row.keep kp0 (by simp)).congr (fun j hj => by
    rw [Sf_start (fun i xs hx => ?_)]
    by_cases hi : i < n
    · exact ((HDD.out.1 i hi).2 xs hx).2.1
    · rw [HDD.out.2.2 i (by omega)] at hx; cases hx)
  have HK0 : Hid (Kp (fun x => x = d) w' w0) := kp0.mono (fun _ _ e => by simp at e)
  go_loopg [4] (Maps.size D) (fun gk _ wr => ∃ left, wr.ranges Tryz.prog 3 secR m w'.heap.size q D left gk ∧ Kp (fun x => x = d) w' wr ∧ Hid (Dr wr d n (fun j => Sf dur T left j)))
  case atStart => exact ⟨_, hrg0, HK0.out, HR0.out⟩
  case round =>
    obtain ⟨left, hrg, hK, hrow⟩ := hrel
    clear HR0 HK0 hrg0 hg0 kp0
    go_wp2_with (at_next; refine wpList_next_sec rfl _ rfl m w'.heap.size q D left _ rfl hrg ?_ ?_)
    · intro hc0 hl0
      have c2w := hK.cellv c2 HP.out.bd
      have hownw := hrg.owns
      have HRw : Hid (Dr wr d n (fun j => (durAll dur T n).getD j 0)) := hrow.out.congr (fun j hj => by
        have e : left = fun _ => false := funext hl0
        rw [e]
        unfold durAll
        rw [List.getD_eq_getElem?_getD, List.getElem?_map, List.getElem?_range hj]; rfl)
      clear hrow hrg hc0 hl0
      go_wp2_with (refine wpList_clear_map rfl _ rfl m q D rfl hownw ?_; intro w2 hown2 k2)
      go_ret
      refine ⟨rfl, ?_, ?_⟩
      · exact (hK.mono (S' := fun x => x = d ∨ x = m) (fun _ _ e => Or.inl e)).trans k2 (fun _ _ e => Or.inr e)
      · have h0 := HP.out
        have kc : Kp (fun x => x = d ∨ x = m) w' w2 := (hK.mono (S' := fun x => x = d ∨ x = m) (fun _ _ e => Or.inl e)).trans k2 (fun _ _ e => Or.inr e)
        have hb : ¬ (b = d ∨ b = m) := fun e => e.elim h0.bd h0.bm
        refine ⟨kc.cellv h0.c0 hb, ⟨cp, hcp, kc.cellv HC1.out hb⟩, kc.cellv h0.c2 hb, kc.cellv h0.c3 hb, fun j => by rw [World.frozen?_of_block (w := w') (kc.block b h0.lt hb)]; exact h0.fz j, HRw.out.keep k2 h0.dm, by simp [durAll], ?_, ?_, h0.bd, h0.bm, h0.dm, h0.n1, h0.n2⟩
        · intro x hx
          unfold durAll at hx
          obtain ⟨j, hj, rfl⟩ := List.mem_map.1 hx
          have hj' : j < n * 64 := List.mem_range.1 hj
          unfold Sf
          split
          · rename_i xs hxs
            have hs := ((HDD.out.1 (j / 64) (by omega)).2 xs hxs).1
            simp only [Bool.false_eq_true, if_false]
            exact byte_getD hs.2 _
          · exact byte_getD h0.byte _
        · exact ⟨_, hown2, fun i _ => ⟨fun _ => rfl, fun xs h => (by cases h)⟩, fun kl h => (by cases h), fun _ _ => rfl⟩
    · intro x ys w1 cnt1 hys hlx hat hrg1 hlt hg1 hs1 hen
      obtain ⟨i, hi, hix⟩ := HDD.out.2.1 _ (has_true_of_atKey hat)
      have hxi : x = (i : Int) := by injection hix with _ hix
      subst hxi
      have hTi : T i = some ys := by
        cases hT : T i with
        | none => have := (HDD.out.1 i hi).1 hT; rw [has_true_of_atKey hat] at this; cases this
        | some xs =>
          have e1 := ((HDD.out.1 i hi).2 xs hT).2.2 .nil
          rw [hat .nil] at e1
          injection e1 with e1
          rw [e1]
      have k1 := grownBy_kp hg1
      have hr0 : w'.heap.size ≠ d := by omega
      have hK1 : Kp (fun x => x = d) w' w1 := hK.trans k1 (fun bb hb e => by have := Option.some.inj e; omega)
      have hrow1 := hrow.out.keep k1 (fun e => hr0 (Option.some.inj e))
      have hin : (i : Int) < (n : Int) := by omega
      have HS1 : Hid (w1.heap.size = wr.heap.size) := hs1
      have hwz : w'.heap.size < w1.heap.size := hrg1.lt
      clear hrow hrg hlx hs1
      go_wp2_with (refine wpList_store_sec rfl _ _ rfl _ rfl ys hys rfl rfl ?_)
      obtain ⟨w2, hw2⟩ : ∃ x, x = w1.alloc (.cells (vl ys).toArray 108) := ⟨_, rfl⟩
      rw [← hw2]
      have hrs := sec_new_rb w1 hys 108
      rw [← hw2] at hrs
      have k2 : Kp (fun _ => False) w1 w2 := by rw [hw2]; exact (Kp.refl _ _).alloc _
      refine wp_region_still_tail 4 (by kernel_rfl) (by kernel_rfl) ?_
      obtain ⟨wd, hwd⟩ : ∃ x : World, x = { w2 with drawn := w2.drawn + 1 } := ⟨_, rfl⟩
      have kd : Kp (fun _ => False) w2 wd := by rw [hwd]; exact (Kp.refl _ _).drew
      rw [← hwd]
      have k1d := k2.trans kd (fun _ _ e => e)
      have c1d := k1d.cellv (hK1.cellv HC1.out HP.out.bd) id
      have HSc : Hid (Calls _ _ _ wd _) := sector_c hcp c1d hn2 i hin
      have hrowd := hrow1.keep k1d id
      have hrsd := hrs.keep0 kd
      have Hrest : Hid (∀ w3, Kp (fun b => b = d) wd w3 → Dr w3 d n (fun j => if i * 64 ≤ j ∧ j < i * 64 + 64 then ys.getD (j - i * 64) 0 else Sf dur T left j) →
          ∃ left, w3.ranges Tryz.prog 3 secR m w'.heap.size q D left cnt1 ∧ Kp (fun x => x = d) w' w3 ∧ Hid (Dr w3 d n (fun j => Sf dur T left j))) := fun w3 k3 r3 =>
        ⟨_, ranges_keep (ranges_keep hrg1 k1d id id) k3 (fun e => HP.out.dm e.symm) hr0, (hK1.trans k1d (fun _ _ e => e.elim)).trans k3 (fun _ _ e => e), r3.congr (fun j _ => Sf_step hTi j)⟩
      clear hwd hw2 hrow1 hrs hrg1 hat hix HDD HS1 hen hys
      simp only [List.take_succ_cons, List.take_zero, List.drop_succ_cons, List.drop_zero]
      iterate 2 still_step
      still_call HSc.out
      still_step
      refine wpStill_nil ?_
      refine wpList_copy_dr rfl _ _ rfl d i n 64 w1.heap.size 0 64 64 (Nat.le_refl _) rfl rfl _ hrowd hi ys hrsd ?_
      intro w3 k3 hz3 r3
      have HR := Hrest.out w3 k3 r3
      clear Hrest hrowd hrsd r3 HSc c1d
      go_wp2
      go_roundg cnt1
      case rel => exact HR
      case measure => omega
end Go.Proofs.YtmooddbhcccicaaGreatDoor

/- A new plate; its image. -/
namespace Go.Proofs.YtmooddbhcccicaaGreatDoor
open Go.RowKit Go.Deep Go.Maps

set_option maxRecDepth 100000 in
set_option maxHeartbeats 400000 in
theorem isCount_ok (n : Nat) (w : World) (h1 : 1 ≤ (n : Int)) (h2 : (n : Int) ≤ 8192) : Calls Tryz.prog 59 #[.int .i64 (n : Int)] w fun e w' => e = .returned (.bool true) ∧ w' = w := by
  have d1 : 1 ≤ n := by omega
  have d2 : n ≤ 8192 := by omega
  go_enter Tryz.func59, Tryz.ntmps59
  go_wp2
  go_ret
  exact ⟨rfl, rfl⟩

set_option maxRecDepth 100000 in
set_option maxHeartbeats 400000 in
theorem blank_ok (n : Nat) (w : World) (h1 : 1 ≤ (n : Int)) (h2 : (n : Int) ≤ 8192) : Calls Tryz.prog 60 #[.int .i64 (n : Int)] w fun e w' => ∃ b d m, e = .returned (.pointer (some ⟨b, 0, none⟩)) ∧ Kp (fun _ => False) w w' ∧ w.heap.size ≤ b ∧ w.heap.size ≤ d ∧ w.heap.size ≤ m ∧ Pt w' b d m n 0 (List.replicate (n * 64) 0) (fun _ => none) := by
  have hmk : ∀ w : World, (Instr.makeSlice 34 (.int .i64 ((n : Int) * 64)) (.int .i64 ((n : Int) * 64))).run Tryz.prog w = .ok (.slice (some ⟨w.heap.size, 0, none⟩) (n * 64) (n * 64)) (w.alloc (.cells (madeCells #[.int .u8 0] (n * 64)) 5)) := fun w => by
    have := run_make_row' (P := Tryz.prog) 34 5 (.int .u8 0) 1 Tryz.underlying34 info5 rfl .i64 .i64 (n * 64) (by omega) (by omega) w
    rw [show ((n * 64 : Nat) : Int) = (n : Int) * 64 from by omega] at this
    exact this
  have hmm : ∀ (t : TypeId) (w : World), (Instr.makeMap t none).run Tryz.prog w = .ok (.map (some w.heap.size)) (w.alloc (.map #[] 0)) := fun _ _ => rfl
  go_enter Tryz.func60, Tryz.ntmps60
  go_wp2
  go_ret
  obtain ⟨w1, hw1⟩ : ∃ x, x = w.alloc (.cells (madeCells #[.int .u8 0] (n * 64)) 5) := ⟨_, rfl⟩
  obtain ⟨w2, hw2⟩ : ∃ x, x = w1.alloc (.map #[] 0) := ⟨_, rfl⟩
  have z1 : w1.heap.size = w.heap.size + 1 := by rw [hw1]; simp
  have z2 : w2.heap.size = w1.heap.size + 1 := by rw [hw2]; simp
  have k1 : Kp (fun _ => False) w w1 := by rw [hw1]; exact (Kp.refl _ _).alloc _
  have k2 : Kp (fun _ => False) w1 w2 := by rw [hw2]; exact (Kp.refl _ _).alloc _
  have r1 : w1.rowIs w.heap.size 5 (n * 64) (fun j => .int .u8 (((List.replicate (n * 64) 0).getD j 0 : Nat) : Int)) := by
    rw [hw1]
    exact (World.rowIs_made w (.int .u8 0) (n * 64) 5).congr (fun j hj => by rw [List.getD_eq_getElem?_getD, List.getElem?_replicate, if_pos hj]; rfl)
  have m2 : Mp w2 w1.heap.size n 0 (fun _ => none) := by rw [hw2]; exact Mp.made w1 n
  rw [← hw1, ← hw2]
  obtain ⟨cs, hcs⟩ : ∃ cs : Array Value, cs = #[.int .i64 (n : Int), .slice (some ⟨w.heap.size, 0, none⟩) (n * 64) (n * 64), .map (some (w.heap.size + 1)), .bool false] := ⟨_, rfl⟩
  rw [← hcs]
  obtain ⟨w3, hw3⟩ : ∃ x, x = w2.alloc (.cells cs 103) := ⟨_, rfl⟩
  have e2 : w2.heap.size = w.heap.size + 1 + 1 := by omega
  rw [← hw3]
  have k3 : Kp (fun _ => False) w2 w3 := by rw [hw3]; exact (Kp.refl _ _).alloc _
  have hh := heap_alloc_new w2 (.cells cs 103)
  rw [← hw3, e2] at hh
  have cc : ∀ j v, cs[j]? = some v → w3.cell? ⟨w.heap.size + 1 + 1, j, none⟩ = some v := fun j v hv => by
    rw [cell_of_row _ _ j cs _ (0, 0) hh]
    exact hv
  have ff : ∀ j, w3.frozen? ⟨w.heap.size + 1 + 1, j, none⟩ = false := fun j => frozen_of_row _ _ _ cs _ hh
  have hmm2 := m2.keep k3 id
  rw [z1] at hmm2
  refine ⟨_, w.heap.size, w.heap.size + 1, rfl, (k1.trans k2 (fun _ _ e => e)).trans k3 (fun _ _ e => e), by omega, Nat.le_refl _, by omega, cc 0 _ (by rw [hcs]; rfl), ⟨_, Nat.le_refl _, cc 1 _ (by rw [hcs]; rfl)⟩, cc 2 _ (by rw [hcs]; rfl), cc 3 _ (by rw [hcs]; rfl), ff, Dr.of_row (k3.row (k2.row r1 id) id), by simp, fun x hx => by rw [List.eq_of_mem_replicate hx]; omega, hmm2, by omega, by omega, by omega, by omega, by omega⟩

set_option maxRecDepth 100000 in
set_option maxHeartbeats 400000 in
theorem new_ok (n : Nat) (w : World) (h1 : 1 ≤ (n : Int)) (h2 : (n : Int) ≤ 8192) : Calls Tryz.prog 28 #[.int .i64 (n : Int)] w fun e w' => ∃ b d m, e = .returned (.tuple #[.pointer (some ⟨b, 0, none⟩), .int .i64 0]) ∧ Kp (fun _ => False) w w' ∧ w.heap.size ≤ b ∧ w.heap.size ≤ d ∧ w.heap.size ≤ m ∧ Pt w' b d m n 0 (List.replicate (n * 64) 0) (fun _ => none) := by
  have H1 : Hid (Calls _ _ _ w _) := isCount_ok n w h1 h2
  have H2 : Hid (Calls _ _ _ w _) := blank_ok n w h1 h2
  go_enter Tryz.func28, Tryz.ntmps28
  go_wp2_with (first
    | (go_at_call 59; refine H1.out.mono ?_; rintro e w' ⟨rfl, rfl⟩)
    | (go_at_call 60; refine H2.out.mono ?_; rintro e w1 ⟨b, d, m, rfl, k, hb, hd, hm, hP⟩))
  go_ret2
  exact ⟨b, d, m, rfl, k, hb, hd, hm, hP⟩

set_option maxRecDepth 100000 in
set_option maxHeartbeats 800000 in
theorem image_ok {w : World} {b d m n q : Nat} {dur : List Nat} {T : Nat → Option (List Nat)} (h : Pt w b d m n q dur T) :
    Calls Tryz.prog 69 #[.pointer (some ⟨b, 0, none⟩)] w fun e w' => ∃ t V, e = .returned (.slice (some ⟨t, 0, none⟩) n n) ∧ Kp (fun _ => False) w w' ∧ w.heap.size ≤ t ∧ w'.rowIs t 34 n V ∧ ∀ r, r < n → Ow w' (t + 1) (V r) ((dur.drop (r * 64)).take 64) := by
  have H : Hid (Calls _ _ _ w _) := state_ok h
  have c0 := h.c0
  have hn1 : 1 ≤ (n : Int) := by have := h.n1; omega
  have hn2 : (n : Int) ≤ 8192 := by have := h.n2; omega
  have hmk := run_make_row' (P := Tryz.prog) 22 34 (.slice none 0 0) 24 Tryz.underlying22 (by kernel_rfl) rfl .i64 .i64 n (by omega) (by omega)
  go_enter Tryz.func69, Tryz.ntmps69
  go_wp2_with (go_at_call 51; refine H.out.mono ?_; rintro e w' ⟨rfl, rfl⟩)
  obtain ⟨w0, hw0⟩ : ∃ x, x = w'.alloc (.cells (madeCells #[.slice none 0 0] n) 34) := ⟨_, rfl⟩
  have k0 : Kp (fun _ => False) w' w0 := by rw [hw0]; exact (Kp.refl _ _).alloc _
  have r0 : w0.rowIs w'.heap.size 34 n (fun _ => .slice none 0 0) := by rw [hw0]; exact World.rowIs_made w' (.slice none 0 0) n 34
  rw [← hw0]
  have HSe : Hid (∀ wq (i : Nat), Kp (fun _ => False) w' wq → (i : Int) < (n : Int) → Calls _ _ _ wq _) := fun wq i k' hi => sector_ok (h.keep k' id id id) i hi
  have HCl : Hid (∀ wq (i : Nat) c, Kp (fun _ => False) w' wq → (i : Int) < (n : Int) → Calls _ _ #[.slice _ _ c] wq _) := fun wq i c k' hi => clone_any (some ⟨d, i * 64, none⟩) 64 c _ wq ((h.durRb (i := i) (by omega)).keep0 k') (show 64 ≤ 140737488355328 by omega)
  have HDs : Hid (∀ i, i < n → Sec ((dur.drop (i * 64)).take 64)) := fun i hi => h.durSec hi
  clear hmk hw0 H h
  go_loopg [15] n (fun gk x wr => ∃ (r : Nat) (V : Nat → Value), r ≤ n ∧ gk = n - r ∧ x = .int .i64 r ∧ Kp (fun _ => False) w' wr ∧ wr.rowIs w'.heap.size 34 n V ∧ Hid (∀ j, j < r → Ow wr (w'.heap.size + 1) (V j) ((dur.drop (j * 64)).take 64)))
  case atStart => exact ⟨0, _, Nat.zero_le _, rfl, rfl, k0, r0, fun j hj => absurd hj (Nat.not_lt_zero _)⟩
  case round =>
    obtain ⟨r, V, hr, rfl, rfl, hK, hT, hO⟩ := hrel
    clear k0 r0
    by_cases hlt : (r : Int) < (n : Int)
    · have hzr := hT.lt
      have c0' := hT.cell (i := r) (by omega)
      have f0 := hT.frozen r
      have HT : Hid _ := hT
      have HK : Hid (Kp _ w' wr) := hK
      have cK := hK.cellv c0 id
      clear hT
      go_wp2_with (first
        | (go_at_call 61; refine (HSe.out _ r hK hlt).mono ?_; rintro e w2 ⟨rfl, hw2⟩; obtain rfl := hw2.symm)
        | (go_at_call 13; refine (HCl.out _ r _ hK hlt).mono ?_; rintro e w3 ⟨v3, rfl, k3, o3⟩; obtain ⟨p3, c3, ev, hc3, rb3, hb3⟩ := o3.rb (HDs.out r (by omega)).2; rw [(HDs.out r (by omega)).1] at ev; subst ev; have t3 := (k3.row HT.out id).cell (i := r) (by omega); have f3 := (k3.row HT.out id).frozen r))
      have HOw : Hid (∀ j, j < r + 1 → Ow (w3.setCell ⟨w'.heap.size, r, none⟩ (.slice p3 64 c3)) (w'.heap.size + 1) (if j = r then .slice p3 64 c3 else V j) ((dur.drop (j * 64)).take 64)) := fun j hj => by
        have ks : Kp (fun b => b = w'.heap.size) w3 (w3.setCell ⟨w'.heap.size, r, none⟩ (.slice p3 64 c3)) := (Kp.refl (fun b => b = w'.heap.size) w3).setCell (a := ⟨w'.heap.size, r, none⟩) (fun _ => rfl) _
        by_cases e : j = r
        · subst e
          rw [if_pos rfl]
          exact ownsRow_keep (ownsRow_base o3 (by omega)) ks (fun g hg e => by have := ownBlock_lt (ownsRow_base (base' := w'.heap.size + 1) o3 (by omega)) hg; omega)
        · rw [if_neg e]
          have hj' := hO.out j (by omega)
          exact ownsRow_keep (ownsRow_keep hj' k3 (fun _ _ => id)) ks (fun g hg e => by have := ownBlock_lt hj' hg; omega)
      have HK2 : Hid (Kp (fun _ => False) w' (w3.setCell ⟨w'.heap.size, r, none⟩ (.slice p3 64 c3))) := (hK.trans k3 (fun _ _ e => e)).setCell (a := ⟨w'.heap.size, r, none⟩) (fun e => by simp at e) _
      have HT2 : Hid _ := ((k3.row HT.out id).set r (.slice p3 64 c3))
      go_roundg (n - (r + 1))
      case rel => exact ⟨r + 1, _, by omega, rfl, by go_num, HK2.out, HT2.out, HOw.out⟩
      case measure => omega
    · have e : n = r := by omega
      subst e
      go_wp2
      go_ret
      exact ⟨_, rfl, hK, Nat.le_refl _, V, hT, hO.out⟩
end Go.Proofs.YtmooddbhcccicaaGreatDoor

/- Texts of this proof, joined: Fc, Fs. -/
/- CRC-32C, plain: bit by bit, by nibbles; linear; one to one. No Go text in sight. -/
namespace Go.Proofs.YtmooddbhcccicaaGreatDoor
namespace Crc

def P : Nat := 0x82f63b78
/-- one bit leaves -/
def bit (s : Nat) : Nat := (s / 2) ^^^ (if s % 2 = 1 then P else 0)
def it : Nat → Nat → Nat
  | 0, s => s
  | n + 1, s => it n (bit s)
theorem it_succ (n s : Nat) : it (n + 1) s = bit (it n s) := by
  induction n generalizing s with
  | zero => rfl
  | succ n ih => show it (n + 1) (bit s) = _; rw [ih]; rfl
theorem it_add (m n s : Nat) : it (m + n) s = it n (it m s) := by
  induction m generalizing s with
  | zero => simp [it]
  | succ m ih => rw [Nat.succ_add]; show it (m + n) (bit s) = _; rw [ih]; rfl
/-- a byte goes in -/
def stp (s x : Nat) : Nat := it 8 (s ^^^ x)
def run (s : Nat) (xs : List Nat) : Nat := xs.foldl stp s
def sum (xs : List Nat) : Nat := run 0xffffffff xs ^^^ 0xffffffff

theorem bit_lt {s : Nat} (h : s < 2 ^ 32) : bit s < 2 ^ 32 := by
  unfold bit
  refine Nat.xor_lt_two_pow (by omega) ?_
  split
  · unfold P; omega
  · omega
theorem it_lt {s : Nat} (n : Nat) (h : s < 2 ^ 32) : it n s < 2 ^ 32 := by
  induction n generalizing s with
  | zero => exact h
  | succ n ih => exact ih (bit_lt h)
theorem stp_lt {s x : Nat} (h : s < 2 ^ 32) (hx : x < 256) : stp s x < 2 ^ 32 := it_lt 8 (Nat.xor_lt_two_pow h (by omega))
theorem run_lt {s : Nat} {xs : List Nat} (h : s < 2 ^ 32) (hx : ∀ x ∈ xs, x < 256) : run s xs < 2 ^ 32 := by
  induction xs generalizing s with
  | nil => exact h
  | cons x xs ih => exact ih (stp_lt h (hx x (by simp))) (fun y hy => hx y (by simp [hy]))
theorem sum_lt {xs : List Nat} (hx : ∀ x ∈ xs, x < 256) : sum xs < 2 ^ 32 := Nat.xor_lt_two_pow (run_lt (by decide) hx) (by decide)
theorem run_append (s : Nat) (xs ys : List Nat) : run s (xs ++ ys) = run (run s xs) ys := List.foldl_append

theorem bit_zero : bit 0 = 0 := by decide
theorem bit_xor (a b : Nat) : bit (a ^^^ b) = bit a ^^^ bit b := by
  unfold bit
  have h1 : (a ^^^ b) / 2 = a / 2 ^^^ b / 2 := by
    apply Nat.eq_of_testBit_eq; intro i
    simp [Nat.testBit_div_two]
  have h2 : (a ^^^ b) % 2 = (a % 2 + b % 2) % 2 := by
    have := Nat.testBit_xor a b 0
    simp only [Nat.testBit_zero] at this
    have ha := Nat.mod_two_eq_zero_or_one a
    have hb := Nat.mod_two_eq_zero_or_one b
    have hc := Nat.mod_two_eq_zero_or_one (a ^^^ b)
    rcases ha with ha | ha <;> rcases hb with hb | hb <;> rcases hc with hc | hc <;> simp [ha, hb, hc] at this ⊢
  rw [h1, h2]
  have ha := Nat.mod_two_eq_zero_or_one a
  have hb := Nat.mod_two_eq_zero_or_one b
  rcases ha with ha | ha <;> rcases hb with hb | hb <;> simp [ha, hb]
  · rw [Nat.xor_assoc]
  · rw [Nat.xor_assoc, Nat.xor_assoc, Nat.xor_comm P]
  · rw [Nat.xor_assoc, Nat.xor_comm P, Nat.xor_assoc, Nat.xor_self, Nat.xor_zero]
theorem it_xor (n a b : Nat) : it n (a ^^^ b) = it n a ^^^ it n b := by
  induction n generalizing a b with
  | zero => rfl
  | succ n ih => show it n (bit (a ^^^ b)) = _; rw [bit_xor, ih]; rfl
theorem it_zero (n : Nat) : it n 0 = 0 := by
  induction n with
  | zero => rfl
  | succ n ih => show it n (bit 0) = 0; rw [bit_zero, ih]
theorem bit_double (s : Nat) : bit (2 * s) = s := by
  unfold bit
  rw [if_neg (by omega), Nat.xor_zero]; omega
theorem it_shift (n s : Nat) : it n (2 ^ n * s) = s := by
  induction n generalizing s with
  | zero => simp [it]
  | succ n ih =>
    show it n (bit (2 ^ (n + 1) * s)) = s
    rw [show 2 ^ (n + 1) * s = 2 * (2 ^ n * s) from by rw [Nat.pow_succ, Nat.mul_comm (2 ^ n) 2, Nat.mul_assoc], bit_double, ih]
/-- bits that leave by four -/
def tn (k : Nat) : Nat := it 4 k
theorem split4 (s : Nat) : s = (16 * (s / 16)) ^^^ (s % 16) := by
  have h := Nat.two_pow_add_eq_or_of_lt (i := 4) (b := s % 16) (by omega) (s / 16)
  have hx : 2 ^ 4 * (s / 16) ||| s % 16 = (2 ^ 4 * (s / 16)) ^^^ s % 16 := by
    apply Nat.eq_of_testBit_eq; intro i
    simp only [Nat.testBit_or, Nat.testBit_xor]
    by_cases hi : i < 4
    · have : (2 ^ 4 * (s / 16)).testBit i = false := by
        rw [Nat.mul_comm, Nat.testBit_mul_two_pow]; simp; intro h4; omega
      simp [this]
    · have : (s % 16).testBit i = false := Nat.testBit_lt_two_pow (Nat.lt_of_lt_of_le (by omega : s % 16 < 2 ^ 4) (Nat.pow_le_pow_right (by omega) (by omega)))
      simp [this]
  rw [show (16 : Nat) = 2 ^ 4 from rfl] at *
  rw [← hx, ← h]; omega
theorem it4 (s : Nat) : it 4 s = (s >>> 4) ^^^ tn (s &&& 15) := by
  have e : s &&& 15 = s % 16 := Nat.and_two_pow_sub_one_eq_mod s 4
  rw [Nat.shiftRight_eq_div_pow, e]
  conv => lhs; rw [split4 s]
  rw [it_xor, show (16 : Nat) = 2 ^ 4 from rfl, it_shift]; rfl
theorem stp_by4 (s x : Nat) : stp s x = it 4 (it 4 (s ^^^ x)) := (it_add 4 4 _)

/-- nothing but nought becomes nought -/
theorem bit_inj0 {s : Nat} (hs : s < 2 ^ 32) (h : bit s = 0) : s = 0 := by
  unfold bit at h
  split at h
  · exfalso
    have e : s / 2 = P := by
      have := congrArg (· ^^^ P) h
      simpa [Nat.xor_assoc] using this
    unfold P at e
    omega
  · simp at h; omega
theorem it_inj0 {s : Nat} (n : Nat) (hs : s < 2 ^ 32) (h : it n s = 0) : s = 0 := by
  induction n generalizing s with
  | zero => exact h
  | succ n ih => exact bit_inj0 hs (ih (bit_lt hs) h)
/-- both runs, held against each other -/
theorem run_xor {d : Nat} (s : Nat) : ∀ (xs ys : List Nat), xs.length = ys.length → run (s ^^^ d) (xs.zipWith (· ^^^ ·) ys) = run s xs ^^^ run d ys := by
  intro xs
  induction xs generalizing s d with
  | nil => intro ys h; cases ys <;> simp_all [run]
  | cons x xs ih =>
    intro ys h
    cases ys with
    | nil => simp at h
    | cons y ys =>
      simp only [List.zipWith_cons_cons]
      show run (stp (s ^^^ d) (x ^^^ y)) _ = run (stp s x) xs ^^^ run (stp d y) ys
      rw [← ih (d := stp d y) (stp s x) ys (by simpa using h)]
      congr 1
      unfold stp
      rw [← it_xor]
      congr 1
      rw [Nat.xor_assoc, Nat.xor_assoc, ← Nat.xor_assoc d, ← Nat.xor_assoc x, Nat.xor_comm d]
theorem run_zeros_inj {d : Nat} (n : Nat) (hd : d < 2 ^ 32) (h : run d (List.replicate n 0) = 0) : d = 0 := by
  induction n generalizing d with
  | zero => exact h
  | succ n ih =>
    rw [List.replicate_succ] at h
    have : stp d 0 = 0 := ih (stp_lt hd (by omega)) h
    unfold stp at this
    rw [Nat.xor_zero] at this
    exact it_inj0 8 hd this
/-- four bytes are a word -/
theorem run_word (a b c d : Nat) : run 0 [a, b, c, d] = it 32 (a ^^^ (256 * b) ^^^ (256 ^ 2 * c) ^^^ (256 ^ 3 * d)) := by
  show stp (stp (stp (stp 0 a) b) c) d = _
  simp only [stp, Nat.zero_xor]
  rw [show (32 : Nat) = 8 + (8 + (8 + 8)) from rfl]
  simp only [it_add, it_xor]
  rw [show it 8 (256 * b) = b from it_shift 8 b, show (256 ^ 2 * c) = 2 ^ 8 * (2 ^ 8 * c) from by omega, it_shift, show it 8 (2 ^ 8 * c) = c from it_shift 8 c,
    show (256 ^ 3 * d) = 2 ^ 8 * (2 ^ 8 * (2 ^ 8 * d)) from by omega, it_shift, it_shift, it_shift]
theorem word_zero {a b c d : Nat} (ha : a < 256) (hb : b < 256) (hc : c < 256) (hd : d < 256) (h : run 0 [a, b, c, d] = 0) : a = 0 ∧ b = 0 ∧ c = 0 ∧ d = 0 := by
  rw [run_word] at h
  have hw : a ^^^ (256 * b) ^^^ (256 ^ 2 * c) ^^^ (256 ^ 3 * d) < 2 ^ 32 :=
    Nat.xor_lt_two_pow (Nat.xor_lt_two_pow (Nat.xor_lt_two_pow (by omega) (by omega)) (by omega)) (by omega)
  have h0 := it_inj0 32 hw h
  have t : ∀ i, (a.testBit i ^^ (256 * b).testBit i ^^ (256 ^ 2 * c).testBit i ^^ (256 ^ 3 * d).testBit i) = false := fun i => by
    have := congrArg (fun n => n.testBit i) h0
    simpa [Nat.testBit_xor] using this
  have sh : ∀ (k x i : Nat), (2 ^ k * x).testBit i = (decide (k ≤ i) && x.testBit (i - k)) := fun k x i => Nat.testBit_two_pow_mul
  have out : ∀ {x i : Nat}, x < 256 → 8 ≤ i → x.testBit i = false := fun hx hi => Nat.testBit_lt_two_pow (Nat.lt_of_lt_of_le hx (Nat.pow_le_pow_right (n := 2) (by omega) hi))
  have e8 : (256 : Nat) = 2 ^ 8 := rfl
  have e16 : (256 ^ 2 : Nat) = 2 ^ 16 := rfl
  have e24 : (256 ^ 3 : Nat) = 2 ^ 24 := rfl
  rw [e16, e24, e8] at t
  have z : ∀ {x : Nat}, x < 256 → (∀ i, i < 8 → x.testBit i = false) → x = 0 := fun {x} hx h => by
    apply Nat.eq_of_testBit_eq; intro i
    rw [Nat.zero_testBit]
    by_cases hi : i < 8
    · exact h i hi
    · exact out hx (by omega)
  have ea : a = 0 := z ha fun i hi => by
    have := t i
    rw [sh, sh, sh] at this
    simpa [show ¬ 8 ≤ i from by omega, show ¬ 16 ≤ i from by omega, show ¬ 24 ≤ i from by omega] using this
  have eb : b = 0 := z hb fun i hi => by
    have := t (i + 8)
    rw [sh, sh, sh, out ha (by omega)] at this
    simpa [show ¬ 16 ≤ i + 8 from by omega, show ¬ 24 ≤ i + 8 from by omega] using this
  have ec : c = 0 := z hc fun i hi => by
    have := t (i + 16)
    rw [sh, sh, sh, out ha (by omega), out (i := i + 16 - 8) hb (by omega)] at this
    simpa [show ¬ 24 ≤ i + 16 from by omega] using this
  have ed : d = 0 := z hd fun i hi => by
    have := t (i + 24)
    rw [sh, sh, sh, out ha (by omega), out (i := i + 24 - 8) hb (by omega), out (i := i + 24 - 16) hc (by omega)] at this
    simpa using this
  exact ⟨ea, eb, ec, ed⟩
end Crc
end Go.Proofs.YtmooddbhcccicaaGreatDoor

/- The walks of frame.Sum and of the reference's Sum and Big. -/
namespace Go.Proofs.YtmooddbhcccicaaGreatDoor
open Go.RowKit Go.Deep

/-- the table of turns lies in memory -/
def Turns (w : World) : Prop := ∀ k : Nat, k < 16 → w.cell? ⟨0, k, none⟩ = some (.int .u32 ((Crc.tn k : Nat) : Int))
theorem Turns.keep {S : Nat → Prop} {w w' : World} (h : Turns w) (k : Kp S w w') (hb : ¬ S 0) : Turns w' := fun i hi => k.cellv (h i hi) hb
theorem Turns.keep0 {w w' : World} (h : Turns w) (k : Kp (fun _ => False) w w') : Turns w' := h.keep k id
theorem Turns.lt {w : World} (h : Turns w) : 0 < w.heap.size := World.block_lt_of_cell? _ _ (h 0 (by omega))

theorem u32_xor_c (a b : Nat) (ha : a < 2 ^ 32) (hb : b < 2 ^ 32) : bits .xor .u32 (a : Int) (b : Int) = ((a ^^^ b : Nat) : Int) := u32_xor_nat a b (by omega) (by omega)
theorem u32_and_c (a b : Nat) (ha : a < 2 ^ 32) (hb : b < 2 ^ 32) : bits .and .u32 (a : Int) (b : Int) = ((a &&& b : Nat) : Int) := u32_and_nat a b (by omega) (by omega)

theorem ret_num {k : IntKind} {a b : Int} (h : a = b) : Ending.returned (.int k a) = .returned (.int k b) := by rw [h]
theorem nib (t : Nat) (h : t < 2 ^ 32) : ∃ y : Nat, y < 16 ∧ bits .and .u32 (t : Int) 15 = (y : Int) ∧ bits .xor .u32 ((t : Int) / 16) ((Crc.tn y : Nat) : Int) = ((Crc.it 4 t : Nat) : Int) := by
  have hy : t &&& 15 < 16 := Nat.and_lt_two_pow (n := 4) _ (by omega)
  have ht : Crc.tn (t &&& 15) < 2 ^ 32 := Crc.it_lt 4 (by omega)
  refine ⟨t &&& 15, hy, u32_and_c t 15 h (by omega), ?_⟩
  rw [show (t : Int) / 16 = ((t / 16 : Nat) : Int) from by omega, u32_xor_c _ _ (by omega) ht, Crc.it4, Nat.shiftRight_eq_div_pow]
theorem take_snoc {xs : List Nat} {k : Nat} (h : k < xs.length) : xs.take (k + 1) = xs.take k ++ [xs.getD k 0] := by
  rw [List.take_succ_eq_append_getElem h, List.getD_eq_getElem?_getD, List.getElem?_eq_getElem h]; rfl
theorem run_snoc {xs : List Nat} {k : Nat} (s : Nat) (h : k < xs.length) : Crc.run s (xs.take (k + 1)) = Crc.stp (Crc.run s (xs.take k)) (xs.getD k 0) := by
  rw [take_snoc h, Crc.run_append]; rfl
theorem Rb.take_byte {w : World} {p : Option Addr} {n : Nat} {xs : List Nat} (h : Rb w p n xs) (k : Nat) : ∀ x ∈ xs.take k, x < 256 := fun x hx => h.byte x (List.mem_of_mem_take hx)

set_option maxRecDepth 100000 in
set_option maxHeartbeats 400000 in
theorem sum_any (p : Option Addr) (n c : Nat) (xs : List Nat) (w : World) (h : Rb w p n xs) (hn : (n : Int) ≤ 1000000000000000) (ht : Turns w) :
    Calls Tryz.prog 228 #[.slice p n c] w fun e w' => e = .returned (.int .u32 ((Crc.sum xs : Nat) : Int)) ∧ w' = w := by
  go_enter Tryz.func228, Tryz.ntmps228
  go_wp2
  go_loopw [3, 8] (fun s i w' => ∃ k : Nat, k ≤ n ∧ i = .int .i64 k ∧ s = .int .u32 ((Crc.run 4294967295 (xs.take k) : Nat) : Int) ∧ w' = w) (fun _ i _ => n - (intOf i).toNat)
  case atStart => exact ⟨0, Nat.zero_le _, rfl, rfl, rfl⟩
  case round =>
    obtain ⟨k, hk, rfl, rfl, rfl⟩ := hrel
    have hs0 : Crc.run 4294967295 (xs.take k) < 2 ^ 32 := Crc.run_lt (by omega) (h.take_byte k)
    by_cases hlt : (k : Int) < (n : Int)
    · obtain ⟨b, o, rfl, hb⟩ := h.pt (by omega)
      have hc := hb k (by omega)
      have hx := h.byteAt k
      have HR : Hid (_ = _) := run_snoc (xs := xs) 4294967295 (k := k) (by rw [h.len]; omega)
      obtain ⟨x, hxe⟩ : ∃ x, x = xs.getD k 0 := ⟨_, rfl⟩
      obtain ⟨s, hse⟩ : ∃ s, s = Crc.run 4294967295 (xs.take k) := ⟨_, rfl⟩
      rw [← hxe] at hc hx HR
      rw [← hse] at hs0 HR ⊢
      clear hxe hse hb h
      have e1 := u32_xor_c s x hs0 (by omega)
      obtain ⟨t, hte⟩ : ∃ t, t = s ^^^ x := ⟨_, rfl⟩
      have ht0 : t < 2 ^ 32 := by rw [hte]; exact Nat.xor_lt_two_pow hs0 (by omega)
      rw [← hte] at e1
      have HT : Hid (_ = _) := Crc.stp_by4 s x
      rw [← hte] at HT
      clear hte
      obtain ⟨y, hy, e2, e3⟩ := nib t ht0
      have ht1 := Crc.it_lt 4 ht0
      obtain ⟨t', hte⟩ : ∃ t', t' = Crc.it 4 t := ⟨_, rfl⟩
      rw [← hte] at e3 ht1 HT
      clear hte
      obtain ⟨z, hz, e4, e5⟩ := nib t' ht1
      have c1 := ht y hy
      have c2 := ht z hz
      obtain ⟨t2, hte⟩ : ∃ t2, t2 = Crc.it 4 t' := ⟨_, rfl⟩
      rw [← hte] at e5 HT
      clear hte
      go_wp2
      go_roundw
      case rel => exact ⟨k + 1, by omega, by go_num, by rw [HR.out, HT.out], trivial⟩
      case measure => simp [intOf]; omega
    · have e : k = n := by omega
      subst e
      have hte : xs.take k = xs := List.take_of_length_le (by rw [h.len]; omega)
      have HS : Hid (bits .xor .u32 IntKind.u32.max ((Crc.run 4294967295 xs : Nat) : Int) = ((Crc.sum xs : Nat) : Int)) := by
        show bits .xor .u32 ((4294967295 : Nat) : Int) _ = _
        rw [u32_xor_c 4294967295 _ (by omega) (by rw [← hte]; exact hs0), Nat.xor_comm]; rfl
      rw [hte]
      clear hte
      go_wp2
      go_ret
      exact ⟨ret_num HS.out, rfl⟩

theorem bit_even (s : Nat) (h : s % 2 = 0) : Crc.bit s = s / 2 := by unfold Crc.bit; rw [if_neg (by omega), Nat.xor_zero]
theorem bit_odd (s : Nat) (h : s % 2 = 1) : Crc.bit s = s / 2 ^^^ 2197175160 := by unfold Crc.bit; rw [if_pos h]; rfl

set_option maxRecDepth 100000 in
set_option maxHeartbeats 400000 in
theorem refSum_any (p : Option Addr) (n c : Nat) (xs : List Nat) (w : World) (h : Rb w p n xs) (hn : (n : Int) ≤ 1000000000000000) :
    Calls Tryz.prog 224 #[.slice p n c] w fun e w' => e = .returned (.int .u32 ((Crc.sum xs : Nat) : Int)) ∧ w' = w := by
  go_enter Tryz.func224, Tryz.ntmps224
  go_wp2
  go_loopw [3, 9] (fun s i w' => ∃ k : Nat, k ≤ n ∧ i = .int .i64 k ∧ s = .int .u32 ((Crc.run 4294967295 (xs.take k) : Nat) : Int) ∧ w' = w) (fun _ i _ => n - (intOf i).toNat)
  case atStart => exact ⟨0, Nat.zero_le _, rfl, rfl, rfl⟩
  case round =>
    obtain ⟨k, hk, rfl, rfl, rfl⟩ := hrel
    have hs0 : Crc.run 4294967295 (xs.take k) < 2 ^ 32 := Crc.run_lt (by omega) (h.take_byte k)
    by_cases hlt : (k : Int) < (n : Int)
    · obtain ⟨b, o, rfl, hb⟩ := h.pt (by omega)
      have hc := hb k (by omega)
      have hx := h.byteAt k
      have HR : Hid (_ = _) := run_snoc (xs := xs) 4294967295 (k := k) (by rw [h.len]; omega)
      obtain ⟨x, hxe⟩ : ∃ x, x = xs.getD k 0 := ⟨_, rfl⟩
      obtain ⟨s, hse⟩ : ∃ s, s = Crc.run 4294967295 (xs.take k) := ⟨_, rfl⟩
      rw [← hxe] at hc hx HR
      rw [← hse] at hs0 HR ⊢
      clear hxe hse hb h
      have e1 := u32_xor_c s x hs0 (by omega)
      obtain ⟨t, hte⟩ : ∃ t, t = s ^^^ x := ⟨_, rfl⟩
      have ht0 : t < 2 ^ 32 := by rw [hte]; exact Nat.xor_lt_two_pow hs0 (by omega)
      rw [← hte] at e1
      have HT : Hid (Crc.stp s x = Crc.it 8 t) := by rw [hte]; rfl
      clear hte
      obtain ⟨wr0, rfl⟩ : ∃ x, x = wr := ⟨_, rfl⟩
      go_wp2
      go_loopw [3, 17] (fun s i w' => ∃ j : Nat, j ≤ 8 ∧ i = .int .i64 j ∧ s = .int .u32 ((Crc.it j t : Nat) : Int) ∧ w' = wr0) (fun _ i _ => 8 - (intOf i).toNat)
      case atStart => exact ⟨0, Nat.zero_le _, rfl, rfl, rfl⟩
      case round =>
        obtain ⟨j, hj, rfl, rfl, rfl⟩ := hrel
        have hq := Crc.it_lt j ht0
        have HI : Hid (_ = _) := Crc.it_succ j t
        obtain ⟨q, hqe⟩ : ∃ q, q = Crc.it j t := ⟨_, rfl⟩
        rw [← hqe] at hq HI ⊢
        by_cases hlj : (j : Int) < 8
        · clear hqe
          by_cases ho : q % 2 = 1
          · have d1 : ((q : Int) % 2 == 1) = true := by rw [beq_iff_eq]; omega
            have HB : Hid (_ = _) := bit_odd q ho
            have e5 : bits .xor .u32 ((q : Int) / 2) 2197175160 = ((q / 2 ^^^ 2197175160 : Nat) : Int) := by
              rw [show (q : Int) / 2 = ((q / 2 : Nat) : Int) from by omega]
              exact u32_xor_c (q / 2) 2197175160 (by omega) (by omega)
            obtain ⟨q2, hq2⟩ : ∃ q2, q2 = q / 2 ^^^ 2197175160 := ⟨_, rfl⟩
            rw [← hq2] at HB e5
            clear hq2 ho
            go_wp2
            go_roundw
            case rel => exact ⟨j + 1, by omega, by go_num, by rw [HI.out, HB.out], trivial⟩
            case measure => simp [intOf]; omega
          · have d1 : ((q : Int) % 2 == 1) = false := by rw [beq_eq_false_iff_ne]; omega
            have HB : Hid (_ = _) := bit_even q (by omega)
            clear ho
            go_wp2
            go_roundw
            case rel => exact ⟨j + 1, by omega, by go_num, by rw [HI.out, HB.out]; go_num, trivial⟩
            case measure => simp [intOf]; omega
        · have e : j = 8 := by omega
          subst e
          have HQ : Hid (q = Crc.it 8 t) := hqe
          clear hqe
          go_wp2
          go_roundw
          case rel => exact ⟨k + 1, by omega, by go_num, by rw [HR.out, HT.out, HQ.out], trivial⟩
          case measure => simp [intOf]; omega
    · have e : k = n := by omega
      subst e
      have hte : xs.take k = xs := List.take_of_length_le (by rw [h.len]; omega)
      have HS : Hid (bits .xor .u32 ((Crc.run 4294967295 xs : Nat) : Int) 4294967295 = ((Crc.sum xs : Nat) : Int)) := by
        have := u32_xor_c (Crc.run 4294967295 xs) 4294967295 (by rw [← hte]; exact hs0) (by omega)
        exact this
      rw [hte]
      clear hte
      go_wp2
      go_ret
      exact ⟨ret_num HS.out, rfl⟩

/-- a number in so many bytes, the highest first -/
def big (n w : Nat) : List Nat := (List.range w).map fun j => n / 256 ^ (w - 1 - j) % 256
theorem big_length (n w : Nat) : (big n w).length = w := by simp [big]
theorem big_byte (n w : Nat) : ∀ x ∈ big n w, x < 256 := fun x hx => by
  obtain ⟨j, _, rfl⟩ := List.mem_map.1 hx
  exact Nat.mod_lt _ (by omega)
theorem big_at (n w j : Nat) (h : j < w) : (big n w).getD j 0 = n / 256 ^ (w - 1 - j) % 256 := by
  unfold big
  rw [List.getD_eq_getElem?_getD, List.getElem?_map, List.getElem?_range h]; rfl
def bigF (n w r : Nat) : Nat → Value := fun j => .int .u8 (((if w - r ≤ j then n / 256 ^ (w - 1 - j) % 256 else 0 : Nat) : Nat) : Int)
theorem bigF_succ (n w r j : Nat) (hr : r < w) : bigF n w (r + 1) j = if j = w - 1 - r then .int .u8 ((n / 256 ^ r % 256 : Nat) : Int) else bigF n w r j := by
  unfold bigF
  by_cases e : j = w - 1 - r
  · subst e; rw [if_pos rfl, if_pos (by omega), show w - 1 - (w - 1 - r) = r from by omega]
  · rw [if_neg e]
    by_cases h : w - r ≤ j
    · rw [if_pos h, if_pos (by omega)]
    · rw [if_neg h, if_neg (by omega)]
theorem ow_of_row {w : World} {base b n : Nat} {f : Nat → Value} {xs : List Nat} (h : w.rowIs b 5 n f) (hb : base ≤ b) (hl : xs.length = n) (hm : n ≤ maxLen) (hf : ∀ j, j < n → f j = .int .u8 ((xs.getD j 0 : Nat) : Int)) :
    Ow w base (.slice (some ⟨b, 0, none⟩) n n) xs := by
  obtain ⟨cs, hh, hs, hc⟩ := h
  refine ⟨by rw [vl_length]; omega, Or.inr ⟨b, n, cs, by rw [hl], hb, hh, by omega, hm, by omega, ?_⟩⟩
  rw [List.take_of_length_le (by simp; omega)]
  apply List.ext_getElem?
  intro i
  by_cases hi : i < n
  · rw [Array.getElem?_toList, hc i hi, hf i hi, vl_get (by omega)]
  · rw [Array.getElem?_toList, Array.getElem?_eq_none (by omega), List.getElem?_eq_none (by rw [vl_length]; omega)]

set_option maxRecDepth 100000 in
set_option maxHeartbeats 400000 in
theorem big_any (n wd : Nat) (w : World) (hn : (n : Int) < 9223372036854775808) (hw : (wd : Int) ≤ 100) :
    Calls Tryz.prog 195 #[.int .i64 n, .int .i64 wd] w fun e w' => e = .returned (.slice (some ⟨w.heap.size, 0, none⟩) wd wd) ∧ Kp (fun _ => False) w w' ∧ w'.heap.size = w.heap.size + 1 ∧ Ow w' w.heap.size (.slice (some ⟨w.heap.size, 0, none⟩) wd wd) (big n wd) := by
  have hmk := run_make_row' (P := Tryz.prog) 34 5 (.int .u8 0) 1 Tryz.underlying34 info5 rfl .i64 .i64 wd (by omega) (by omega)
  have HN : Hid ((n : Int) < 9223372036854775808) := hn
  clear hn
  go_enter Tryz.func195, Tryz.ntmps195
  go_wp2
  clear hmk
  go_loopg [0, 6] wd (fun gk x i wr => ∃ r : Nat, r ≤ wd ∧ gk = wd - r ∧ i = .int .i64 ((wd : Int) - 1 - r) ∧ x = .int .i64 ((n / 256 ^ r : Nat) : Int) ∧ Kp (fun _ => False) w wr ∧ wr.heap.size = w.heap.size + 1 ∧ wr.rowIs w.heap.size 5 wd (bigF n wd r))
  case atStart => exact ⟨0, Nat.zero_le _, rfl, by simp, by simp, (Kp.refl _ _).alloc _, by simp, (World.rowIs_made w _ wd 5).congr (fun j hj => by unfold bigF; rw [if_neg (by omega)]; rfl)⟩
  case round =>
    obtain ⟨r, hr, rfl, rfl, rfl, hK, hz, hR⟩ := hrel
    have HD : Hid (n / 256 ^ (r + 1) = n / 256 ^ r / 256) := by rw [Nat.pow_succ, Nat.div_div_eq_div_mul]; rfl
    have HQ : Hid (n / 256 ^ r ≤ n) := Nat.div_le_self _ _
    have HB : Hid (∀ j, bigF n wd (r + 1) j = if j = wd - 1 - r then .int .u8 ((n / 256 ^ r % 256 : Nat) : Int) else bigF n wd r j) ∨ wd ≤ r := by
      by_cases h : r < wd
      · exact Or.inl (fun j => bigF_succ n wd r j h)
      · exact Or.inr (by omega)
    obtain ⟨q, hq⟩ : ∃ q, q = n / 256 ^ r := ⟨_, rfl⟩
    rw [← hq] at HD HQ HB ⊢
    clear hq
    by_cases hlt : (0 : Int) ≤ (wd : Int) - 1 - r
    · obtain ⟨j, hj⟩ : ∃ j : Nat, (wd : Int) - 1 - r = j := ⟨wd - 1 - r, by omega⟩
      have hjj : j = wd - 1 - r := by omega
      replace HB : Hid (∀ j, bigF n wd (r + 1) j = if j = wd - 1 - r then .int .u8 ((q % 256 : Nat) : Int) else bigF n wd r j) := by
        rcases HB with h | h
        · exact h
        · omega
      rw [← hjj] at HB
      have HJ : Hid ((wd : Int) - 1 - ((r + 1 : Nat) : Int) = (j : Int) - 1) := by show _ = _; omega
      rw [hj]
      have hjl : (j : Int) < (wd : Int) := by omega
      have hrl : r < wd := by omega
      clear hjj hlt hj
      have c1 := hR.cell (i := j) (by omega)
      have c2 := hR.frozen j
      have HQ2 : Hid ((q : Int) < 9223372036854775808) := by show _ < _; have := HQ.out; have := HN.out; omega
      have hq0 : (0 : Int) ≤ (q : Int) := by omega
      have HW : Hid (wrap64 ((q : Int) / 256) = ((q / 256 : Nat) : Int)) := by show _ = _; have := HQ2.out; unfold wrap64; omega
      go_wp2
      go_roundg (wd - (r + 1))
      case rel => exact ⟨r + 1, by omega, rfl, by rw [HJ.out], by rw [HD.out]; exact congrArg (Value.int .i64) HW.out, hK.setCell (fun h => absurd h (Nat.lt_irrefl _)) _, by simpa using hz, (hR.set j _).congr (fun i _ => by
        rw [HB.out]
        split
        · congr 1
        · rfl)⟩
      case measure => omega
    · have e : r = wd := by omega
      subst e
      rw [show (r : Int) - 1 - (r : Int) = -1 from by omega]
      clear HB HD HQ hlt
      go_wp2
      go_ret
      exact ⟨rfl, hK, hz, ow_of_row hR (Nat.le_refl _) (big_length _ _) (by unfold maxLen; omega) (fun j hj => by rw [big_at n r j hj]; unfold bigF; rw [if_pos (by omega)])⟩
end Go.Proofs.YtmooddbhcccicaaGreatDoor

/- Texts of this proof, joined: Ab, Ac. -/
/- Heaps of numbers, plain: whatever goes up or down, the same ones are there, and the least is on top (laid by scripts/mkab.py). -/
namespace Go.Proofs.YtmooddbhcccicaaGreatDoor
set_option linter.unusedVariables false
set_option linter.unusedSimpArgs false
open Go.RowKit Go.Deep

def swI (l : List Nat) (i j : Nat) : List Nat := (l.set i (l.getD j 0)).set j (l.getD i 0)
theorem swI_len (l : List Nat) (i j : Nat) : (swI l i j).length = l.length := by unfold swI; simp
/-- the one at j goes up -/
def upI : Nat → List Nat → Nat → List Nat
  | 0, l, _ => l
  | f + 1, l, j => if j = 0 then l else if (l.getD j 0) < (l.getD ((j - 1) / 2) 0) then upI f (swI l ((j - 1) / 2) j) ((j - 1) / 2) else l
/-- which of the two below i, of n, is to be held against it -/
def kidI (l : List Nat) (i n : Nat) : Nat := if 2 * i + 2 < n ∧ (l.getD (2 * i + 2) 0) < (l.getD (2 * i + 1) 0) then 2 * i + 2 else 2 * i + 1
/-- the one at i goes down, among the first n -/
def dnI : Nat → List Nat → Nat → Nat → List Nat
  | 0, l, _, _ => l
  | f + 1, l, i, n => if n ≤ 2 * i + 1 then l else if (l.getD (kidI l i n) 0) < (l.getD i 0) then dnI f (swI l i (kidI l i n)) (kidI l i n) n else l
theorem upI_len : ∀ f l j, (upI f l j).length = l.length
  | 0, _, _ => rfl
  | f + 1, l, j => by
    unfold upI
    by_cases h : j = 0
    · rw [if_pos h]
    · rw [if_neg h]
      by_cases h2 : (l.getD j 0) < (l.getD ((j - 1) / 2) 0)
      · rw [if_pos h2, upI_len f, swI_len]
      · rw [if_neg h2]
theorem dnI_len : ∀ f l i n, (dnI f l i n).length = l.length
  | 0, _, _, _ => rfl
  | f + 1, l, i, n => by
    unfold dnI
    by_cases h : n ≤ 2 * i + 1
    · rw [if_pos h]
    · rw [if_neg h]
      by_cases h2 : (l.getD (kidI l i n) 0) < (l.getD i 0)
      · rw [if_pos h2, dnI_len f, swI_len]
      · rw [if_neg h2]
def pushI (l : List Nat) (x : Nat) : List Nat := upI (l.length + 1) (l ++ [x]) l.length
def sunkI (l : List Nat) : List Nat := dnI l.length (swI l 0 (l.length - 1)) 0 (l.length - 1)
def popIL (l : List Nat) : List Nat := (sunkI l).take (l.length - 1)
def popIX (l : List Nat) : Nat := (sunkI l).getD (l.length - 1) 0
theorem upI_succ (f : Nat) (l : List Nat) (j : Nat) : upI (f + 1) l j = if j = 0 then l else if (l.getD j 0) < (l.getD ((j - 1) / 2) 0) then upI f (swI l ((j - 1) / 2) j) ((j - 1) / 2) else l := rfl
theorem dnI_succ (f : Nat) (l : List Nat) (i n : Nat) : dnI (f + 1) l i n = if n ≤ 2 * i + 1 then l else if (l.getD (kidI l i n) 0) < (l.getD i 0) then dnI f (swI l i (kidI l i n)) (kidI l i n) n else l := rfl
theorem upI_fuel : ∀ f f' l j, j < f → j < f' → upI f l j = upI f' l j
  | 0, _, _, _, h, _ => absurd h (Nat.not_lt_zero _)
  | f + 1, 0, _, _, _, h => absurd h (Nat.not_lt_zero _)
  | f + 1, f' + 1, l, j, h, h' => by
    unfold upI
    by_cases e : j = 0
    · rw [if_pos e, if_pos e]
    · rw [if_neg e, if_neg e]
      by_cases e2 : (l.getD j 0) < (l.getD ((j - 1) / 2) 0)
      · rw [if_pos e2, if_pos e2]; exact upI_fuel f f' _ _ (by omega) (by omega)
      · rw [if_neg e2, if_neg e2]

theorem kidI_le (l : List Nat) (i n : Nat) : i < kidI l i n ∧ (¬ n ≤ 2 * i + 1 → kidI l i n < n) := by
  unfold kidI
  by_cases h : 2 * i + 2 < n ∧ (l.getD (2 * i + 2) 0) < (l.getD (2 * i + 1) 0)
  · rw [if_pos h]; omega
  · rw [if_neg h]; omega
theorem dnI_fuel : ∀ f f' l i n, n ≤ i + f → n ≤ i + f' → dnI f l i n = dnI f' l i n
  | 0, 0, _, _, _, _, _ => rfl
  | 0, f' + 1, l, i, n, h, _ => by rw [dnI_succ, if_pos (by omega)]; rfl
  | f + 1, 0, l, i, n, _, h => by rw [dnI_succ, if_pos (by omega)]; rfl
  | f + 1, f' + 1, l, i, n, h, h' => by
    rw [dnI_succ, dnI_succ]
    by_cases e : n ≤ 2 * i + 1
    · rw [if_pos e, if_pos e]
    · rw [if_neg e, if_neg e]
      by_cases e2 : (l.getD (kidI l i n) 0) < (l.getD i 0)
      · rw [if_pos e2, if_pos e2]
        have := (kidI_le l i n).1
        exact dnI_fuel f f' _ _ _ (by omega) (by omega)
      · rw [if_neg e2, if_neg e2]

theorem getD_set_selfI (l : List Nat) (i : Nat) (x : Nat) (h : i < l.length) : (l.set i x).getD i 0 = x := by
  rw [List.getD_eq_getElem?_getD, List.getElem?_set_self h]; rfl
theorem getD_set_neI (l : List Nat) {i k : Nat} (x : Nat) (h : i ≠ k) : (l.set i x).getD k 0 = l.getD k 0 := by
  rw [List.getD_eq_getElem?_getD, List.getElem?_set_ne h, ← List.getD_eq_getElem?_getD]
theorem swI_getD (l : List Nat) (i j k : Nat) (hi : i < l.length) (hj : j < l.length) : (swI l i j).getD k 0 = if k = j then l.getD i 0 else if k = i then l.getD j 0 else l.getD k 0 := by
  unfold swI
  by_cases h1 : k = j
  · subst h1; rw [if_pos rfl, getD_set_selfI _ _ _ (by rw [List.length_set]; exact hj)]
  · rw [if_neg h1, getD_set_neI _ _ (fun e => h1 e.symm)]
    by_cases h2 : k = i
    · subst h2; rw [if_pos rfl, getD_set_selfI _ _ _ hi]
    · rw [if_neg h2, getD_set_neI _ _ (fun e => h2 e.symm)]
/-- the one at i goes down, among the first n; and where it comes to -/
def dnP : Nat → List Nat → Nat → Nat → List Nat × Nat
  | 0, l, i, _ => (l, i)
  | f + 1, l, i, n => if n ≤ 2 * i + 1 then (l, i) else if l.getD (kidI l i n) 0 < l.getD i 0 then dnP f (swI l i (kidI l i n)) (kidI l i n) n else (l, i)
theorem dnP_succ (f : Nat) (l : List Nat) (i n : Nat) : dnP (f + 1) l i n = if n ≤ 2 * i + 1 then (l, i) else if l.getD (kidI l i n) 0 < l.getD i 0 then dnP f (swI l i (kidI l i n)) (kidI l i n) n else (l, i) := rfl
/-- the time of the k-th -/
def tmI (l : List Nat) (k : Nat) : Nat := l.getD k 0
/-- of the first n each is no less than the one above it -/
def HpdI (l : List Nat) (n : Nat) : Prop := ∀ k, 0 < k → k < n → tmI l ((k - 1) / 2) ≤ tmI l k
theorem tmI_sw (l : List Nat) (i j k : Nat) (hi : i < l.length) (hj : j < l.length) : tmI (swI l i j) k = if k = j then tmI l i else if k = i then tmI l j else tmI l k := by
  unfold tmI
  rw [swI_getD l i j k hi hj]
theorem getD_of_getI {l : List Nat} {k : Nat} (h : k < l.length) : l.getD k 0 = l[k] := by rw [List.getD_eq_getElem?_getD, List.getElem?_eq_getElem h]; rfl
theorem swI_perm (l : List Nat) (i j : Nat) (hi : i < l.length) (hj : j < l.length) : (swI l i j).Perm l := by
  unfold swI
  rw [getD_of_getI hi, getD_of_getI hj]
  exact List.set_set_perm hi hj
theorem upI_perm : ∀ f l j, j < l.length → (upI f l j).Perm l
  | 0, l, j, _ => List.Perm.refl _
  | f + 1, l, j, hj => by
    rw [upI_succ]
    by_cases h : j = 0
    · rw [if_pos h]
    · rw [if_neg h]
      by_cases h2 : l.getD j 0 < l.getD ((j - 1) / 2) 0
      · rw [if_pos h2]
        exact (upI_perm f _ _ (by rw [swI_len]; omega)).trans (swI_perm l _ _ (by omega) hj)
      · rw [if_neg h2]
theorem dnP_perm : ∀ f l i n, i < n → n ≤ l.length → (dnP f l i n).1.Perm l
  | 0, l, i, n, _, _ => List.Perm.refl _
  | f + 1, l, i, n, hi, hn => by
    rw [dnP_succ]
    by_cases h : n ≤ 2 * i + 1
    · rw [if_pos h]
    · rw [if_neg h]
      by_cases h2 : l.getD (kidI l i n) 0 < l.getD i 0
      · rw [if_pos h2]
        have hk := (kidI_le l i n).2 h
        exact (dnP_perm f _ _ n hk (by rw [swI_len]; exact hn)).trans (swI_perm l _ _ (by omega) (by omega))
      · rw [if_neg h2]
/-- what is beyond n stays -/
theorem dnP_keep : ∀ f l i n k, i < n → n ≤ l.length → n ≤ k → (dnP f l i n).1.getD k 0 = l.getD k 0
  | 0, l, i, n, k, _, _, _ => rfl
  | f + 1, l, i, n, k, hi, hn, hk => by
    rw [dnP_succ]
    by_cases h : n ≤ 2 * i + 1
    · rw [if_pos h]
    · rw [if_neg h]
      by_cases h2 : l.getD (kidI l i n) 0 < l.getD i 0
      · rw [if_pos h2]
        have hkk := (kidI_le l i n).2 h
        rw [dnP_keep f _ _ n k hkk (by rw [swI_len]; exact hn) hk, swI_getD l i _ k (by omega) (by omega), if_neg (by omega), if_neg (by omega)]
      · rw [if_neg h2]
theorem upI_heap : ∀ f l j n, j < f → j < n → n ≤ l.length → (∀ k, 0 < k → k < n → k ≠ j → tmI l ((k - 1) / 2) ≤ tmI l k) → (∀ k, 0 < k → k < n → (k - 1) / 2 = j → 0 < j → tmI l ((j - 1) / 2) ≤ tmI l k) → HpdI (upI f l j) n
  | 0, _, _, _, h, _, _, _, _ => absurd h (Nat.not_lt_zero _)
  | f + 1, l, j, n, hf, hj, hn, h1, h2 => by
    rw [upI_succ]
    by_cases h : j = 0
    · rw [if_pos h]
      exact fun k hk hkn => h1 k hk hkn (by omega)
    · rw [if_neg h]
      by_cases hlt : l.getD j 0 < l.getD ((j - 1) / 2) 0
      · rw [if_pos hlt]
        have hlt' : tmI l j < tmI l ((j - 1) / 2) := hlt
        obtain ⟨p, hp⟩ : ∃ p, p = (j - 1) / 2 := ⟨_, rfl⟩
        rw [← hp] at hlt' ⊢
        have hpl : p < l.length := by omega
        have hjl : j < l.length := by omega
        refine upI_heap f _ p n (by omega) (by omega) (by rw [swI_len]; exact hn) (fun k hk hkn hne => ?_) (fun k hk hkn hkp hp0 => ?_)
        · rw [tmI_sw l p j k hpl hjl, tmI_sw l p j _ hpl hjl]
          by_cases e1 : k = j
          · rw [if_pos e1, e1, ← hp, if_neg (by omega), if_pos rfl]; omega
          · rw [if_neg e1, if_neg hne]
            by_cases e2 : (k - 1) / 2 = j
            · rw [if_pos e2]
              have := h2 k hk hkn e2 (by omega)
              rw [← hp] at this
              exact this
            · rw [if_neg e2]
              by_cases e3 : (k - 1) / 2 = p
              · rw [if_pos e3]
                have := h1 k hk hkn e1
                rw [e3] at this
                omega
              · rw [if_neg e3]; exact h1 k hk hkn e1
        · have hpp : tmI l ((p - 1) / 2) ≤ tmI l p := h1 p hp0 (by omega) (by omega)
          rw [tmI_sw l p j k hpl hjl, tmI_sw l p j _ hpl hjl, if_neg (by omega), if_neg (by omega)]
          by_cases e1 : k = j
          · rw [if_pos e1]; exact hpp
          · rw [if_neg e1, if_neg (by omega)]
            have := h1 k hk hkn e1
            rw [hkp] at this
            omega
      · rw [if_neg hlt]
        intro k hk hkn
        by_cases e : k = j
        · rw [e]; exact Nat.not_lt.1 hlt
        · exact h1 k hk hkn e
theorem kidI_least (l : List Nat) (i n : Nat) (h : ¬ n ≤ 2 * i + 1) : (kidI l i n = 2 * i + 1 ∨ kidI l i n = 2 * i + 2) ∧ ∀ k, 0 < k → k < n → (k - 1) / 2 = i → tmI l (kidI l i n) ≤ tmI l k := by
  unfold kidI
  by_cases h2 : 2 * i + 2 < n ∧ l.getD (2 * i + 2) 0 < l.getD (2 * i + 1) 0
  · rw [if_pos h2]
    refine ⟨Or.inr rfl, fun k hk hkn e => ?_⟩
    have h3 : tmI l (2 * i + 2) < tmI l (2 * i + 1) := h2.2
    rcases (by omega : k = 2 * i + 1 ∨ k = 2 * i + 2) with e | e
    · rw [e]; omega
    · rw [e]; exact Nat.le_refl _
  · rw [if_neg h2]
    refine ⟨Or.inl rfl, fun k hk hkn e => ?_⟩
    rcases (by omega : k = 2 * i + 1 ∨ k = 2 * i + 2) with e | e
    · rw [e]; exact Nat.le_refl _
    · rw [e]
      have h3 : ¬ tmI l (2 * i + 2) < tmI l (2 * i + 1) := fun h3 => h2 ⟨by omega, h3⟩
      omega
/-- behind going down from i: all is in order but, if it stayed, what stands at i against the one above it -/
theorem dnP_heap : ∀ f l i n, n ≤ i + f → i < n → n ≤ l.length → (∀ k, 0 < k → k < n → (k - 1) / 2 ≠ i → k ≠ i → tmI l ((k - 1) / 2) ≤ tmI l k) → (∀ k, 0 < k → k < n → (k - 1) / 2 = i → 0 < i → tmI l ((i - 1) / 2) ≤ tmI l k) →
    (i ≤ (dnP f l i n).2) ∧ (i < (dnP f l i n).2 → HpdI (dnP f l i n).1 n) ∧ (¬ i < (dnP f l i n).2 → (dnP f l i n).1 = l ∧ ∀ k, 0 < k → k < n → k ≠ i → tmI l ((k - 1) / 2) ≤ tmI l k)
  | 0, l, i, n, hf, hi, hn, h1, h2 => by omega
  | f + 1, l, i, n, hf, hi, hn, h1, h2 => by
    rw [dnP_succ]
    by_cases h : n ≤ 2 * i + 1
    · rw [if_pos h]
      exact ⟨Nat.le_refl _, fun e => absurd e (Nat.lt_irrefl _), fun _ => ⟨rfl, fun k hk hkn hne => h1 k hk hkn (by omega) hne⟩⟩
    · rw [if_neg h]
      obtain ⟨hk0, hk1⟩ := kidI_least l i n h
      have hkl := kidI_le l i n
      obtain ⟨c, hc⟩ : ∃ c, c = kidI l i n := ⟨_, rfl⟩
      rw [← hc] at hk0 hk1 hkl ⊢
      have hcn := hkl.2 h
      by_cases hlt : l.getD c 0 < l.getD i 0
      · rw [if_pos hlt]
        have hlt' : tmI l c < tmI l i := hlt
        have hil : i < l.length := by omega
        have hcl : c < l.length := by omega
        have hpc : (c - 1) / 2 = i := by omega
        obtain ⟨q1, q2, q3⟩ := dnP_heap f (swI l i c) c n (by omega) hcn (by rw [swI_len]; exact hn) (fun k hk hkn hp hne => by
            rw [tmI_sw l i c k hil hcl, tmI_sw l i c _ hil hcl, if_neg hp, if_neg hne]
            by_cases e1 : (k - 1) / 2 = i
            · rw [if_pos e1, if_neg (by omega)]
              exact hk1 k hk hkn e1
            · rw [if_neg e1]
              by_cases e2 : k = i
              · rw [if_pos e2]
                have := h2 c (by omega) hcn hpc (by omega)
                rw [e2]
                exact this
              · rw [if_neg e2]; exact h1 k hk hkn e1 e2) (fun k hk hkn hp _ => by
            rw [tmI_sw l i c k hil hcl, tmI_sw l i c _ hil hcl, hpc, if_neg (by omega), if_pos rfl, if_neg (by omega), if_neg (by omega)]
            have := h1 k hk hkn (by omega) (by omega)
            rw [hp] at this
            exact this)
        refine ⟨by omega, fun _ => ?_, fun e => absurd (by omega : i < (dnP f (swI l i c) c n).2) e⟩
        by_cases hm : c < (dnP f (swI l i c) c n).2
        · exact q2 hm
        · obtain ⟨e1, e2⟩ := q3 hm
          rw [e1]
          intro k hk hkn
          by_cases e : k = c
          · rw [e, hpc, tmI_sw l i c c hil hcl, tmI_sw l i c i hil hcl, if_pos rfl, if_neg (by omega), if_pos rfl]
            omega
          · exact e2 k hk hkn e
      · rw [if_neg hlt]
        refine ⟨Nat.le_refl _, fun e => absurd e (Nat.lt_irrefl _), fun _ => ⟨rfl, fun k hk hkn hne => ?_⟩⟩
        by_cases e1 : (k - 1) / 2 = i
        · have := hk1 k hk hkn e1
          have h3 : tmI l i ≤ tmI l c := Nat.not_lt.1 hlt
          rw [e1]
          omega
        · exact h1 k hk hkn e1 hne
theorem HpdI.top {l : List Nat} {n : Nat} (h : HpdI l n) : ∀ k, k < n → tmI l 0 ≤ tmI l k := by
  intro k
  induction k using Nat.strongRecOn with
  | _ k ih =>
    intro hk
    by_cases e : k = 0
    · rw [e]; exact Nat.le_refl _
    · have h1 := ih ((k - 1) / 2) (by omega) (by omega)
      have h2 := h k (by omega) hk
      omega
theorem dnI_fst : ∀ f l i n, dnI f l i n = (dnP f l i n).1
  | 0, _, _, _ => rfl
  | f + 1, l, i, n => by
    rw [dnI_succ, dnP_succ]
    by_cases h : n ≤ 2 * i + 1
    · rw [if_pos h, if_pos h]
    · rw [if_neg h, if_neg h]
      by_cases h2 : l.getD (kidI l i n) 0 < l.getD i 0
      · rw [if_pos h2, if_pos h2]; exact dnI_fst f _ _ n
      · rw [if_neg h2, if_neg h2]
/-- what is pushed -/
theorem pushI_heap {l : List Nat} (h : HpdI l l.length) (x : Nat) : HpdI (pushI l x) (pushI l x).length ∧ (pushI l x).Perm (l ++ [x]) := by
  have hl : (l ++ [x]).length = l.length + 1 := by rw [List.length_append]; rfl
  have e : (pushI l x).length = l.length + 1 := by unfold pushI; rw [upI_len, hl]
  have hg : ∀ k, k < l.length → tmI (l ++ [x]) k = tmI l k := fun k hk => by
    unfold tmI
    rw [List.getD_eq_getElem?_getD, List.getD_eq_getElem?_getD, List.getElem?_append_left hk]
  refine ⟨?_, ?_⟩
  · rw [e]
    unfold pushI
    refine upI_heap (l.length + 1) (l ++ [x]) l.length (l.length + 1) (by omega) (by omega) (by omega) (fun k hk hkn hne => ?_) (fun k hk hkn hp h0 => by omega)
    rw [hg k (by omega), hg _ (by omega)]
    exact h k hk (by omega)
  · unfold pushI
    exact upI_perm _ _ _ (by omega)
/-- what is popped is the least; the others stay a heap -/
theorem popI_heap {l : List Nat} (h : HpdI l l.length) (h0 : 0 < l.length) : popIX l = l.getD 0 0 ∧ HpdI (popIL l) (popIL l).length ∧ (popIL l ++ [popIX l]).Perm l ∧ (popIL l).length = l.length - 1 := by
  obtain ⟨n, hn⟩ : ∃ n, l.length = n + 1 := ⟨l.length - 1, by omega⟩
  have hsl : (sunkI l).length = n + 1 := by unfold sunkI; rw [dnI_len, swI_len, hn]
  have e1 : (popIL l).length = n := by unfold popIL; rw [List.length_take, hsl, hn]; omega
  have hs0 : (swI l 0 n).getD n 0 = l.getD 0 0 := by rw [swI_getD l 0 n n h0 (by omega), if_pos rfl]
  by_cases hn0 : n = 0
  · subst hn0
    have hS : sunkI l = swI l 0 0 := by
      unfold sunkI
      rw [hn, dnI_succ, if_pos (by omega)]
    have hx : popIX l = l.getD 0 0 := by unfold popIX; rw [hS, hn]; exact hs0
    have hL : popIL l = [] := List.eq_nil_of_length_eq_zero e1
    refine ⟨hx, by rw [hL]; exact fun k _ hk => absurd hk (Nat.not_lt_zero _), ?_, by rw [hL, hn]; rfl⟩
    rw [hL, hx]
    obtain ⟨y, hy⟩ : ∃ y, l = [y] := List.length_eq_one_iff.1 hn
    rw [hy]
    exact List.Perm.refl _
  · have hn1 : n < (swI l 0 n).length := by rw [swI_len]; omega
    have hS : sunkI l = (dnP (n + 1) (swI l 0 n) 0 n).1 := by
      unfold sunkI
      rw [hn, Nat.add_sub_cancel, dnI_fst]
    have hkeep : (sunkI l).getD n 0 = l.getD 0 0 := by
      rw [hS, dnP_keep _ _ _ _ _ (by omega) (by omega) (Nat.le_refl _), hs0]
    have hx : popIX l = l.getD 0 0 := by unfold popIX; rw [hn, Nat.add_sub_cancel, hkeep]
    have hperm : (sunkI l).Perm l := by
      rw [hS]
      exact (dnP_perm _ _ _ _ (by omega) (by omega)).trans (swI_perm l 0 n h0 (by omega))
    have hheap : HpdI (sunkI l) n := by
      obtain ⟨q1, q2, q3⟩ := dnP_heap (n + 1) (swI l 0 n) 0 n (by omega) (by omega) (by omega) (fun k hk hkn hp hne => by
        rw [tmI_sw l 0 n k h0 (by omega), tmI_sw l 0 n _ h0 (by omega), if_neg (by omega), if_neg (by omega), if_neg (by omega), if_neg (by omega)]
        exact h k hk (by omega)) (fun k hk hkn hp h9 => absurd h9 (Nat.lt_irrefl _))
      rw [hS]
      by_cases e : 0 < (dnP (n + 1) (swI l 0 n) 0 n).2
      · exact q2 e
      · obtain ⟨q4, q5⟩ := q3 e
        rw [q4]
        intro k hk hkn
        exact q5 k hk hkn (by omega)
    refine ⟨hx, ?_, ?_, by rw [e1, hn]; rfl⟩
    · rw [e1]
      intro k hk hkn
      have := hheap k hk hkn
      have hg : ∀ j, j < n → tmI (popIL l) j = tmI (sunkI l) j := fun j hj => by
        unfold tmI popIL
        rw [List.getD_eq_getElem?_getD, List.getD_eq_getElem?_getD, List.getElem?_take_of_lt (by omega)]
      rw [hg k hkn, hg _ (by omega)]
      exact this
    · have hlast : popIL l ++ [popIX l] = sunkI l := by
        unfold popIL popIX
        rw [hn, Nat.add_sub_cancel]
        have hd : (sunkI l).drop n = [(sunkI l).getD n 0] := by
          rw [List.drop_eq_getElem_cons (by omega), List.drop_of_length_le (by omega), List.getD_eq_getElem?_getD, List.getElem?_eq_getElem (by omega)]
          rfl
        rw [← hd, List.take_append_drop]
      rw [hlast]
      exact hperm
end Go.Proofs.YtmooddbhcccicaaGreatDoor

/- A heap of numbers in memory: its list stands in a cell of a struct; Len, Less, Swap. -/
namespace Go.Proofs.YtmooddbhcccicaaGreatDoor
set_option linter.unusedVariables false
set_option linter.unusedSimpArgs false
open Go.RowKit Go.Deep

def nls (l : List Nat) : List Value := l.map fun x => Value.int .i64 ((x : Nat) : Int)
theorem nls_len (l : List Nat) : (nls l).length = l.length := by simp [nls]
theorem nls_append (l m : List Nat) : nls (l ++ m) = nls l ++ nls m := by simp [nls]
theorem nls_take (l : List Nat) (n : Nat) : (nls l).take n = nls (l.take n) := by simp [nls, List.map_take]
theorem nls_set (l : List Nat) (j x : Nat) : nls (l.set j x) = (nls l).set j (.int .i64 ((x : Nat) : Int)) := by simp [nls, List.map_set]
theorem nls_get (l : List Nat) (j : Nat) (h : j < l.length) : (nls l)[j]? = some (.int .i64 ((l.getD j 0 : Nat) : Int)) := by
  unfold nls
  rw [List.getElem?_map, List.getElem?_eq_getElem h, Option.map_some, List.getD_eq_getElem?_getD, List.getElem?_eq_getElem h]; rfl
theorem own_setI {w : World} {base g n cap sz : Nat} {e : TypeId} {xs : List Value} (h : w.ownsRow base e sz (.slice (some ⟨g, 0, none⟩) n cap) n xs) (j : Nat) (u : Value) (hj : j < xs.length) : (w.setCell ⟨g, j, none⟩ u).ownsRow base e sz (.slice (some ⟨g, 0, none⟩) n cap) n (xs.set j u) := by
  obtain ⟨h1, h2⟩ := h
  rcases h2 with ⟨h0, _⟩ | ⟨g', cap', cur, hv, hg, hh, hn, hcap, hsz, htake⟩
  · cases h0
  · cases hv
    refine ⟨by rw [List.length_set]; exact h1, .inr ⟨g, cap, cur.setIfInBounds j u, rfl, hg, ?_, hn, hcap, by simpa using hsz, ?_⟩⟩
    · exact heap_setCell_same w g j cur e u hh
    · rw [Array.toList_setIfInBounds, List.take_set, htake]
theorem own_subI {w : World} {base g n cap sz k : Nat} {e : TypeId} {xs : List Value} (h : w.ownsRow base e sz (.slice (some ⟨g, 0, none⟩) n cap) n xs) (hk : k ≤ n) : w.ownsRow base e sz (.slice (some ⟨g, 0, none⟩) k cap) k (xs.take (k * sz)) := by
  obtain ⟨h1, h2⟩ := h
  rcases h2 with ⟨h0, _⟩ | ⟨g', cap', cur, hv, hg, hh, hn, hcap, hsz, htake⟩
  · cases h0
  · cases hv
    have hm := Nat.mul_le_mul_right sz hk
    refine ⟨by rw [List.length_take, h1]; omega, .inr ⟨g, cap, cur, rfl, hg, hh, by omega, hcap, hsz, ?_⟩⟩
    rw [← htake, List.take_take, Nat.min_eq_left hm]
theorem own_frzI {w : World} {base g n cap sz : Nat} {e : TypeId} {xs : List Value} (h : w.ownsRow base e sz (.slice (some ⟨g, 0, none⟩) n cap) n xs) (j : Nat) : w.frozen? ⟨g, j, none⟩ = false := by
  obtain ⟨h1, h2⟩ := h
  rcases h2 with ⟨h0, _⟩ | ⟨g', cap', cur, hv, hg, hh, hn, hcap, hsz, htake⟩
  · cases h0
  · cases hv
    exact frozen_of_row _ _ _ cur _ hh
theorem mid_get (pre post : List Value) (v : Value) : (pre ++ v :: post)[pre.length]? = some v := by simp
theorem mid_set (pre post : List Value) (v u : Value) : (pre ++ v :: post).take pre.length ++ [u] ++ (pre ++ v :: post).drop (pre.length + 1) = pre ++ u :: post := by
  simp [List.drop_append]
/-- a heap of the numbers l: its list stands at cell o of the struct at block h, its row at block g -/
structure Ip (w : World) (h o g cap : Nat) (pre post : List Value) (l : List Nat) : Prop where
  lv : Lv w h (pre ++ .slice (some ⟨g, 0, none⟩) l.length cap :: post)
  ol : pre.length = o
  ow : w.ownsRow 0 3 1 (.slice (some ⟨g, 0, none⟩) l.length cap) l.length (nls l)
  ne : g ≠ h
section
variable {w : World} {h o g cap : Nat} {pre post : List Value} {l : List Nat}
theorem Ip.hb (x : Ip w h o g cap pre post l) : h < w.heap.size := x.lv.lt (by simp; omega)
theorem Ip.gb (x : Ip w h o g cap pre post l) : g < w.heap.size := (ownBlock_lt x.ow (g := g) rfl).2
theorem Ip.keep {S : Nat → Prop} {w' : World} (x : Ip w h o g cap pre post l) (k : Kp S w w') (hh : ¬ S h) (hg : ¬ S g) : Ip w' h o g cap pre post l :=
  ⟨x.lv.keep k hh, x.ol, ownsRow_keep x.ow k (fun g' e => by have e' : some g = some g' := e; injection e' with e'; subst e'; exact hg), x.ne⟩
theorem Ip.keep0 {w' : World} (x : Ip w h o g cap pre post l) (k : Kp (fun _ => False) w w') : Ip w' h o g cap pre post l := x.keep k id id
theorem Ip.c0 (x : Ip w h o g cap pre post l) : w.cell? ⟨h, o, none⟩ = some (.slice (some ⟨g, 0, none⟩) l.length cap) := by
  have := x.lv.cell (j := o) (by rw [← x.ol]; exact mid_get _ _ _)
  exact this
theorem Ip.fz (x : Ip w h o g cap pre post l) : w.frozen? ⟨h, o, none⟩ = false := x.lv.fz (by rw [← x.ol]; simp)
theorem Ip.cn (x : Ip w h o g cap pre post l) {j : Nat} (hj : j < l.length) : w.cell? ⟨g, j, none⟩ = some (.int .i64 ((l.getD j 0 : Nat) : Int)) := by
  have h1 := x.ow.cells (g := g) rfl j _ (nls_get l j hj)
  rw [Addr.add_mid, Nat.zero_add] at h1
  exact h1
theorem Ip.capLe (x : Ip w h o g cap pre post l) : l.length ≤ cap := by
  obtain ⟨_, h2⟩ := x.ow
  rcases h2 with ⟨h0, _⟩ | ⟨g', cap', cur, hv, hg, hh, hnn, hcap, hsz, htake⟩
  · cases h0
  · cases hv; omega
/-- another list in the same cell -/
theorem Ip.lset (x : Ip w h o g cap pre post l) (u : Value) : Lv (w.setCell ⟨h, o, none⟩ u) h (pre ++ u :: post) := by
  have h1 := x.lv.set1 o u (by rw [← x.ol]; simp)
  rw [← x.ol, mid_set] at h1
  rw [← x.ol]
  exact h1
end

theorem ilv {w : World} {a : Addr} {v : Value} (hc : w.cell? a = some v) : (loadVar 156 a).run Tryz.prog w = .ok v w := by
  simp [loadVar, hc]
theorem iwrap (a : Addr) (s m : String) (w : World) : (Builtin.ssaWrapNilChk_ #[235] 235 #[.pointer (some a), strVal s, strVal m]).run Tryz.prog w = .ok (.pointer (some a)) w := rfl
theorem imeth (k : Nat) (nm : String) (f : Nat) (hm : ((Tryz.prog.info? 235).bind (fun i => i.methods.find? (·.name == nm))).map (fun m => (m.path, m.func)) = some (#[], some (f, false))) (a : Addr) (w : World) (v : Value) (hc : (loadVar 156 a).run Tryz.prog w = .ok v w) : (method (k + 1) 235 (.pointer (some a)) nm).run Tryz.prog w = .ok (f, v) w := by
  obtain ⟨m, hm1, hm2⟩ := Option.map_eq_some_iff.1 hm
  obtain ⟨i, hi, hf⟩ := Option.bind_eq_some_iff.1 hm1
  simp only [Prod.mk.injEq] at hm2
  have hu : Tryz.prog.underlying 235 = some (.pointer 156) := Tryz.underlying235
  simp [method, typeInfo, hi, hf, hm2.1, hm2.2, follow, receiverAt, run_underlying hu, Place.get, iwrap, asAddr, hc]
theorem mPushI (v : Value) (w : World) : (method 424 235 v "Push").run Tryz.prog w = .ok (269, v) w := by kernel_rfl
theorem mPopI (v : Value) (w : World) : (method 424 235 v "Pop").run Tryz.prog w = .ok (268, v) w := by kernel_rfl
theorem mLenI {a : Addr} {v : Value} {w : World} (hc : w.cell? a = some v) : (method 424 235 (.pointer (some a)) "Len").run Tryz.prog w = .ok (202, v) w := imeth 423 "Len" _ (by kernel_rfl) _ w v (ilv hc)
theorem mLessI {a : Addr} {v : Value} {w : World} (hc : w.cell? a = some v) : (method 424 235 (.pointer (some a)) "Less").run Tryz.prog w = .ok (251, v) w := imeth 423 "Less" _ (by kernel_rfl) _ w v (ilv hc)
theorem mSwapI {a : Addr} {v : Value} {w : World} (hc : w.cell? a = some v) : (method 424 235 (.pointer (some a)) "Swap").run Tryz.prog w = .ok (252, v) w := imeth 423 "Swap" _ (by kernel_rfl) _ w v (ilv hc)

set_option maxRecDepth 100000 in
theorem ilen (p : Option Addr) (n c : Nat) (w : World) : Calls Tryz.prog 202 #[.slice p n c] w fun e w' => e = .returned (.int .i64 n) ∧ w' = w := by
  go_enter Tryz.func202, Tryz.ntmps202
  go_wp2
  go_ret
  exact ⟨rfl, rfl⟩

set_option maxRecDepth 100000 in
set_option maxHeartbeats 800000 in
theorem iless {w : World} {h o g cap : Nat} {pre post : List Value} {l : List Nat} (x : Ip w h o g cap pre post l) (i j : Nat) (hi : i < l.length) (hj : j < l.length) :
    Calls Tryz.prog 251 #[.slice (some ⟨g, 0, none⟩) l.length cap, .int .i64 i, .int .i64 j] w fun e w' => e = .returned (.bool (decide (l.getD i 0 < l.getD j 0))) ∧ Kp (fun _ => False) w w' := by
  have ci := x.cn hi
  have cj := x.cn hj
  obtain ⟨a, ha⟩ : ∃ a, a = l.getD i 0 := ⟨_, rfl⟩
  obtain ⟨b, hb⟩ : ∃ b, b = l.getD j 0 := ⟨_, rfl⟩
  rw [← ha] at ci ⊢
  rw [← hb] at cj ⊢
  obtain ⟨n, hn⟩ : ∃ n, n = l.length := ⟨_, rfl⟩
  rw [← hn] at hi hj ⊢
  have hi2 : (i : Int) < (n : Int) := by omega
  have hj2 : (j : Int) < (n : Int) := by omega
  have hd : decide ((a : Int) < (b : Int)) = decide (a < b) := by simp
  clear x ha hb hn
  go_enter Tryz.func251, Tryz.ntmps251
  go_wp2
  go_region
  go_wp2
  go_ret
  exact ⟨by simp, (Kp.refl _ _).drew⟩

set_option maxRecDepth 100000 in
set_option maxHeartbeats 3200000 in
theorem iswap {w : World} {h o g cap : Nat} {pre post : List Value} {l : List Nat} (x : Ip w h o g cap pre post l) (i j : Nat) (hi : i < l.length) (hj : j < l.length) :
    Calls Tryz.prog 252 #[.slice (some ⟨g, 0, none⟩) l.length cap, .int .i64 i, .int .i64 j] w fun e w' => e = .returned (.tuple #[]) ∧ Kp (fun b => b = g) w w' ∧ Ip w' h o g cap pre post (swI l i j) := by
  have ci := x.cn hi
  have cj := x.cn hj
  obtain ⟨ai, hai⟩ : ∃ a, a = l.getD i 0 := ⟨_, rfl⟩
  obtain ⟨aj, haj⟩ : ∃ a, a = l.getD j 0 := ⟨_, rfl⟩
  rw [← hai] at ci
  rw [← haj] at cj
  have fz : ∀ k, w.frozen? ⟨g, k, none⟩ = false := fun k => own_frzI x.ow k
  obtain ⟨n, hn⟩ : ∃ n, n = l.length := ⟨_, rfl⟩
  obtain ⟨wf, hwf⟩ : ∃ y, y = (w.setCell ⟨g, i, none⟩ (.int .i64 (aj : Int))).setCell ⟨g, j, none⟩ (.int .i64 (ai : Int)) := ⟨_, rfl⟩
  have hK : Kp (fun b => b = g) w wf := by rw [hwf]; exact ((Kp.refl (fun b => b = g) w).setCell (fun _ => rfl) _).setCell (fun _ => rfl) _
  have hH : Ip wf h o g cap pre post (swI l i j) := by
    refine ⟨?_, x.ol, ?_, x.ne⟩
    · rw [swI_len]; exact x.lv.keep hK (fun e => x.ne e.symm)
    · have hml := nls_len l
      have o1 := own_setI x.ow i (.int .i64 (aj : Int)) (by rw [hml]; omega)
      have o2 := own_setI o1 j (.int .i64 (ai : Int)) (by rw [List.length_set, hml]; omega)
      rw [← hwf] at o2
      have e2 : nls (swI l i j) = ((nls l).set i (.int .i64 (aj : Int))).set j (.int .i64 (ai : Int)) := by
        unfold swI
        rw [nls_set, nls_set, hai, haj]
      rw [swI_len, e2]
      exact o2
  have HF : Hid (∀ y : World, y = wf.drew → Kp (fun b => b = g) w y ∧ Ip y h o g cap pre post (swI l i j)) := fun y hy => by
    rw [hy]
    exact ⟨hK.drew, hH.keep0 ((Kp.refl _ _).drew)⟩
  have HW : Hid (wf = (w.setCell ⟨g, i, none⟩ (.int .i64 (aj : Int))).setCell ⟨g, j, none⟩ (.int .i64 (ai : Int))) := hwf
  rw [← hn] at hi hj ⊢
  have hi2 : (i : Int) < (n : Int) := by omega
  have hj2 : (j : Int) < (n : Int) := by omega
  by_cases hij : i = j
  · subst hij
    obtain rfl : ai = aj := by rw [hai, haj]
    have e1 : (w.setCell ⟨g, i, none⟩ (.int .i64 (ai : Int))).cell? ⟨g, i, none⟩ = some (.int .i64 (ai : Int)) := World.cell?_setCell_same _ _ _ ci
    clear x hn hai haj hK hH hwf
    go_enter Tryz.func252, Tryz.ntmps252
    go_wp2
    go_region
    go_end0
    exact ⟨rfl, HF.out _ (by rw [HW.out])⟩
  · have n1 : (⟨g, i, none⟩ : Addr) ≠ ⟨g, j, none⟩ := fun e => by injection e with _ e; omega
    have e1 : (w.setCell ⟨g, i, none⟩ (.int .i64 (aj : Int))).cell? ⟨g, j, none⟩ = some (.int .i64 (aj : Int)) := by rw [World.cell?_setCell_other _ _ _ _ n1]; exact cj
    clear x hn hai haj hK hH hwf n1
    go_enter Tryz.func252, Tryz.ntmps252
    go_wp2
    go_region
    go_end0
    exact ⟨rfl, HF.out _ (by rw [HW.out])⟩
end Go.Proofs.YtmooddbhcccicaaGreatDoor
