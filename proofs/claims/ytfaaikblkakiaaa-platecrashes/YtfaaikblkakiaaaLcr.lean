/- The walk of the law PlateCrashes: what is there behind a crash. -/
import Derived.Test.YtfaaikblkakiaaaSc
import Derived.Test.YtfaaikblkakiaaaFd
import Derived.Deep.RegionLaw
import Derived.Deep.AppendLies
namespace Go.Proofs.Ytfaaikblkakiaaa
open Go.RowKit Go.Deep Go.Maps

theorem and01 (x : Int) : bits .and .u64 x 1 = 0 ∨ bits .and .u64 x 1 = 1 := by
  have h1 : (BitVec.ofInt 64 x &&& BitVec.ofInt 64 1).toNat = (BitVec.ofInt 64 x).toNat % 2 := by
    rw [BitVec.toNat_and, show (BitVec.ofInt 64 1).toNat = 1 from rfl, Nat.and_one_is_mod]
  have h2 : bits .and .u64 x 1 = IntKind.u64.wrap (((BitVec.ofInt 64 x).toNat % 2 : Nat) : Int) := by
    show IntKind.u64.wrap ((BitVec.ofInt 64 x &&& BitVec.ofInt 64 1).toNat : Int) = _
    rw [h1]
  rw [h2]
  rcases Nat.mod_two_eq_zero_or_one (BitVec.ofInt 64 x).toNat with e | e <;> rw [e]
  · exact Or.inl rfl
  · exact Or.inr rfl
/-- whether a sector's bit is set -/
def bt (mask : Int) (z : Int) : Bool := bits .and .u64 (mask / 2 ^ z.toNat) 1 == 1
/-- what the sectors are said to be -/
def Nk (dur : List Nat) (T : Nat → Option (List Nat)) (ks : List Int) (j : Nat) : List Nat := if (j : Int) ∈ ks then nowOf dur T j else secOf dur j
theorem info_int : (Try.prog.info? 3).map (fun i => (i.zero, i.size, i.bytes)) = some (some (.int .i64 0), 1, 8) := by kernel_rfl
/-- as Wv, all of it among the first B blocks -/
structure Wb (w : World) (b d m t t2 B : Nat) (N : Nat → List Nat) : Prop where
  top : ∃ cp V, 6 ≤ cp ∧ w.rowIs t2 32 cp V ∧ ∀ r, r < 6 → ∃ bb o c, V r = .slice (some ⟨bb, o, none⟩) 64 c ∧ 64 ≤ c ∧ Rb w (some ⟨bb, o, none⟩) 64 (N r) ∧ bb < B ∧ bb ≠ t2 ∧ bb ≠ t ∧ bb ≠ d ∧ bb ≠ m ∧ bb ≠ b
  ne : t2 ≠ b ∧ t2 ≠ d ∧ t2 ≠ m ∧ t2 ≠ t
  lt : t2 < B
theorem Wb.of_wv {w : World} {b d m t t2 : Nat} {N : Nat → List Nat} (h : Wv w b d m t t2 N) : Wb w b d m t t2 w.heap.size N := by
  obtain ⟨cp, V, h1, h2, h3⟩ := h.top
  refine ⟨⟨cp, V, h1, h2, fun r hr => ?_⟩, h.ne, h2.lt⟩
  obtain ⟨bb, o, c, x1, x2, x3, x4⟩ := h3 r hr
  have hbl : bb < w.heap.size := by obtain ⟨b', o', e, hc⟩ := x3.cell 0 (by omega); cases e; exact World.block_lt_of_cell? _ _ hc
  exact ⟨bb, o, c, x1, x2, x3, hbl, x4⟩
theorem Wb.mono {w : World} {b d m t t2 B B' : Nat} {N : Nat → List Nat} (h : Wb w b d m t t2 B N) (hB : B ≤ B') : Wb w b d m t t2 B' N := by
  obtain ⟨cp, V, h1, h2, h3⟩ := h.top
  refine ⟨⟨cp, V, h1, h2, fun r hr => ?_⟩, h.ne, Nat.lt_of_lt_of_le h.lt hB⟩
  obtain ⟨bb, o, c, x1, x2, x3, x4, x5⟩ := h3 r hr
  exact ⟨bb, o, c, x1, x2, x3, Nat.lt_of_lt_of_le x4 hB, x5⟩
theorem Wb.keep {S : Nat → Prop} {w w' : World} {b d m t t2 B : Nat} {N : Nat → List Nat} (h : Wb w b d m t t2 B N) (k : Kp S w w') (hS : ∀ x, x < B → S x → x = b ∨ x = d ∨ x = m ∨ x = t) : Wb w' b d m t t2 B N := by
  obtain ⟨cp, V, hc, hr, hv⟩ := h.top
  obtain ⟨n1, n2, n3, n4⟩ := h.ne
  refine ⟨⟨cp, V, hc, k.row hr (fun e => by rcases hS _ h.lt e with h1 | h1 | h1 | h1 <;> contradiction), fun r hr => ?_⟩, h.ne, h.lt⟩
  obtain ⟨bb, o, c, h1, hcc, h2, hB, h3, h4, h5, h6, h7⟩ := hv r hr
  exact ⟨bb, o, c, h1, hcc, h2.keep k (fun a ha _ e => by cases ha; rcases hS _ hB e with h1 | h1 | h1 | h1 <;> contradiction), hB, h3, h4, h5, h6, h7⟩
theorem Wb.put {w w' : World} {b d m t t2 B : Nat} {N : Nat → List Nat} {i : Nat} {v : Value} {xs : List Nat} (h : Wb w b d m t t2 B N) (_hi : i < 6) (hw : w' = w.setCell ⟨t2, i, none⟩ v) (hv : ∃ bb o c, v = .slice (some ⟨bb, o, none⟩) 64 c ∧ 64 ≤ c ∧ Rb w (some ⟨bb, o, none⟩) 64 xs ∧ bb < B ∧ bb ≠ t2 ∧ bb ≠ t ∧ bb ≠ d ∧ bb ≠ m ∧ bb ≠ b) :
    Wb w' b d m t t2 B (fun j => if j = i then xs else N j) := by
  have ks : Kp (fun x => x = t2) w w' := by rw [hw]; exact (Kp.refl (fun x => x = t2) w).setCell (a := ⟨t2, i, none⟩) (fun _ => rfl) _
  obtain ⟨cp, V, h1, h2, h3⟩ := h.top
  refine ⟨⟨cp, _, h1, by rw [hw]; exact h2.set i v, fun r hr => ?_⟩, h.ne, h.lt⟩
  by_cases e : r = i
  · simp only [if_pos e]
    obtain ⟨bb, o, c, x1, x2, x3, xB, x4, x5⟩ := hv
    exact ⟨bb, o, c, x1, x2, x3.keep ks (fun a ha _ e => by cases ha; exact x4 e), xB, x4, x5⟩
  · simp only [if_neg e]
    obtain ⟨bb, o, c, x1, x2, x3, xB, x4, x5⟩ := h3 r hr
    exact ⟨bb, o, c, x1, x2, x3.keep ks (fun a ha _ e => by cases ha; exact x4 e), xB, x4, x5⟩
theorem Wb.congr {w : World} {b d m t t2 B : Nat} {N N' : Nat → List Nat} (h : Wb w b d m t t2 B N) (e : ∀ r, r < 6 → N r = N' r) : Wb w b d m t t2 B N' := by
  obtain ⟨cp, V, h1, h2, h3⟩ := h.top
  refine ⟨⟨cp, V, h1, h2, fun r hr => ?_⟩, h.ne, h.lt⟩
  rw [← e r hr]
  exact h3 r hr
theorem Wb.rt {w : World} {b d m t t2 B : Nat} {N : Nat → List Nat} (h : Wb w b d m t t2 B N) : Rt w t2 6 N := by
  obtain ⟨cp, V, h1, h2, h3⟩ := h.top
  exact ⟨cp, V, h1, h2, fun r hr => by obtain ⟨bb, o, c, h1, _, h2, _⟩ := h3 r hr; exact ⟨_, _, c, h1, h2⟩⟩
/-- a call of a function with one argument, in a region that draws its order -/
theorem step_call1 {ops : Array Oper} {o : Oper} {a : Act} {K : Act → World → Prop} {Q : Exit → Act → World → Prop} {E : Prop} (w : World) (hgd : o.guard = none) (f : Nat) (x : Operand) (ts : Array TypeId)
    (ho : o.op = .call { callee := .value (.func f), args := #[x], argTypes := ts }) (v0 : Value) (hx : a.eval x = v0) (hen : ∀ args w, (callFunc f args).run Try.prog w = .ok (.enter f args) w)
    {R : Ending → World → Prop} (hc : Calls Try.prog f #[v0] w R) (hR : ∀ e w', R e w' → ∃ v, e = .returned v) (h : ∀ v w', R (.returned v) w' → K (a.put o.dst v) w') :
    if Region.wanted o (yielded ops a.tmps) = true then Oper.wp Try.prog o a w K Q else E := by
  have hw : Region.wanted o (yielded ops a.tmps) = true := by simp [Region.wanted, hgd]
  rw [if_pos hw]
  have hrun : (execOp a.eval o).run Try.prog w = .ok (.enter f #[v0]) w := by
    have hf : a.eval (Operand.func f) = .func (.func f) #[] #[] := rfl
    simp [execOp, ho, resolve, invoke, hx, hf, Deferred.ofValue, hen]
  unfold Oper.wp
  rw [hrun]
  refine hc.mono ?_
  rintro e w' hr
  obtain ⟨v, rfl⟩ := hR e w' hr
  exact h v w' hr
theorem sl_first (p : Option Addr) (n c r : Nat) (hr : r ≤ c) (w : World) :
    (Instr.slice 32 (.slice p n c) none (some (.int .i64 (r : Int))) none).run Try.prog w = .ok (.slice p r c) w := by
  obtain ⟨i, hi, hz⟩ := Option.map_eq_some_iff.1 info5
  simp only [Prod.mk.injEq] at hz
  obtain ⟨hz, hs, hb⟩ := hz
  have h2 : (0 : Int) ≤ r ∧ (r : Int) ≤ (c : Int) := by omega
  simp [Instr.slice, Instr.sliceBounds, Instr.sliceBound, asIntOf, run_underlying Try.underlying32, sizeOf, typeInfo, hi, hr]
  cases p <;> simp [Addr.add]
theorem sl_from (p : Option Addr) (n c l : Nat) (hl : l ≤ n) (w : World) :
    (Instr.slice 32 (.slice p n c) (some (.int .i64 (l : Int))) none none).run Try.prog w = .ok (.slice (if c = l then p else p.map (·.add (l * 1))) (n - l) (c - l)) w := by
  obtain ⟨i, hi, hz⟩ := Option.map_eq_some_iff.1 info5
  simp only [Prod.mk.injEq] at hz
  obtain ⟨hz, hs, hb⟩ := hz
  simp [Instr.slice, Instr.sliceBounds, Instr.sliceBound, asIntOf, run_underlying Try.underlying32, sizeOf, typeInfo, hi, hs, hl]
theorem Is.keep2 {S : Nat → Prop} {w w' : World} {base : Nat} {v : Value} {xs : List Int} (h : Is w base v xs) (k : Kp S w w') (hS : ∀ g, base ≤ g ∧ g < w.heap.size → ¬ S g) : Is w' base v xs := ownsRow_keep h k (fun g hg => hS g (ownBlock_lt h hg))
theorem Is.keep {S : Nat → Prop} {w w' : World} {base : Nat} {v : Value} {xs : List Int} (h : Is w base v xs) (k : Kp S w w') (hS : ∀ g, base ≤ g → ¬ S g) : Is w' base v xs := ownsRow_keep h k (fun g hg => hS g (ownBlock_lt h hg).1)

set_option maxRecDepth 100000 in
set_option maxHeartbeats 1600000 in
theorem plateCrashes_walk0 (v : Value) (L : Nat) (mask torn n : Int) (w : World) (h : Dos w v L) :
    Calls Try.prog 5 #[v, .int .u64 mask, .int .i64 torn, .int .i64 n] w fun e w' => e = .returned (.bool true) ∧ Kp (fun _ => False) w w' := by
  have H1 : Hid (Calls _ _ _ w _) := written_was v L w h
  go_enter Try.func5, Try.ntmps5
  go_wp2_with fail
  refine H1.out.mono ?_
  rintro e w1 ⟨b, d, m, q, t, t2, c2, rfl, hc2, k1, hq, ⟨hb, hd, hm, ht, ht2⟩, V, N, dur, T, hP, hN, hEq, hVt, hWv⟩
  have hz1 := k1.size
  have hbl := hP.lt
  have hdl := hP.row.lt
  have hml := hP.mp.lt
  have htl := hN.top.lt
  have HDi : Hid (Calls _ _ _ w1 _) := dirty_ok hP
  have HNow : Hid (Nows w1 b d m t 6 V (fun i => nowOf dur T i)) := ⟨hN.top, fun r hr => by rw [← hEq r hr]; exact hN.row r hr, hN.tb⟩
  have HWv : Hid _ := hWv
  have HVt : Hid _ := hVt
  have HP : Hid (Pt w1 b d m 6 q dur T) := hP
  clear H1 h hP hN hEq hVt hWv
  go_wp2_with fail
  refine HDi.out.mono ?_
  rintro e w2 ⟨v2, rfl, k2, is2⟩
  obtain ⟨p2, cc2, rfl, rz2, hp2⟩ := is2.rz
  clear HDi
  have ht2l : t2 < w1.heap.size := by obtain ⟨_, _, _, x, _⟩ := HWv.out.top; exact x.lt
  have hz2 := k2.size
  obtain ⟨ti, hi0, hz0, hz1', hz2'⟩ := info_parts info_int
  obtain ⟨zs, hzs⟩ : ∃ zs, zs = dks T 6 := ⟨_, rfl⟩
  obtain ⟨Z, hZ⟩ : ∃ Z, Z = zs.length := ⟨_, rfl⟩
  have HZl : Hid (Z = zs.length) := hZ
  have HZs : Hid (zs = dks T 6) := hzs
  have hZ6 : (Z : Int) ≤ 6 := by rw [hZ, hzs]; have := dks_len T 6; omega
  have HRz : Hid (Rz w2 p2 zs) := by rw [hzs]; exact rz2
  have HP2 : Hid (∀ a, p2 = some a → w1.heap.size ≤ a.block) := fun a ha => (hp2 a ha).1
  have HW2 : Hid (Wb w2 b d m t t2 w2.heap.size (Nk dur T [])) := (Wb.of_wv (HWv.out.keep k2 (fun _ e => e.elim))).congr (fun r hr => by unfold Nk; rw [if_neg (by simp)])
  have HN2 : Hid _ := HNow.out.keep k2 (fun _ e => e.elim)
  rw [← hzs, ← hZ]
  clear is2 rz2 hp2 hzs hZ HWv HNow
  go_wp2
  go_loopg [12, 27] Z (fun gk kv x wr => ∃ (k : Nat) (kv' : Value) (ks : List Int), k ≤ Z ∧ gk = Z - k ∧ x = .int .i64 k ∧ kv' = kv ∧ Kp (fun x => x = t2) w2 wr ∧ Hid (Is wr w2.heap.size kv' ks) ∧ Hid (ks = (zs.take k).filter (bt mask)) ∧ Hid (Wb wr b d m t t2 w2.heap.size (Nk dur T ks)))
  case atStart => exact ⟨0, _, [], Nat.zero_le _, rfl, rfl, rfl, Kp.refl _ _, World.ownsRow_nil _ _ _ _, rfl, HW2.out⟩
  case round =>
    obtain ⟨k, kv, ks, hk, rfl, rfl, rfl, hK, hIs, hks, hW⟩ := hrel
    clear HW2
    by_cases hlt : (k : Int) < (Z : Int)
    · have hkl : k < zs.length := by have := HZl.out; omega
      obtain ⟨zb, zo, rfl, zc⟩ := HRz.out k hkl
      have hzb := HP2.out _ rfl
      have zc' := hK.cellv zc (by show zb ≠ t2; simp only at hzb; omega)
      have hmem : zs.getD k 0 ∈ zs := by
        rw [List.getD_eq_getElem?_getD, List.getElem?_eq_getElem hkl]; exact List.getElem_mem hkl
      have htk : Hid (zs.take (k + 1) = zs.take k ++ [zs.getD k 0]) := by
        show _ = _
        rw [List.take_add_one, List.getElem?_eq_getElem hkl, List.getD_eq_getElem?_getD, List.getElem?_eq_getElem hkl]; rfl
      rw [HZs.out] at hmem
      obtain ⟨i, hi, hTi, hiz⟩ := mem_dks.1 hmem
      rw [← HZs.out] at hiz
      rw [← hiz] at zc' htk
      clear zc hmem hkl hiz hzb
      have hi' : (i : Int) < 6 := by omega
      have hi0' : (0 : Int) ≤ (i : Int) := by omega
      by_cases hbit : bt mask (i : Int) = true
      · have hb1 : (bits .and .u64 (mask / 2 ^ i) 1 == 1) = true := hbit
        have hkl6 : Hid (ks.length ≤ 6) := by
          show _ ≤ _
          rw [hks.out]
          refine Nat.le_trans (List.length_filter_le _ _) ?_
          rw [List.length_take]; omega
        have hwz := hK.size
        have HOw : Hid (wr.ownsRow w2.heap.size 3 1 kv ks.length (ks.map encZ)) := hIs.out
        obtain ⟨kl, hkl⟩ : ∃ kl, kl = ks.length := ⟨_, rfl⟩
        rw [← hkl] at hkl6 HOw
        have HKl : Hid (kl = ks.length) := hkl
        clear hkl
        obtain ⟨bb, o, c, hVi, hRbi, hbt, hbd, hbm, hbb⟩ := HN2.out.row i hi
        have hvo := HVt.out i hi
        rw [hVi] at hvo
        obtain ⟨hvo1, hvo2⟩ := hvo
        have hbt2 : bb ≠ t2 := fun e => hvo1 (by rw [e]; rfl)
        have hc64 : 64 ≤ c := hvo2
        have htt2 : t2 ≠ t := hW.out.ne.2.2.2
        have tc0 := hK.cellv (HN2.out.top.cell hi) (fun e => htt2 e.symm)
        rw [hVi] at tc0
        obtain ⟨cpw, Vw, hcpw, hrw, hvw⟩ := hW.out.top
        have HRw : Hid (wr.rowIs t2 32 cpw Vw) := hrw
        obtain ⟨bw, ow, cw, hVw, _⟩ := hvw i hi
        have HRbi : Hid (Rb wr (some ⟨bb, o, none⟩) 64 (nowOf dur T i)) := hRbi.keep hK (fun a ha _ e => by cases ha; exact hbt2 e)
        have hbbl : bb < w2.heap.size := by obtain ⟨b', o', e, hc⟩ := hRbi.cell 0 (by omega); cases e; exact World.block_lt_of_cell? _ _ hc
        clear hvo1 hvo2 hrw hvw hRbi hVi
        go_wp2_with (at_builtin; go_must (refine wpList_append_own_at _ rfl _ _ 33 rfl w2.heap.size 3 ti (.int .i64 0) 1 8 Try.underlying33 hi0 hz0 hz1' hz2' rfl (by decide) _ _ _ rfl (HOw.out.alloc _) ⟨wr.heap.size, 0, none⟩ 1 1 [.int .i64 (i : Int)] rfl rfl (cell_one_new _ _ _) (fun x hx => by simp at hx; subst hx; rfl) (by have := hkl6.out; unfold maxLen; omega) (by have := hkl6.out; omega) (by simp; omega) ?_); intro v' w3 hown' hgrow3 hnil3 hblk3; have kA : Kp (fun x => w2.heap.size ≤ x) wr w3 := ((Kp.refl _ wr).alloc _).trans (grownBy_kp hgrow3) (fun x hx e => (ownBlock_lt HOw.out e).1); have tc3 := kA.cellv tc0 (by show ¬ _ ≤ t; omega); have tw3 := (kA.row HRw.out (by show ¬ _ ≤ t2; omega)).cell (i := i) (by omega); rw [hVw] at tw3; have tf3 := (kA.row HRw.out (by show ¬ _ ≤ t2; omega)).frozen i)
        obtain ⟨w4, hw4⟩ : ∃ x, x = w3.setCell ⟨t2, i, none⟩ (.slice (some ⟨bb, o, none⟩) 64 c) := ⟨_, rfl⟩
        have k4 : Kp (fun x => x = t2) w3 w4 := by rw [hw4]; exact (Kp.refl (fun x => x = t2) w3).setCell (a := ⟨t2, i, none⟩) (fun _ => rfl) _
        have HK4 : Hid (Kp (fun x => x = t2) w2 w4) := (hK.trans kA (fun x hx e => by omega)).trans k4 (fun _ _ e => e)
        have HI4 : Hid (Is w4 w2.heap.size v' (ks ++ [(i : Int)])) := by
          have e1 : (ks ++ [(i : Int)]).length = kl + 1 := by rw [List.length_append, HKl.out]; rfl
          have e2 : (ks ++ [(i : Int)]).map encZ = ks.map encZ ++ [.int .i64 (i : Int)] := by rw [List.map_append]; rfl
          show w4.ownsRow _ _ _ _ _ _
          rw [e1, e2]
          exact ownsRow_keep hown' k4 (fun g hg e => by have := (ownBlock_lt hown' hg).1; omega)
        have HE4 : Hid (ks ++ [(i : Int)] = (zs.take (k + 1)).filter (bt mask)) := by
          show _ = _
          rw [htk.out, List.filter_append, ← hks.out]
          congr 1
          simp [hbit]
        have HW4 : Hid (Wb w4 b d m t t2 w2.heap.size (Nk dur T (ks ++ [(i : Int)]))) := ((hW.out.keep kA (fun x hx e => by omega)).put hi hw4 ⟨bb, o, c, rfl, hc64, HRbi.out.keep kA (fun a ha _ e => by cases ha; simp only at e; omega), hbbl, hbt2, hbt, hbd, hbm, hbb⟩).congr (fun r hr => by
          unfold Nk
          by_cases e : r = i
          · subst e
            rw [if_pos rfl, if_pos (by simp)]
          · rw [if_neg e]
            have : ((r : Int) ∈ ks ++ [(i : Int)]) ↔ (r : Int) ∈ ks := by
              rw [List.mem_append, List.mem_singleton]
              exact ⟨fun h => h.elim id (fun h => absurd (by omega) e), Or.inl⟩
            by_cases hm : (r : Int) ∈ ks
            · rw [if_pos hm, if_pos (this.2 hm)]
            · rw [if_neg hm, if_neg (fun h => hm (this.1 h))])
        rw [← hw4]
        clear hown' hgrow3 hnil3 hblk3 kA tc3 tw3 tf3 HRw HRbi HOw hIs hW hw4 hks
        go_roundg (Z - (k + 1))
        case rel => exact ⟨k + 1, v', _, by omega, rfl, by go_num, rfl, HK4.out, HI4.out, HE4.out, HW4.out⟩
        case measure => omega
      · have hbf : bt mask (i : Int) = false := by simpa using hbit
        have hb1 : (bits .and .u64 (mask / 2 ^ i) 1 == 1) = false := hbf
        have HE4 : Hid (ks = (zs.take (k + 1)).filter (bt mask)) := by
          show _ = _
          rw [htk.out, List.filter_append, ← hks.out]
          simp [hbf]
        clear hks
        go_wp2
        go_roundg (Z - (k + 1))
        case rel => exact ⟨k + 1, kv, ks, by omega, rfl, by go_num, rfl, hK, hIs.out, HE4.out, hW.out⟩
        case measure => omega
    · have e : k = Z := by omega
      subst e
      have HE : Hid (ks = zs.filter (bt mask)) := by
        have := hks.out
        rw [HZl.out, List.take_length] at this
        exact this
      clear hks HRz HP2
      obtain ⟨tt, htt⟩ : ∃ tt, tt = m6 torn := ⟨_, rfl⟩
      have hM : wrap64 ((IntKind.u64.wrap torn).tmod 6) = (tt : Int) := by rw [htt]; exact m6_eq torn
      have htt6 : (tt : Int) < 6 := by rw [htt]; exact m6_lt torn
      obtain ⟨c, hc⟩ : ∃ c, c = torn64 n := ⟨_, rfl⟩
      have hcn : min (max n 0) 64 = (c : Int) := by rw [hc]; unfold torn64; omega
      have hc64 : (c : Int) ≤ 64 := by rw [hc]; have := torn64_le n; omega
      have HC : Hid (c = torn64 n) := hc
      clear htt hc
      have HT64 : Hid _ := HP.out.tlen
      have HLn : Hid _ := HP.out.len
      have HT2 : Hid _ := hW.out.ne
      have HKw : Hid (∀ z ∈ ks, (Lit.int .i64 z).wf = true) := fun z hz => by
        rw [HE.out, List.mem_filter, HZs.out] at hz
        obtain ⟨i, hi, _, rfl⟩ := mem_dks.1 hz.1
        exact wf_nat i (by omega)
      have HKn : Hid ((ks.length : Int) ≤ 9223372036854775807) := by
        have h1 : ks.length ≤ zs.length := by rw [HE.out]; exact List.length_filter_le _ _
        have h2 := HZl.out
        show (ks.length : Int) ≤ _
        omega
      have HD0 : Hid ((dks (fun _ => none) 6).length = 0) := rfl
      rcases and01 (mask / 2 ^ tt) with hb0 | hb0
      · have hb1 : bt mask (tt : Int) = false := by
          show (bits .and .u64 (mask / 2 ^ tt) 1 == 1) = false
          rw [hb0]; rfl
        have htt : tt < 6 := by omega
        have hcc : c ≤ 64 := by omega
        obtain ⟨bb, o, cN, hVi, hRbi, hbt, hbd, hbm, hbb⟩ := HN2.out.row tt htt
        have hvo := HVt.out tt htt
        rw [hVi] at hvo
        obtain ⟨hvo1, hvo2⟩ := hvo
        have hbt2 : bb ≠ t2 := fun e => hvo1 (by rw [e]; rfl)
        have hcN : 64 ≤ cN := hvo2
        have htt2 : t2 ≠ t := hW.out.ne.2.2.2
        have tcN := hK.cellv (HN2.out.top.cell htt) (fun e => htt2 e.symm)
        rw [hVi] at tcN
        have hrN := hRbi.keep hK (fun a ha _ e => by cases ha; exact hbt2 e)
        obtain ⟨cpw, Vw, hcpw, hrw, hvw⟩ := hW.out.top
        obtain ⟨bw, ow, cw, hVw, hcw, hRw, _⟩ := hvw tt htt
        have tcW := hrw.cell (i := tt) (by omega)
        rw [hVw] at tcW
        have HRow : Hid (wr.rowIs t2 32 cpw Vw) := hrw
        have hwz := hK.size
        have s1 := sl_first (some ⟨bb, o, none⟩) 64 cN c (by omega)
        have s2 := sl_from (some ⟨bw, ow, none⟩) 64 cw c hcc
        have hR2 := hRw.part hcw (l := c) (r := 64) hcc (Nat.le_refl _)
        generalize hpw : (if cw = c then some (⟨bw, ow, none⟩ : Addr) else (some (⟨bw, ow, none⟩ : Addr)).map (·.add (c * 1))) = pw at s2 hR2
        have HR1 : Hid (Rb wr (some ⟨bb, o, none⟩) c ((nowOf dur T tt).take c)) := by
          obtain ⟨b', o', e, hcell⟩ := hrN.pt (by omega)
          cases e
          exact ⟨by rw [List.length_take, hrN.len]; omega, fun x hx => hrN.byte x (List.mem_of_mem_take hx), fun j hj => ⟨_, _, rfl, by
            rw [hcell j (by omega), List.getD_eq_getElem?_getD, List.getD_eq_getElem?_getD, List.getElem?_take_of_lt hj]⟩⟩
        have HR2 : Hid (Rb wr pw (64 - c) ((Nk dur T ks tt).drop c)) := by
          have hh := hR2
          rw [List.take_of_length_le (by rw [hRw.len]; omega)] at hh
          exact hh
        obtain ⟨l2, hl2⟩ : ∃ l, l = 64 - c := ⟨_, rfl⟩
        rw [← hl2] at s2 HR2
        have HL2 : Hid (l2 = 64 - c) := hl2
        obtain ⟨xs, hxs⟩ : ∃ xs, xs = (nowOf dur T tt).take c := ⟨_, rfl⟩
        obtain ⟨ys, hys⟩ : ∃ ys, ys = (Nk dur T ks tt).drop c := ⟨_, rfl⟩
        rw [← hxs] at HR1
        rw [← hys] at HR2
        have HXL : Hid (xs.length = c) := HR1.out.len
        have HYL : Hid (ys.length = l2) := HR2.out.len
        have HXY : Hid (xs = (nowOf dur T tt).take c ∧ ys = (Nk dur T ks tt).drop c) := ⟨hxs, hys⟩
        have kd : Kp (fun _ => False) wr wr.drew := (Kp.refl _ _).drew
        have HXLL : Hid (xs.length + l2 ≤ 140737488355328) := by have h1 := HXL.out; have h2 := HL2.out; show _ ≤ _; omega
        have HXY64 : Hid ((xs ++ ys).length = 64) := by have h1 := HXL.out; have h2 := HL2.out; have h3 := HYL.out; show _ = _; rw [List.length_append]; omega
        have HXYL : Hid (0 < (xs ++ ys).length) := by show 0 < _; rw [HXY64.out]; omega
        have HKr : Hid (∀ (v5 : Value) (w5 w6 : World), Kp (fun _ => False) wr w5 → Ow w5 wr.drew.heap.size v5 xs → Kp (fun b => v5.ownBlock = some b) w5 w6 → Kp (fun x => wr.heap.size ≤ x) wr w6) := fun v5 w5 w6 k05 o5 hk6 => (k05.mono (fun _ _ e => e.elim)).trans hk6 (fun x hx e => (ownBlock_lt o5 e).1)
        have HT26 : Hid (∀ w6, Kp (fun x => wr.heap.size ≤ x) wr w6 → w6.cell? ⟨t2, tt, none⟩ = some (.slice (some ⟨bw, ow, none⟩) 64 cw) ∧ w6.frozen? ⟨t2, tt, none⟩ = false) := fun w6 k6 => by
          have hlt := HRow.out.lt
          have hr6 := k6.row HRow.out (fun e => by omega)
          exact ⟨by rw [hr6.cell (by omega), hVw], hr6.frozen tt⟩
        have HCl : Hid (Calls _ _ _ wr.drew _) := clone_any (some ⟨bb, o, none⟩) c cN xs wr.drew (HR1.out.keep0 kd) (show c ≤ 140737488355328 by omega)
        have HEn : Hid (∀ args w, (callFunc 23 args).run Try.prog w = .ok (.enter 23 args) w) := enters_of Try.func23 (by kernel_rfl) rfl
        have HCR : Hid (∀ (e : Ending) (w' : World), (∃ v, e = .returned v ∧ Kp (fun _ => False) wr.drew w' ∧ Ow w' wr.drew.heap.size v xs) → ∃ v, e = .returned v) := fun e w' h => by obtain ⟨v, rfl, _⟩ := h; exact ⟨v, rfl⟩
        have HCS : Hid (∀ (v5 : Value) (w' : World), (∃ v, Ending.returned v5 = .returned v ∧ Kp (fun _ => False) wr.drew w' ∧ Ow w' wr.drew.heap.size v xs) → Kp (fun _ => False) wr.drew w' ∧ Ow w' wr.drew.heap.size v5 xs) := fun v5 w' h => by
          obtain ⟨v, e, h1, h2⟩ := h
          injection e with e
          subst e
          exact ⟨h1, h2⟩
        clear hxs hys hR2 hpw hRw hVw hvw hrw hrN hVi hRbi hvo1 hvo2 hl2
        go_wp2_with fail
        go_region_law
          (first
            | (refine step_call1 wr.drew rfl 23 (.tmp 67) #[32] rfl (.slice (some ⟨bb, o, none⟩) c cN) rfl HEn.out HCl.out HCR.out ?_
               intro v5 w5 h5
               have k5 := (HCS.out v5 w5 h5).1
               have o5 := (HCS.out v5 w5 h5).2
               have k05 := kd.trans k5 (fun _ _ e => e)
               have tcW5 := k05.cellv tcW id)
            | (have o5' := o5
               refine step_append_bytes w5 rfl (.tmp 68) (.tmp 74) rfl wr.heap.size v5 xs rfl o5 pw l2 (cw - c) ys rfl (HR2.out.keep0 k05) HXLL.out k05.size ?_
               intro v6 w6 o6 hk6 hat6
               obtain ⟨g6, cap6, e6, hg6, hlt6⟩ := World.ownsRow.form o6 HXYL.out
               subst e6
               rw [HXY64.out]
               have kr6 := HKr.out v5 w5 w6 k05 o5 hk6
               have t26 := (HT26.out w6 kr6).1
               have f26 := (HT26.out w6 kr6).2))
        all_goals
          obtain ⟨ww, hww⟩ : ∃ x, x = w6.setCell ⟨t2, tt, none⟩ (.slice (some ⟨g6, 0, none⟩) 64 cap6) := ⟨_, rfl⟩
          rw [← hww]
          have hwz6 := kr6.size
          have kx0 : Kp (fun x => x = t2 ∨ w2.heap.size ≤ x) w2 w6 := (hK.mono (fun _ _ e => Or.inl e)).trans kr6 (fun x hx e => by omega)
          have kx1 : Kp (fun x => x = t2) w6 ww := by rw [hww]; exact (Kp.refl (fun x => x = t2) w6).setCell (a := ⟨t2, tt, none⟩) (fun _ => rfl) _
          have HKx : Hid (Kp (fun x => x = t2 ∨ w2.heap.size ≤ x) w2 ww) := kx0.trans kx1 (fun _ _ e => Or.inl e)
          have HIx : Hid (Is ww w2.heap.size kv ks) := (hIs.out.keep2 kr6 (fun g hg => by have := hg.2; omega)).keep kx1 (fun g hg e => by omega)
          have HPx : Hid (Pt ww b d m 6 q dur T) := (HP.out.keep k2 id id id).keep HKx.out (fun e => e.elim (fun e => HT2.out.1 e.symm) (fun e => by omega)) (fun e => e.elim (fun e => HT2.out.2.1 e.symm) (fun e => by omega)) (fun e => e.elim (fun e => HT2.out.2.2.1 e.symm) (fun e => by omega))
          obtain ⟨pq, cq, eq6, hcq, rb6, hpq⟩ := o6.rb (fun x hx => by rcases List.mem_append.1 hx with hx | hx; exact HR1.out.byte x hx; exact HR2.out.byte x hx)
          obtain ⟨N3, hN3⟩ : ∃ N3 : Nat → List Nat, N3 = fun j => if j = tt then xs ++ ys else Nk dur T ks j := ⟨_, rfl⟩
          have HWx : Hid (Wb ww b d m t t2 w6.heap.size N3) := by
            rw [hN3]
            refine ((hW.out.keep kr6 (fun x hx e => by omega)).mono (B' := w6.heap.size) (by omega)).put htt hww ⟨g6, 0, cap6, rfl, ?_, ?_, hlt6, by omega, by omega, by omega, by omega, by omega⟩
            · have := hcq
              injection eq6 with e1 e2 e3
              rw [← e3] at this
              rw [HXY64.out] at this
              exact this
            · injection eq6 with e1 e2 e3
              rw [← e1, HXY64.out] at rb6
              exact rb6
          have HF : Hid (∀ r, r < 6 → secOf (crashD dur T ks (tt : Int) n) r = N3 r) := fun r hr => by
            rw [secOf_crash HLn.out hr HT64.out, ← HC.out, hN3]
            dsimp only
            have hnk : ¬ (tt : Int) ∈ ks := fun hm => by
              rw [HE.out, List.mem_filter, hb1] at hm
              exact absurd hm.2 (by simp)
            by_cases e : r = tt
            · subst e
              rw [if_pos ⟨rfl, hnk⟩]
              simp only [if_true]
              rw [HXY.out.1, HXY.out.2]
              have hNk : Nk dur T ks r = secOf dur r := by unfold Nk; rw [if_neg hnk]
              rw [hNk]
              unfold mixS nowOf
              cases hTr : T r with
              | none => exact (List.take_append_drop _ _).symm
              | some zs => rfl
            · rw [if_neg (fun h => e (by have := h.1; omega)), if_neg e]; rfl
          clear o6 hat6 t26 f26 rb6 hpq hW hIs hww hN3 HR1 HR2 HT26 HKr HRow kr6 o5 k5 k05 tcW5 hk6
          obtain ⟨pk, ck, ek, rzk, hpk⟩ := HIx.out.rz
          have hpk1 : ∀ a, pk = some a → w2.heap.size ≤ a.block := fun a ha => (hpk a ha).1
          obtain ⟨kl, hkl⟩ : ∃ l, l = ks.length := ⟨_, rfl⟩
          have HCr : Hid (Calls _ _ _ ww _) := crash_ok HPx.out pk ck ks (tt : Int) n (fun w' k' => rzk.keep k' (fun a ha e => by have := hpk1 a ha; omega)) HKw.out (wf_nat tt (by omega)) HKn.out
          rw [← hkl] at ek HCr
          subst ek
          clear rzk hpk hpk1 hkl HIx
          go_wp2_with fail
          refine HCr.out.mono ?_
          rintro e wc ⟨rfl, kc, hPc⟩
          have HIm : Hid (Calls _ _ _ wc _) := image_ok hPc
          have HDi : Hid (∀ w', Kp (fun _ => False) wc w' → Calls _ _ _ w' _) := fun w' k' => dirty_ok (hPc.keep k' id id id)
          have HBy : Hid (∀ x ∈ crashD dur T ks tt n, x < 256) := hPc.byte
          have HWc : Hid _ := HWx.out.keep kc (fun x _ e => e.elim (fun e => Or.inr (Or.inl e)) (fun e => Or.inr (Or.inr (Or.inl e))))
          clear HCr hPc
          go_wp2_with fail
          refine HIm.out.mono ?_
          rintro e wi ⟨ti', Vi, rfl, ki, zi, ri, oi⟩
          have HS1 : Hid (∀ c, Calls _ _ #[_, .slice _ _ c] wi _) := fun c => sameTexts_ok ti' t2 6 6 c N3 wi ((rt_image HBy.out ri oi).congr HF.out) (HWc.out.keep ki (fun _ _ e => e.elim)).rt (by omega)
          clear HIm ri oi HBy
          go_wp2_with fail
          refine (HS1.out _).mono ?_
          rintro e w' ⟨rfl, hw⟩
          obtain rfl := hw.symm
          clear HS1
          go_wp2_with fail
          refine (HDi.out _ ki).mono ?_
          rintro e wd ⟨vd, rfl, kd', isd⟩
          obtain ⟨pd, cd, rfl, _, _⟩ := isd.rz
          rw [HD0.out]
          go_wp2
          go_ret
          refine ⟨rfl, ?_⟩
          exact ((((k1.trans k2 (fun _ _ e => e)).trans HKx.out (fun x hx e => by rcases e with e | e <;> omega)).trans kc (fun x hx e => by rcases e with e | e <;> omega)).trans ki (fun _ _ e => e)).trans kd' (fun _ _ e => e)
      · have hb1 : bt mask (tt : Int) = true := by
          show (bits .and .u64 (mask / 2 ^ tt) 1 == 1) = true
          rw [hb0]; rfl
        obtain ⟨ww, rfl⟩ : ∃ x, x = wr := ⟨_, rfl⟩
        have hb2 : (bits .and .u64 (mask / 2 ^ tt) 1 == 0) = false := by rw [hb0]; rfl
        obtain ⟨N3, hN3⟩ : ∃ N3 : Nat → List Nat, N3 = Nk dur T ks := ⟨_, rfl⟩
        have HKx : Hid (Kp (fun x => x = t2 ∨ w2.heap.size ≤ x) w2 ww) := hK.mono (fun _ _ e => Or.inl e)
        have HIx : Hid (Is ww w2.heap.size kv ks) := hIs.out
        have HPx : Hid (Pt ww b d m 6 q dur T) := (HP.out.keep k2 id id id).keep hK (fun e => HT2.out.1 e.symm) (fun e => HT2.out.2.1 e.symm) (fun e => HT2.out.2.2.1 e.symm)
        have HWx : Hid (Wb ww b d m t t2 w2.heap.size N3) := by rw [hN3]; exact hW.out
        have HF : Hid (∀ r, r < 6 → secOf (crashD dur T ks (tt : Int) n) r = N3 r) := fun r hr => by
          rw [secOf_crash HLn.out hr HT64.out, ← HC.out, hN3]
          by_cases e : (r : Int) = (tt : Int) ∧ ¬ (r : Int) ∈ ks
          · rw [if_pos e]
            have e' : r = tt := by have := e.1; omega
            subst e'
            have hnd : T r = none := by
              cases hTr : T r with
              | none => rfl
              | some zs' =>
                refine absurd ?_ e.2
                rw [HE.out, List.mem_filter, HZs.out]
                exact ⟨mem_dks.2 ⟨r, hr, by rw [hTr]; rfl, rfl⟩, hb1⟩
            unfold mixS Nk
            rw [hnd, if_neg e.2]
          · rw [if_neg e]; rfl
        clear hW hIs hN3
        obtain ⟨pk, ck, ek, rzk, hpk⟩ := HIx.out.rz
        have hpk1 : ∀ a, pk = some a → w2.heap.size ≤ a.block := fun a ha => (hpk a ha).1
        obtain ⟨kl, hkl⟩ : ∃ l, l = ks.length := ⟨_, rfl⟩
        have HCr : Hid (Calls _ _ _ ww _) := crash_ok HPx.out pk ck ks (tt : Int) n (fun w' k' => rzk.keep k' (fun a ha e => by have := hpk1 a ha; omega)) HKw.out (wf_nat tt (by omega)) HKn.out
        rw [← hkl] at ek HCr
        subst ek
        clear rzk hpk hpk1 hkl HIx
        go_wp2_with fail
        refine HCr.out.mono ?_
        rintro e wc ⟨rfl, kc, hPc⟩
        have HIm : Hid (Calls _ _ _ wc _) := image_ok hPc
        have HDi : Hid (∀ w', Kp (fun _ => False) wc w' → Calls _ _ _ w' _) := fun w' k' => dirty_ok (hPc.keep k' id id id)
        have HBy : Hid (∀ x ∈ crashD dur T ks tt n, x < 256) := hPc.byte
        have HWc : Hid _ := HWx.out.keep kc (fun x _ e => e.elim (fun e => Or.inr (Or.inl e)) (fun e => Or.inr (Or.inr (Or.inl e))))
        clear HCr hPc
        go_wp2_with fail
        refine HIm.out.mono ?_
        rintro e wi ⟨ti', Vi, rfl, ki, zi, ri, oi⟩
        have HS1 : Hid (∀ c, Calls _ _ #[_, .slice _ _ c] wi _) := fun c => sameTexts_ok ti' t2 6 6 c N3 wi ((rt_image HBy.out ri oi).congr HF.out) (HWc.out.keep ki (fun _ _ e => e.elim)).rt (by omega)
        clear HIm ri oi HBy
        go_wp2_with fail
        refine (HS1.out _).mono ?_
        rintro e w' ⟨rfl, hw⟩
        obtain rfl := hw.symm
        clear HS1
        go_wp2_with fail
        refine (HDi.out _ ki).mono ?_
        rintro e wd ⟨vd, rfl, kd', isd⟩
        obtain ⟨pd, cd, rfl, _, _⟩ := isd.rz
        rw [HD0.out]
        go_wp2
        go_ret
        refine ⟨rfl, ?_⟩
        exact ((((k1.trans k2 (fun _ _ e => e)).trans HKx.out (fun x hx e => by rcases e with e | e <;> omega)).trans kc (fun x hx e => by rcases e with e | e <;> omega)).trans ki (fun _ _ e => e)).trans kd' (fun _ _ e => e)
theorem plateCrashes_walk (v : Value) (L : Nat) (mask torn n : Int) (w : World) (h : Dos w v L) :
    Calls Try.prog 5 #[v, .int .u64 mask, .int .i64 torn, .int .i64 n] w fun e w' => e = .returned (.bool true) ∧ Kp (fun _ => False) w w' := plateCrashes_walk0 v L mask torn n w h
end Go.Proofs.Ytfaaikblkakiaaa
