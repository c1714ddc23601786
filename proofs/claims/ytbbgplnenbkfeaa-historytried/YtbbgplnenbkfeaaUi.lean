/- byKey (laid by scripts/mkui.py). -/
import Derived.Test.YtbbgplnenbkfeaaUh
namespace Go.Proofs.Ytbbgplnenbkfeaa
set_option linter.unusedVariables false
set_option linter.unusedSimpArgs false
open Go.RowKit Go.Deep Go.Maps

def keyI (pg : List (ByteArray × List Hc)) (s : List UInt8) : Option Nat := pg.findIdx? (fun g => g.1.data.toList == s)
def stepG (pg : List (ByteArray × List Hc)) (c : Hc) : List (ByteArray × List Hc) :=
  match keyI pg c.e.key.data.toList with
  | some i => pg.set i (((pg.getD i (⟨#[]⟩, [])).1, (pg.getD i (⟨#[]⟩, [])).2 ++ [c]))
  | none => pg ++ [(c.e.key, [c])]
/-- the calls of each key -/
def byK (cs : List Hc) : List (ByteArray × List Hc) := cs.foldl stepG []
def pl2 (gs : List Gp) : List (ByteArray × List Hc) := gs.map (fun y => (y.key, y.l))
def keyT (pg : List (ByteArray × List Hc)) : List UInt8 → Option Value := fun s => (keyI pg s).map (fun i : Nat => .int .i64 (i : Int))
theorem keyI_lt {pg : List (ByteArray × List Hc)} {s : List UInt8} {i : Nat} (h : keyI pg s = some i) : i < pg.length := by
  unfold keyI at h
  rw [List.findIdx?_eq_some_iff_getElem] at h
  exact h.1
theorem keyT_new (pg : List (ByteArray × List Hc)) (k : ByteArray) (l : List Hc) (h : keyI pg k.data.toList = none) : updS (keyT pg) k.data.toList (.int .i64 (pg.length : Int)) = keyT (pg ++ [(k, l)]) := by
  funext z
  unfold updS keyT keyI
  rw [List.findIdx?_append]
  by_cases hz : z = k.data.toList
  · subst hz
    unfold keyI at h
    rw [if_pos rfl, h]
    simp
  · rw [if_neg hz]
    cases hf : pg.findIdx? (fun g => g.1.data.toList == z) with
    | some i => simp
    | none =>
      have : (k.data.toList == z) = false := by simpa using fun e => hz e.symm
      simp [this]
theorem keyT_set (pg : List (ByteArray × List Hc)) (i : Nat) (d : ByteArray × List Hc) (hd : ∀ c, pg[i]? = some c → d.1 = c.1) : keyT (pg.set i d) = keyT pg := by
  funext z
  unfold keyT keyI
  congr 1
  have e : ∀ (l : List (ByteArray × List Hc)) (p : ByteArray → Bool), l.findIdx? (fun c => p c.1) = (l.map (fun c => c.1)).findIdx? p := fun l p => by rw [List.findIdx?_map]; rfl
  rw [e (pg.set i d) (fun x => x.data.toList == z), e pg (fun x => x.data.toList == z)]
  congr 1
  rw [List.map_set]
  by_cases hi : i < pg.length
  · have := hd pg[i] (List.getElem?_eq_getElem hi)
    rw [this]
    have h2 : pg[i].1 = (pg.map (fun c => c.1))[i]'(by simpa using hi) := by simp
    rw [h2, List.set_getElem_self]
  · rw [List.set_eq_of_length_le (by simpa using hi)]
theorem uKy : Try.prog.underlying 56 = some (.map 9 3) := Try.underlying56
theorem byK_snoc (cs : List Hc) (c : Hc) : byK (cs ++ [c]) = stepG (byK cs) c := by unfold byK; rw [List.foldl_append]; rfl
theorem pl2_get {gs : List Gp} {i : Nat} {y : Gp} (h : gs[i]? = some y) : (pl2 gs)[i]? = some (y.key, y.l) := by unfold pl2; rw [List.getElem?_map, h]; rfl
theorem Yt.keep0 {S : Nat → Prop} {w w' : World} {m q c : Nat} {T : List UInt8 → Option Value} (h : Yt w m q c T) (k : Kp S w w') (hS : ¬ S m) : Yt w' m q c T := h.keep k hS

set_option maxRecDepth 100000 in
set_option maxHeartbeats 6400000 in
theorem byKey_ok (Z : Nat → Prop) (p : Option Addr) (cap : Nat) (cs : List Hc) (w : World) (h : Fl w Z p (hflat cs)) (hc : ∀ c ∈ cs, c.ok w) (hl : cs.length ≤ 900) :
    Calls Try.prog 20 #[.slice p cs.length cap] w fun r w' => ∃ v m gs, r = .returned v ∧ Gk w w' v m gs ∧ pl2 gs = byK cs ∧ gs.length ≤ cs.length ∧ ∀ y ∈ gs, y.l.length ≤ cs.length := by
  obtain ⟨L, hL⟩ : ∃ L, L = cs.length := ⟨_, rfl⟩
  have HL : Hid (L = cs.length ∧ L ≤ 900) := ⟨hL, by omega⟩
  rw [← hL]
  have hL9 : (L : Int) ≤ 900 := by omega
  have HF : Hid (Fl w Z p (hflat cs)) := h
  have HC : Hid (∀ c ∈ cs, c.ok w) := hc
  clear h hc hl hL
  have hmm : ∀ (t : TypeId) (w : World), (Instr.makeMap t none).run Try.prog w = .ok (.map (some w.heap.size)) (w.alloc (.map #[] 0)) := fun _ _ => rfl
  go_enter Try.func20, Try.ntmps20
  go_wp2
  clear hmm
  obtain ⟨w1, hw1⟩ : ∃ x, x = w.alloc (.map #[] 0) := ⟨_, rfl⟩
  have HM1 : Hid (Yt w1 w.heap.size 0 0 (fun _ => none)) := by rw [hw1]; exact Yt.made w
  have HK1 : Hid (Kp (fun _ => False) w w1) := by rw [hw1]; exact (Kp.refl _ _).alloc _
  rw [← hw1]
  obtain ⟨m, hm⟩ : ∃ m, m = w.heap.size := ⟨_, rfl⟩
  rw [← hm] at HM1 ⊢
  have HMm : Hid (w.heap.size ≤ m) := by rw [hm]; exact Nat.le_refl _
  clear hw1 hm
  go_loopg [3, 12] L (fun gk av iv wr => ∃ (k q c : Nat) (a' : Value) (gs : List Gp), k ≤ L ∧ gk = L - k ∧ iv = .int .i64 k ∧ a' = av ∧ Hid (Gk w wr a' m gs) ∧ Hid (Yt wr m q c (keyT (pl2 gs))) ∧ Hid (q ≤ k ∧ gs.length ≤ k ∧ ∀ y ∈ gs, y.l.length ≤ k) ∧ Hid (pl2 gs = byK (cs.take k)))
  case atStart =>
    refine ⟨0, 0, 0, .slice none 0 0, [], Nat.zero_le _, rfl, rfl, rfl, ⟨World.ownsRow_nil _ _ _ _, HK1.out, fun y hy => (by cases hy), fun i j yi yj hi => (by simp at hi), fun y hy => (by cases hy), ⟨fun e => (by cases e), fun y hy => (by cases hy)⟩⟩, HM1.out, ⟨Nat.le_refl _, Nat.le_refl _, fun y hy => (by cases hy)⟩, rfl⟩
  case round =>
    obtain ⟨k, q, c9, a', gs, hk, rfl, rfl, rfl, HA, HM, HQ, HP⟩ := hrel
    by_cases hlt : (k : Int) < (L : Int)
    · have hkl : k < cs.length := by have := HL.out; omega
      have hk9 : k ≤ 900 := by have := HL.out; omega
      obtain ⟨b1, o1, rfl, _, r1⟩ := fl_h (HF.out.keep HA.out.k (fun _ _ => id)) hkl
      obtain ⟨c, hee⟩ : ∃ c, c = cs[k] := ⟨_, rfl⟩
      rw [← hee] at r1
      have hek : c.ok w := by rw [hee]; exact HC.out _ (List.getElem_mem hkl)
      have HEK : Hid (c.ok w) := hek
      have HR1 : Hid (wr.rangeAt b1 (o1 + k * 10) (hcell c)) := r1
      have HO1 : Hid ((hcell c).toArray.all (·.oneCell') = true) := hc_one c hek.e.b.one hek.g.one
      have HPn : Hid (byK (cs.take (k + 1)) = stepG (pl2 gs) c) := by
        show _ = _
        rw [List.take_succ_eq_append_getElem hkl, byK_snoc, ← hee, HP.out]
      have HWF : Hid (c.e.key.size ≤ maxLen) := hek.e.s
      have HK1' : Hid (wrap64 ((k : Int) + 1) = ((k + 1 : Nat) : Int)) := wrapK (by omega)
      have HK9 : Hid (k ≤ 900) := hk9
      obtain ⟨d, hd1, hd2⟩ := dsHc
      obtain ⟨ky, hky⟩ : ∃ ky, ky = c.e.key := ⟨_, rfl⟩
      have HKY : Hid (ky = c.e.key) := hky
      rw [← hky] at HWF
      obtain ⟨xs, hxs⟩ : ∃ xs, xs = hcell c := ⟨_, rfl⟩
      have HXS : Hid (xs = hcell c) := hxs
      rw [← hxs] at HR1 HO1
      have HXL : Hid (xs.length = 10 ∧ xs[3]? = some (.string ky)) := ⟨by rw [hxs]; rfl, by rw [hxs, hky]; rfl⟩
      -- behind the store: the walk's last region, whatever groups there are
      clear r1 hek hee hkl hk9 hky hxs
      cases hf : keyI (pl2 gs) ky.data.toList with
      | some j =>
        have hT : keyT (pl2 gs) ky.data.toList = some (.int .i64 (j : Int)) := by unfold keyT; rw [hf]; rfl
        have hjl : j < gs.length := by have := keyI_lt hf; unfold pl2 at this; rw [List.length_map] at this; exact this
        obtain ⟨y, hy⟩ : ∃ y, gs[j]? = some y := ⟨_, List.getElem?_eq_getElem hjl⟩
        have HY : Hid (gs[j]? = some y) := hy
        have HSt : Hid (stepG (pl2 gs) c = (pl2 gs).set j (y.key, y.l ++ [c])) := by
          show _ = _
          unfold stepG
          rw [← HKY.out, hf]
          have := pl2_get hy
          simp only [List.getD_eq_getElem?_getD, this, Option.getD_some]
        rcases Joins.ownsRow_forms HA.out.o with ⟨_, e2⟩ | ⟨go, co, hav⟩
        · omega
        subst hav
        obtain ⟨no, hn⟩ : ∃ n, n = gs.length := ⟨_, rfl⟩
        have HNn : Hid (gs.length = no) := hn.symm
        rw [← hn] at HA ⊢
        have hj9 : (j : Int) < (no : Int) := by omega
        clear hf hjl hy hn
        go_wp2_with (first
          | (refine wpList_load_mid rfl 65 _ rfl b1 (o1 + k * 10) rfl xs d HR1.out hd1 hd2 (by rw [szHc, HXL.out.1]) ?_)
          | (refine wpList_store_all rfl 65 _ _ rfl 10 wr.heap.size (hcell hc0) xs rfl rfl (by exact Lv.new wr _ _) szHc rfl HXL.out.1 HO1.out ?_; intro u1 hl1 k1; have HKu : Hid (Kp (fun _ => False) wr u1) := ((Kp.refl (fun _ => False) wr).alloc _).trans k1 (fun b hb e => by omega); have HLu : Hid (Lv u1 wr.heap.size xs) := hl1; have c3 : u1.cell? ⟨wr.heap.size, 3, none⟩ = some (.string ky) := hl1.cell (j := 3) HXL.out.2; have HCx : Hid (wr.heap.size < u1.heap.size) := hl1.lt (by rw [HXL.out.1]; decide); clear hl1 k1)
          | (refine wpList_look_yt rfl _ _ rfl uKy zPl m q c9 (keyT (pl2 gs)) (HM.out.keep HKu.out id) rfl ky HWF.out rfl ?_; rw [hT]))
        have kd : Kp (fun _ => False) wr u1.drew := HKu.out.drew
        have hgk := HA.out.keep0 kd
        have hmlt : m < u1.drew.heap.size := by have := HM.out.lt; have := kd.size; omega
        obtain ⟨g, n2, cap2, w2, hap, hc2, hf2, k2, hgk2⟩ := gk_put hgk HNn.out hmlt y HY.out c HEK.out (by have := HQ.out.2.2 y (List.mem_of_getElem? HY.out); have := HK9.out; omega)
        have hlt := HA.out.lt
        have hym := List.mem_of_getElem? HY.out
        have hld : ∀ x, Lv x wr.heap.size xs → (loadVar 65 ⟨wr.heap.size, 0, none⟩).run Try.prog x = .ok (.agg #[.bool c.e.ans, .int .i64 c.e.id, .int .i64 c.e.kind, .string c.e.key, c.e.b.v, .int .i64 c.fr, .int .i64 c.to, .bool c.told, .int .i64 c.says, c.g.v]) x := fun x hx => by
          have := hx.load dsHc szHc HXL.out.1
          rw [HXS.out] at this
          exact this
        have ho0 := hgk.o
        rw [HNn.out] at ho0
        have hCv := own_cl ho0 (j := j) (u := y.v) (by rw [List.getElem?_map, HY.out]; rfl)
        have kds : Kp (fun _ => False) u1 u1.drew := (Kp.refl _ _).drew
        have l0 := HLu.out.keep kds id
        have ka : Kp (fun _ => False) u1.drew (u1.drew.alloc (.cells #[.bool c.e.ans, .int .i64 c.e.id, .int .i64 c.e.kind, .string c.e.key, c.e.b.v, .int .i64 c.fr, .int .i64 c.to, .bool c.told, .int .i64 c.says, c.g.v] 65)) := (Kp.refl _ _).alloc _
        have l2 := l0.keep k2 (fun e => by have := (hlt.2 y hym _ e).2; omega)
        have ks : Kp (fun b => b = go) w2 (w2.setCell ⟨go, j, none⟩ (.slice (some ⟨g, 0, none⟩) n2 cap2)) := (Kp.refl (fun b => b = go) w2).setCell (fun _ => rfl) _
        have hgo := (hlt.1 go rfl).2
        have l3 := l2.keep ks (fun e => by omega)
        have HG2 : Hid (Gk w (w2.setCell ⟨go, j, none⟩ (.slice (some ⟨g, 0, none⟩) n2 cap2)) (.slice (some ⟨go, 0, none⟩) no co) m (gs.set j ⟨y.key, y.l ++ [c], .slice (some ⟨g, 0, none⟩) n2 cap2⟩)) := hgk2
        have HM2 : Hid (Yt (w2.setCell ⟨go, j, none⟩ (.slice (some ⟨g, 0, none⟩) n2 cap2)) m q c9 (keyT (pl2 gs))) := ((HM.out.keep kd id).keep k2 (fun e => HA.out.nm.2 y hym e)).keep ks (fun e => HA.out.nm.1 (by rw [e]; rfl))
        refine bk_region ⟨by kernel_rfl, by kernel_rfl, by kernel_rfl, by kernel_rfl, by kernel_rfl, by kernel_rfl, by kernel_rfl, by kernel_rfl, by kernel_rfl, by kernel_rfl, by kernel_rfl, by kernel_rfl, by kernel_rfl, by kernel_rfl, by kernel_rfl, by kernel_rfl, by kernel_rfl, by kernel_rfl, by kernel_rfl, by kernel_rfl, by kernel_rfl, by kernel_rfl, by kernel_rfl, by kernel_rfl, by kernel_rfl⟩ wr.heap.size go no co j hj9 y.v c g n2 cap2 (fun d _ _ _ _ h => by cases d <;> exact h) (by rfl) (by rfl) (by rfl) (by rfl) w2 (hld _ l0) hCv (hld _ (l0.keep ka id)) (ka.cellv hCv id) (hld _ l2) hc2 hf2 (hld _ l3) hap ?_ ?_
        all_goals
          clear hap hc2 hf2 k2 hgk2 hld ho0 hCv l0 ka l2 ks hgo l3 hgk hlt kds kd
          simp only [Act.put, List.setIfInBounds_toArray, List.set_cons_succ, List.set_cons_zero]
          go_wp2
          go_roundg (L - (k + 1))
          case rel =>
            have hset : pl2 (gs.set j ⟨y.key, y.l ++ [c], .slice (some ⟨g, 0, none⟩) n2 cap2⟩) = (pl2 gs).set j (y.key, y.l ++ [c]) := by unfold pl2; rw [List.map_set]
            refine ⟨k + 1, q, c9, _, gs.set j ⟨y.key, y.l ++ [c], .slice (some ⟨g, 0, none⟩) n2 cap2⟩, by omega, rfl, by first | rw [HK1'.out] | rfl | go_num, rfl, HG2.out, ?_, ⟨by have := HQ.out; omega, by have := HQ.out; rw [List.length_set]; omega, fun z hz => ?_⟩, by show _ = _; rw [HPn.out, HSt.out, hset]⟩
            · show Yt _ _ _ _ _
              rw [hset, keyT_set _ _ _ (fun c' hc' => by rw [pl2_get HY.out] at hc'; cases hc'; rfl)]
              exact HM2.out
            · rcases List.mem_or_eq_of_mem_set hz with e | e
              · have := HQ.out.2.2 z e; omega
              · subst e
                have := HQ.out.2.2 y hym
                simp only [List.length_append, List.length_cons, List.length_nil]; omega
          case measure => omega
      | none =>
        have hT : keyT (pl2 gs) ky.data.toList = none := by unfold keyT; rw [hf]; rfl
        have HSt : Hid (stepG (pl2 gs) c = pl2 gs ++ [(ky, [c])]) := by
          show _ = _
          unfold stepG
          rw [← HKY.out, hf]
        have HFN : Hid (keyI (pl2 gs) ky.data.toList = none) := hf
        obtain ⟨qa, ca, hav, _⟩ := own_fl HA.out.o
        subst hav
        obtain ⟨no, hn⟩ : ∃ n, n = gs.length := ⟨_, rfl⟩
        have HNn : Hid (gs.length = no) := hn.symm
        rw [← hn] at HA ⊢
        clear hf hn
        go_wp2_with (first
          | (refine wpList_load_mid rfl 65 _ rfl b1 (o1 + k * 10) rfl xs d HR1.out hd1 hd2 (by rw [szHc, HXL.out.1]) ?_)
          | (refine wpList_store_all rfl 65 _ _ rfl 10 wr.heap.size (hcell hc0) xs rfl rfl (by exact Lv.new wr _ _) szHc rfl HXL.out.1 HO1.out ?_; intro u1 hl1 k1; have HKu : Hid (Kp (fun _ => False) wr u1) := ((Kp.refl (fun _ => False) wr).alloc _).trans k1 (fun b hb e => by omega); have HLu : Hid (Lv u1 wr.heap.size xs) := hl1; have c3 : u1.cell? ⟨wr.heap.size, 3, none⟩ = some (.string ky) := hl1.cell (j := 3) HXL.out.2; have HCx : Hid (wr.heap.size < u1.heap.size) := hl1.lt (by rw [HXL.out.1]; decide); clear hl1 k1)
          | (refine wpList_look_yt rfl _ _ rfl uKy zPl m q c9 (keyT (pl2 gs)) (HM.out.keep HKu.out id) rfl ky HWF.out rfl ?_; rw [hT])
          | (refine wpList_put_yt rfl _ _ _ rfl uKy m q c9 (keyT (pl2 gs)) (HM.out.keep HKu.out id) rfl (by have := HQ.out; have := HK9.out; omega) ky HWF.out rfl (.int .i64 (no : Int)) rfl ?_; intro u2 hm2 k2; have HM2 : Hid (Yt u2 m (q + 1) (c9 + (if (keyT (pl2 gs) ky.data.toList).isSome then 0 else 1)) (updS (keyT (pl2 gs)) ky.data.toList (.int .i64 (no : Int)))) := hm2; have HL2 : Hid (Lv u2 wr.heap.size xs) := HLu.out.keep k2 (fun e => by have := HM.out.lt; omega); have kk2 : Kp (fun b => b = m) wr u2 := (HKu.out.mono (fun _ _ e => e.elim)).trans k2 (fun _ _ e => e); have HG2 := HA.out.keep kk2 (fun b e e2 => HA.out.nm.1 (by rw [← e2]; exact e)) (fun y hy b e e2 => HA.out.nm.2 y hy (by rw [← e2]; exact e)) (fun b hb e => absurd (e ▸ hb) (Nat.not_lt.2 HMm.out)); have HS2 : Hid (wr.heap.size < u2.heap.size) := Nat.lt_of_lt_of_le HCx.out k2.size; clear hm2 k2 kk2)
          | (refine wpList_app_g (v := u2) HG2 HM2.out.lt ky (by have := HQ.out; have := HK9.out; omega) rfl _ _ rfl rfl rfl ?_; intro a2 u3 hg3 k3 hb3; have HB3 : Hid (∀ b, a2.ownBlock = some b → Value.ownBlock (.slice qa no ca) = some b ∨ b = u2.heap.size + 1) := hb3; have HG3 : Hid (Gk w u3 a2 m (gs ++ [⟨ky, [], nilS⟩])) := hg3; have HK3 : Hid (Kp (fun b => Value.ownBlock (.slice qa no ca) = some b) u2 u3) := k3; clear hg3 k3 hb3))
        rcases Joins.ownsRow_forms HG3.out.o with ⟨_, e2⟩ | ⟨go, co, hav⟩
        · rw [List.length_append] at e2; simp at e2
        subst hav
        have hlen : (gs ++ [(⟨ky, [], nilS⟩ : Gp)]).length = no + 1 := by rw [List.length_append, HNn.out]; rfl
        rw [hlen] at HG3 ⊢
        have HY : Hid ((gs ++ [(⟨ky, [], nilS⟩ : Gp)])[no]? = some ⟨ky, [], nilS⟩) := by show _ = _; rw [List.getElem?_append_right (by rw [HNn.out]; exact Nat.le_refl _), HNn.out, Nat.sub_self]; rfl
        have hA := HA.out.lt
        have HL3 : Hid (Lv u3 wr.heap.size xs) := HL2.out.keep HK3.out (fun e => by have := (hA.1 _ e).2; omega)
        have hj9 : (no : Int) < ((no + 1 : Nat) : Int) := by omega
        have kds : Kp (fun _ => False) u3 u3.drew := (Kp.refl _ _).drew
        have hgk := HG3.out.keep0 kds
        have hmlt3 : m < u3.heap.size := by have := HM2.out.lt; have := HK3.out.size; omega
        have hmlt : m < u3.drew.heap.size := hmlt3
        obtain ⟨g, n2, cap2, w2, hap, hc2, hf2, k2, hgk2⟩ := gk_put hgk hlen hmlt ⟨ky, [], nilS⟩ HY.out c HEK.out (by simp)
        have hld : ∀ x, Lv x wr.heap.size xs → (loadVar 65 ⟨wr.heap.size, 0, none⟩).run Try.prog x = .ok (.agg #[.bool c.e.ans, .int .i64 c.e.id, .int .i64 c.e.kind, .string c.e.key, c.e.b.v, .int .i64 c.fr, .int .i64 c.to, .bool c.told, .int .i64 c.says, c.g.v]) x := fun x hx => by
          have := hx.load dsHc szHc HXL.out.1
          rw [HXS.out] at this
          exact this
        have ho0 := hgk.o
        rw [hlen] at ho0
        have hCv := own_cl ho0 (j := no) (u := nilS) (by rw [List.getElem?_map, HY.out]; rfl)
        have l0 := HL3.out.keep kds id
        have ka : Kp (fun _ => False) u3.drew (u3.drew.alloc (.cells #[.bool c.e.ans, .int .i64 c.e.id, .int .i64 c.e.kind, .string c.e.key, c.e.b.v, .int .i64 c.fr, .int .i64 c.to, .bool c.told, .int .i64 c.says, c.g.v] 65)) := (Kp.refl _ _).alloc _
        have l2 := l0.keep k2 (fun e => by cases e)
        have ks : Kp (fun b => b = go) w2 (w2.setCell ⟨go, no, none⟩ (.slice (some ⟨g, 0, none⟩) n2 cap2)) := (Kp.refl (fun b => b = go) w2).setCell (fun _ => rfl) _
        have hgo : go ≠ wr.heap.size := fun e => by
          rcases HB3.out go rfl with e2 | e2
          · have := (hA.1 _ e2).2; omega
          · have := HS2.out; omega
        have l3 := l2.keep ks (fun e => hgo e.symm)
        have HGn : Hid (Gk w (w2.setCell ⟨go, no, none⟩ (.slice (some ⟨g, 0, none⟩) n2 cap2)) (.slice (some ⟨go, 0, none⟩) (no + 1) co) m ((gs ++ [(⟨ky, [], nilS⟩ : Gp)]).set no ⟨ky, [] ++ [c], .slice (some ⟨g, 0, none⟩) n2 cap2⟩)) := hgk2
        have HMn : Hid (Yt (w2.setCell ⟨go, no, none⟩ (.slice (some ⟨g, 0, none⟩) n2 cap2)) m (q + 1) (c9 + (if (keyT (pl2 gs) ky.data.toList).isSome then 0 else 1)) (updS (keyT (pl2 gs)) ky.data.toList (.int .i64 (no : Int)))) := (((HM2.out.keep HK3.out (fun e => HA.out.nm.1 e)).keep kds id).keep k2 (fun e => by cases e)).keep ks (fun e => HG3.out.nm.1 (by rw [e]; rfl))
        refine bk_region ⟨by kernel_rfl, by kernel_rfl, by kernel_rfl, by kernel_rfl, by kernel_rfl, by kernel_rfl, by kernel_rfl, by kernel_rfl, by kernel_rfl, by kernel_rfl, by kernel_rfl, by kernel_rfl, by kernel_rfl, by kernel_rfl, by kernel_rfl, by kernel_rfl, by kernel_rfl, by kernel_rfl, by kernel_rfl, by kernel_rfl, by kernel_rfl, by kernel_rfl, by kernel_rfl, by kernel_rfl, by kernel_rfl⟩ wr.heap.size go (no + 1) co no hj9 nilS c g n2 cap2 (fun d _ _ _ _ h => by cases d <;> exact h) (by rfl) (by rfl) (by rfl) (by rfl) w2 (hld _ l0) hCv (hld _ (l0.keep ka id)) (ka.cellv hCv id) (hld _ l2) hc2 hf2 (hld _ l3) hap ?_ ?_
        all_goals
          clear hap hc2 hf2 k2 hgk2 hld ho0 hCv l0 ka l2 ks hgo l3 hgk kds
          simp only [Act.put, List.setIfInBounds_toArray, List.set_cons_succ, List.set_cons_zero]
          go_wp2
          go_roundg (L - (k + 1))
          case rel =>
            have hset : (gs ++ [(⟨ky, [], nilS⟩ : Gp)]).set no ⟨ky, [] ++ [c], .slice (some ⟨g, 0, none⟩) n2 cap2⟩ = gs ++ [⟨ky, [c], .slice (some ⟨g, 0, none⟩) n2 cap2⟩] := by
              rw [List.set_append_right _ _ (by rw [HNn.out]; exact Nat.le_refl _), HNn.out, Nat.sub_self]; rfl
            have hp2 : pl2 (gs ++ [(⟨ky, [c], .slice (some ⟨g, 0, none⟩) n2 cap2⟩ : Gp)]) = pl2 gs ++ [(ky, [c])] := by unfold pl2; rw [List.map_append]; rfl
            have HGm := HGn.out
            rw [hset] at HGm
            refine ⟨k + 1, q + 1, c9 + (if (keyT (pl2 gs) ky.data.toList).isSome then 0 else 1), _, gs ++ [(⟨ky, [c], .slice (some ⟨g, 0, none⟩) n2 cap2⟩ : Gp)], by omega, rfl, by first | rw [HK1'.out] | rfl | go_num, rfl, HGm, ?_, ⟨by have := HQ.out; omega, by have := HQ.out; rw [List.length_append]; simp; omega, fun z hz => ?_⟩, by show _ = _; rw [HPn.out, HSt.out, hp2]⟩
            · show Yt _ _ _ _ _
              rw [hp2, ← keyT_new _ _ _ HFN.out]
              have hpl : (pl2 gs).length = no := by unfold pl2; rw [List.length_map]; exact HNn.out
              rw [hpl]
              exact HMn.out
            · rcases List.mem_append.1 hz with e | e
              · have := HQ.out.2.2 z e; omega
              · rw [List.mem_singleton] at e; subst e; simp
          case measure => omega
    · go_wp2
      go_ret
      refine ⟨a', rfl, m, gs, HA.out, ?_, by have := HQ.out; omega, fun y hy => by have := HQ.out.2.2 y hy; omega⟩
      rw [HP.out, List.take_of_length_le (by have := HL.out; omega)]
end Go.Proofs.Ytbbgplnenbkfeaa
