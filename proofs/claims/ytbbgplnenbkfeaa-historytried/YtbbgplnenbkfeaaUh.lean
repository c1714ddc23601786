/- The calls of each key (laid by scripts/mkuh.py). -/
import Derived.Test.YtbbgplnenbkfeaaUg
namespace Go.Proofs.Ytbbgplnenbkfeaa
set_option linter.unusedVariables false
set_option linter.unusedSimpArgs false
open Go.RowKit Go.Deep Go.Maps

theorem Rd.keep2 {S : Nat → Prop} {w0 v v' : World} {a : Value} {cs : List Hc} (h : Rd w0 v a cs) (k : Kp S v v') (hS : ∀ b, a.ownBlock = some b → ¬ S b) (h0 : ∀ b, b < w0.heap.size → ¬ S b) : Rd w0 v' a cs :=
  ⟨ownsRow_keep h.o k hS, h.k.trans k (fun b hb e => h0 b hb e), h.c⟩
/-- a key's calls, as a slice -/
structure Gp where
  (key : ByteArray) (l : List Hc) (v : Value)
/-- groups in memory; m is a block apart -/
structure Gk (w0 v : World) (a : Value) (m : Nat) (gs : List Gp) : Prop where
  o : v.ownsRow w0.heap.size 41 1 a gs.length (gs.map (·.v))
  k : Kp (fun _ => False) w0 v
  r : ∀ y ∈ gs, Rd w0 v y.v y.l
  ne : ∀ (i j : Nat) (yi yj : Gp), gs[i]? = some yi → gs[j]? = some yj → i ≠ j → ∀ b, yi.v.ownBlock = some b → yj.v.ownBlock ≠ some b
  na : ∀ y ∈ gs, ∀ b, y.v.ownBlock = some b → a.ownBlock ≠ some b
  nm : a.ownBlock ≠ some m ∧ ∀ y ∈ gs, y.v.ownBlock ≠ some m
theorem Gk.keep {S : Nat → Prop} {w0 v v' : World} {a : Value} {m : Nat} {gs : List Gp} (h : Gk w0 v a m gs) (k : Kp S v v') (hS : ∀ b, a.ownBlock = some b → ¬ S b) (hS2 : ∀ y ∈ gs, ∀ b, y.v.ownBlock = some b → ¬ S b) (h0 : ∀ b, b < w0.heap.size → ¬ S b) : Gk w0 v' a m gs :=
  ⟨ownsRow_keep h.o k hS, h.k.trans k (fun b hb e => h0 b hb e), fun y hy => (h.r y hy).keep2 k (hS2 y hy) h0, h.ne, h.na, h.nm⟩
theorem Gk.keep0 {w0 v v' : World} {a : Value} {m : Nat} {gs : List Gp} (h : Gk w0 v a m gs) (k : Kp (fun _ => False) v v') : Gk w0 v' a m gs := h.keep k (fun _ _ => id) (fun _ _ _ _ => id) (fun _ _ => id)
theorem Gk.lt {w0 v : World} {a : Value} {m : Nat} {gs : List Gp} (h : Gk w0 v a m gs) : (∀ b, a.ownBlock = some b → w0.heap.size ≤ b ∧ b < v.heap.size) ∧ ∀ y ∈ gs, ∀ b, y.v.ownBlock = some b → w0.heap.size ≤ b ∧ b < v.heap.size :=
  ⟨fun b e => ownBlock_lt h.o e, fun y hy b e => ownBlock_lt (h.r y hy).o e⟩
theorem infoSl : (Try.prog.info? 41).map (fun i => (i.zero, i.size, i.bytes)) = some (some (.slice none 0 0), 1, 24) := by kernel_rfl
abbrev nilS : Value := .slice none 0 0
set_option maxRecDepth 100000 in
theorem wpList_app_g {ops : Array Oper} {rest : List Oper} {op : Oper} {a : Act} {Q : Exit → Act → World → Prop} {w0 v : World} {a' : Value} {m : Nat} {gs : List Gp} (h : Gk w0 v a' m gs) (hm : m < v.heap.size) (key : ByteArray) (hz : gs.length ≤ 1000)
    (hgd : op.guard = none) (o1 o2 : Operand) (ho : op.op = .call { callee := .builtin .append, args := #[o1, o2], argTypes := #[47, 47] }) (h1 : a.eval o1 = a') (h2 : a.eval o2 = .slice (some ⟨v.heap.size, 0, none⟩) 1 1)
    (hK : ∀ a2 w3, Gk w0 w3 a2 m (gs ++ [⟨key, [], nilS⟩]) → Kp (fun b => a'.ownBlock = some b) v w3 → (∀ b, a2.ownBlock = some b → a'.ownBlock = some b ∨ b = v.heap.size + 1) → wpList Try.prog ops Q rest (a.put op.dst a2) w3) :
    wpList Try.prog ops Q (op :: rest) a (v.alloc (.cells #[nilS] 41)) := by
  obtain ⟨ti, hi0, hz0, hz1, hz2⟩ := info_parts infoSl
  have ka : Kp (fun _ => False) v (v.alloc (.cells #[nilS] 41)) := (Kp.refl _ _).alloc _
  have hr := h.keep0 ka
  have hlv := Lv.new v #[nilS] 41
  have hs0 := h.k.size
  have z1 : (v.alloc (.cells #[nilS] 41)).heap.size = v.heap.size + 1 := by simp
  refine wpList_append_own_src _ hgd o1 o2 47 47 ho w0.heap.size 41 ti nilS 1 24 Try.underlying47 hi0 hz0 hz1 hz2 rfl (by decide) a' gs.length (gs.map (·.v)) h1 hr.o _ 1 [nilS] h2 (Src.ofSlice _ Try.underlying47 ⟨v.heap.size, 0, none⟩ 1 1 [nilS] rfl (fun j u hj => by rw [Addr.add_mid, Nat.zero_add]; exact hlv.cell hj) (fun u hu => by simp at hu; subst hu; rfl)) (by unfold maxLen; omega) (by omega) (by omega) ?_
  intro a2 w3 hown hk hblk
  have k3 := grownBy_kp hk
  have hlt := h.lt
  have ha2 : ∀ b, a2.ownBlock = some b → a'.ownBlock = some b ∨ b = v.heap.size + 1 := fun b hb => by
    rcases hblk with e2 | e2
    · exact Or.inl (by rw [← e2]; exact hb)
    · rw [e2] at hb; right; rw [← Option.some.inj hb]; exact z1
  have kk : Kp (fun b => a'.ownBlock = some b) v w3 := (ka.mono (fun _ _ e => e.elim)).trans k3 (fun _ _ e => e)
  refine hK a2 w3 ⟨?_, hr.k.app hr.o k3, fun y hy => ?_, fun i j yi yj hi hj hij b hb => ?_, fun y hy b hb => ?_, ⟨fun e => ?_, fun y hy => ?_⟩⟩ kk ha2
  · rw [List.length_append, List.map_append]
    exact hown
  · rcases List.mem_append.1 hy with e | e
    · exact (h.r y e).keep2 kk (fun b hb => h.na y e b hb) (fun b hb e => by have := (hlt.1 b e).1; omega)
    · rw [List.mem_singleton] at e; subst e
      exact ⟨World.ownsRow_nil _ _ _ _, hr.k.app hr.o k3, fun y hy => (by cases hy)⟩
  · have hi' : i < gs.length := by
      rcases Nat.lt_or_ge i gs.length with e | e
      · exact e
      · rw [List.getElem?_append_right e] at hi
        have : yi = ⟨key, [], nilS⟩ := by
          obtain ⟨h9, h8⟩ := List.getElem?_eq_some_iff.1 hi
          have h7 : i - gs.length = 0 := by simp at h9; omega
          simp [h7] at h8
          exact h8.symm
        rw [this] at hb; cases hb
    rw [List.getElem?_append_left hi'] at hi
    rcases Nat.lt_or_ge j gs.length with e | e
    · rw [List.getElem?_append_left e] at hj
      exact h.ne i j yi yj hi hj hij b hb
    · rw [List.getElem?_append_right e] at hj
      have : yj = ⟨key, [], nilS⟩ := by
        obtain ⟨h9, h8⟩ := List.getElem?_eq_some_iff.1 hj
        have h7 : j - gs.length = 0 := by simp at h9; omega
        simp [h7] at h8
        exact h8.symm
      rw [this]; intro e2; cases e2
  · rcases List.mem_append.1 hy with e | e
    · intro e2
      rcases ha2 b e2 with e3 | e3
      · exact h.na y e b hb e3
      · have := (hlt.2 y e b hb).2; omega
    · rw [List.mem_singleton] at e; subst e; cases hb
  · rcases ha2 m e with e3 | e3
    · exact h.nm.1 e3
    · omega
  · rcases List.mem_append.1 hy with e | e
    · exact h.nm.2 y e
    · rw [List.mem_singleton] at e; subst e; intro e2; cases e2
set_option maxRecDepth 100000 in
theorem gk_put {w0 v : World} {go no co m j : Nat} {gs : List Gp} (h : Gk w0 v (.slice (some ⟨go, 0, none⟩) no co) m gs) (hno : gs.length = no) (hm : m < v.heap.size) (y : Gp) (hj : gs[j]? = some y) (c : Hc) (hc : c.ok w0) (hl : y.l.length ≤ 1000) :
    ∃ g n2 cap2 w2, (Builtin.append_ #[41, 41] 41 #[y.v, .slice (some ⟨v.heap.size, 0, none⟩) 1 1]).run Try.prog (v.alloc (.cells #[.bool c.e.ans, .int .i64 c.e.id, .int .i64 c.e.kind, .string c.e.key, c.e.b.v, .int .i64 c.fr, .int .i64 c.to, .bool c.told, .int .i64 c.says, c.g.v] 65)) = .ok (.slice (some ⟨g, 0, none⟩) n2 cap2) w2 ∧ w2.cell? ⟨go, j, none⟩ = some y.v ∧ w2.frozen? ⟨go, j, none⟩ = false ∧ Kp (fun b => y.v.ownBlock = some b) v w2 ∧ Gk w0 (w2.setCell ⟨go, j, none⟩ (.slice (some ⟨g, 0, none⟩) n2 cap2)) (.slice (some ⟨go, 0, none⟩) no co) m (gs.set j ⟨y.key, y.l ++ [c], .slice (some ⟨g, 0, none⟩) n2 cap2⟩) := by
  obtain ⟨ti, tz, hi1, hi2, hi3, hi4, hi5⟩ := infoHc
  have hym := List.mem_of_getElem? hj
  have hjl : j < gs.length := (List.getElem?_eq_some_iff.1 hj).1
  obtain ⟨v1, hv1⟩ : ∃ x, x = v.alloc (.cells #[.bool c.e.ans, .int .i64 c.e.id, .int .i64 c.e.kind, .string c.e.key, c.e.b.v, .int .i64 c.fr, .int .i64 c.to, .bool c.told, .int .i64 c.says, c.g.v] 65) := ⟨_, rfl⟩
  have ka : Kp (fun _ => False) v v1 := by rw [hv1]; exact (Kp.refl _ _).alloc _
  have hlv : Lv v1 v.heap.size (hcell c) := by rw [hv1]; exact Lv.new v _ _
  have z1 : v1.heap.size = v.heap.size + 1 := by rw [hv1]; simp
  rw [← hv1]
  have hR := (h.r y hym).keep ka
  have hs0 := h.k.size
  obtain ⟨v3, w2, hap, ow, gr, bl⟩ := run_append_own_src (P := Try.prog) v1 w0.heap.size 41 41 41 65 ti tz 10 120 Try.underlying41 hi1 hi2 hi3 hi4 hi5 (by decide) y.v y.l.length (hflat y.l) hR.o (.slice (some ⟨v.heap.size, 0, none⟩) 1 1) 1 (hcell c) (Src.ofSlice _ Try.underlying41 ⟨v.heap.size, 0, none⟩ 1 1 (hcell c) rfl (fun j u hj => by rw [Addr.add_mid, Nat.zero_add]; exact hlv.cell hj) hc.one) (by unfold maxLen; omega) (by omega) (by omega)
  have hv' : ∃ g cap, v3 = .slice (some ⟨g, 0, none⟩) (y.l.length + 1) cap := by
    rcases Joins.ownsRow_forms ow with ⟨e1, e2⟩ | ⟨g, cap, e⟩
    · omega
    · exact ⟨g, cap, e⟩
  obtain ⟨g, cap, rfl⟩ := hv'
  have k3 := grownBy_kp gr
  have kk : Kp (fun b => y.v.ownBlock = some b) v w2 := (ka.mono (fun _ _ e => e.elim)).trans k3 (fun _ _ e => e)
  have hbg : y.v.ownBlock = some g ∨ g = v.heap.size + 1 := by
    rcases bl with e | e
    · exact Or.inl e.symm
    · exact Or.inr (by rw [← z1]; exact Option.some.inj (show some g = some v1.heap.size from e))
  have hlt := h.lt
  have hgo := hlt.1 go rfl
  have hgg : go ≠ g := by
    rcases hbg with e | e
    · intro e2; exact h.na y hym g e (by rw [e2]; rfl)
    · omega
  have hS : ∀ b, Value.ownBlock (.slice (some ⟨go, 0, none⟩) no co) = some b → ¬ (y.v.ownBlock = some b) := fun b e e2 => h.na y hym b e2 e
  have o2 := ownsRow_keep h.o kk hS
  rw [hno] at o2
  have hget : (gs.map (·.v))[j]? = some y.v := by rw [List.getElem?_map, hj]; rfl
  have c2 := own_cl o2 hget
  have o3 := own_put o2 j (.slice (some ⟨g, 0, none⟩) (y.l.length + 1) cap) (by simpa using hjl)
  have ks : Kp (fun b => b = go) w2 (w2.setCell ⟨go, j, none⟩ (.slice (some ⟨g, 0, none⟩) (y.l.length + 1) cap)) := (Kp.refl (fun b => b = go) w2).setCell (fun _ => rfl) _
  have kall : Kp (fun b => b = go ∨ y.v.ownBlock = some b) v (w2.setCell ⟨go, j, none⟩ (.slice (some ⟨g, 0, none⟩) (y.l.length + 1) cap)) := (kk.mono (fun _ _ e => Or.inr e)).trans ks (fun _ _ e => Or.inl e)
  have hlow : ∀ b, b < w0.heap.size → ¬ (b = go ∨ y.v.ownBlock = some b) := fun b hb e => by
    rcases e with e | e
    · omega
    · have := (hlt.2 y hym b e).1; omega
  have k0 : Kp (fun _ => False) w0 (w2.setCell ⟨go, j, none⟩ (.slice (some ⟨g, 0, none⟩) (y.l.length + 1) cap)) := h.k.trans kall (fun b hb e => hlow b hb e)
  have hset : ∀ (i : Nat) (z : Gp), (gs.set j ⟨y.key, y.l ++ [c], .slice (some ⟨g, 0, none⟩) (y.l.length + 1) cap⟩)[i]? = some z → (i = j ∧ z = ⟨y.key, y.l ++ [c], .slice (some ⟨g, 0, none⟩) (y.l.length + 1) cap⟩) ∨ (i ≠ j ∧ gs[i]? = some z) := fun i z hz => by
    by_cases e : i = j
    · subst e
      rw [List.getElem?_set_self (by simpa using hjl)] at hz
      exact Or.inl ⟨rfl, (Option.some.inj hz).symm⟩
    · rw [List.getElem?_set_ne (fun e2 => e e2.symm)] at hz
      exact Or.inr ⟨e, hz⟩
  have hmem : ∀ z ∈ gs.set j ⟨y.key, y.l ++ [c], .slice (some ⟨g, 0, none⟩) (y.l.length + 1) cap⟩, z = ⟨y.key, y.l ++ [c], .slice (some ⟨g, 0, none⟩) (y.l.length + 1) cap⟩ ∨ ∃ i, i ≠ j ∧ gs[i]? = some z := fun z hz => by
    obtain ⟨i, hi⟩ := List.getElem?_of_mem hz
    rcases hset i z hi with ⟨_, e⟩ | ⟨e1, e2⟩
    · exact Or.inl e
    · exact Or.inr ⟨i, e1, e2⟩
  refine ⟨g, y.l.length + 1, cap, w2, hap, c2, own_fz o2 j, kk, ⟨?_, k0, fun z hz => ?_, fun i i' yi yj hi hi' hij b hb => ?_, fun z hz b hb => ?_, ⟨h.nm.1, fun z hz => ?_⟩⟩⟩
  · rw [List.length_set, List.map_set, hno]
    exact o3
  · rcases hmem z hz with rfl | ⟨i, hi, hzi⟩
    · refine ⟨?_, k0, fun d hd => ?_⟩
      · have := ownsRow_keep ow ks (fun b e e2 => hgg (by rw [← e2]; exact Option.some.inj (show some b = some g from e.symm)))
        rw [List.length_append, hflat_append, hflat_one]
        exact this
      · rcases List.mem_append.1 hd with e | e
        · exact (h.r y hym).c d e
        · rw [List.mem_singleton] at e; subst e; exact hc
    · refine (h.r z (List.mem_of_getElem? hzi)).keep2 kall (fun b hb e => ?_) hlow
      rcases e with e | e
      · exact h.na z (List.mem_of_getElem? hzi) b hb (by rw [e]; rfl)
      · exact h.ne i j z y hzi hj hi b hb e
  · rcases hset i yi hi with ⟨e1, rfl⟩ | ⟨e1, e2⟩
    · rcases hset i' yj hi' with ⟨e3, rfl⟩ | ⟨e3, e4⟩
      · omega
      · have hbb : b = g := (Option.some.inj (show some g = some b from hb)).symm
        intro e5
        rcases hbg with e6 | e6
        · exact h.ne i' j yj y e4 hj e3 b e5 (by rw [hbb]; exact e6)
        · have := (hlt.2 yj (List.mem_of_getElem? e4) b e5).2; omega
    · rcases hset i' yj hi' with ⟨e3, rfl⟩ | ⟨e3, e4⟩
      · intro e5
        have hbb : b = g := (Option.some.inj (show some g = some b from e5)).symm
        rcases hbg with e6 | e6
        · exact h.ne i j yi y e2 hj e1 b hb (by rw [hbb]; exact e6)
        · have := (hlt.2 yi (List.mem_of_getElem? e2) b hb).2; omega
      · exact h.ne i i' yi yj e2 e4 hij b hb
  · rcases hmem z hz with rfl | ⟨i, hi, hzi⟩
    · intro e5
      have hbb : b = g := (Option.some.inj (show some g = some b from hb)).symm
      exact hgg (by rw [← hbb]; exact Option.some.inj (show some go = some b from e5))
    · exact h.na z (List.mem_of_getElem? hzi) b hb
  · rcases hmem z hz with rfl | ⟨i, hi, hzi⟩
    · intro e5
      have hbb : m = g := (Option.some.inj (show some g = some m from e5)).symm
      rcases hbg with e6 | e6
      · exact h.nm.2 y hym (by rw [hbb]; exact e6)
      · omega
    · exact h.nm.2 z (List.mem_of_getElem? hzi)
end Go.Proofs.Ytbbgplnenbkfeaa
