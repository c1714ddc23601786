/- Texts of this proof, joined: Or, Ou. -/
import Derived.Test.YtoepemgflbmlcaaDoorMgAB
import Derived.Test.YtoepemgflbmlcaaDoorMgAW
import Derived.Test.YtoepemgflbmlcaaDoorMgAJ
/- Messages as bytes, plain. -/
namespace Go.Proofs.YtoepemgflbmlcaaDoor
set_option linter.unusedVariables false

structure Vp where
  (slot ballot : Nat) (c : Cp)
structure Mp where
  (kind src dst ballot slot blob index epoch id : Nat) (ok : Bool) (c : Cp) (votes : List Vp) (bytes : List Nat)
def voteB (v : Vp) : List Nat := numsB [v.slot, v.ballot] ++ cmdB v.c
def votesB (l : List Vp) : List Nat := l.flatMap voteB
def truthB (b : Bool) : List Nat := [if b then 1 else 0]
def msgB (m : Mp) : List Nat := numsB [m.kind, m.src, m.dst, m.ballot, m.slot, m.blob, m.index, m.epoch, m.id] ++ (truthB m.ok ++ (cmdB m.c ++ (numB m.votes.length ++ (votesB m.votes ++ (numB m.bytes.length ++ m.bytes)))))
def rdTruth : List Nat → Option (Bool × List Nat)
  | [] => none
  | x :: t => if x ≤ 1 then some (x == 1, t) else none
def rdVote (xs : List Nat) : Option (Vp × List Nat) := (rdNums mx 2 xs).bind fun p => (rdCmd p.2).bind fun q => some (⟨p.1.getD 0 0, p.1.getD 1 0, q.1⟩, q.2)
def rdVotes : Nat → List Nat → Option (List Vp × List Nat)
  | 0, xs => some ([], xs)
  | k + 1, xs => (rdVote xs).bind fun p => (rdVotes k p.2).bind fun q => some (p.1 :: q.1, q.2)
def rdMsg (xs : List Nat) : Option (Mp × List Nat) :=
  (rdNums mx 9 xs).bind fun p => (rdTruth p.2).bind fun b => (rdCmd b.2).bind fun c => (rdNum 1000 c.2).bind fun n => (rdVotes n.1 n.2).bind fun v => (rdText 2000 v.2).bind fun y =>
    some (⟨p.1.getD 0 0, p.1.getD 1 0, p.1.getD 2 0, p.1.getD 3 0, p.1.getD 4 0, p.1.getD 5 0, p.1.getD 6 0, p.1.getD 7 0, p.1.getD 8 0, b.1, c.1, v.1, y.1⟩, y.2)
structure Vp.fit (v : Vp) : Prop where
  s : v.slot ≤ mx
  b : v.ballot ≤ mx
  c : v.c.fit
structure Mp.fit (m : Mp) : Prop where
  n : ∀ x ∈ [m.kind, m.src, m.dst, m.ballot, m.slot, m.blob, m.index, m.epoch, m.id], x ≤ mx
  c : m.c.fit
  l : m.votes.length ≤ 1000
  v : ∀ v ∈ m.votes, v.fit
  y : m.bytes.length ≤ 2000
theorem rdTruth_num (b : Bool) (t : List Nat) : rdTruth (truthB b ++ t) = some (b, t) := by
  cases b <;> rfl
theorem rdTruth_back {xs t : List Nat} {b : Bool} (hb : ∀ x ∈ xs, x < 256) (h : rdTruth xs = some (b, t)) : xs = truthB b ++ t ∧ ∀ x ∈ t, x < 256 := by
  cases xs with
  | nil => cases h
  | cons x l =>
    replace h : (if x ≤ 1 then some (x == 1, l) else none) = some (b, t) := h
    by_cases hx : x ≤ 1
    · rw [if_pos hx] at h
      injection h with h
      injection h with h1 h2
      subst h1 h2
      refine ⟨?_, fun y hy => hb y (List.mem_cons_of_mem _ hy)⟩
      rcases (show x = 0 ∨ x = 1 by omega) with e | e <;> subst e <;> rfl
    · rw [if_neg hx] at h
      cases h
theorem rdVote_num {v : Vp} (h : v.fit) (t : List Nat) : rdVote (voteB v ++ t) = some (v, t) := by
  unfold rdVote voteB
  rw [List.append_assoc, show (2 : Nat) = [v.slot, v.ballot].length from rfl, rdNums_num (by decide) _ _ (fun x hx => by simp only [List.mem_cons, List.not_mem_nil, or_false] at hx; rcases hx with rfl | rfl; exact h.s; exact h.b)]
  dsimp only [Option.bind_some]
  rw [rdCmd_num h.c]
  rfl
theorem rdVote_back {xs t : List Nat} {v : Vp} (hb : ∀ x ∈ xs, x < 256) (h : rdVote xs = some (v, t)) : xs = voteB v ++ t ∧ v.fit ∧ ∀ x ∈ t, x < 256 := by
  unfold rdVote at h
  obtain ⟨⟨l1, t1⟩, h1, h⟩ := Option.bind_eq_some_iff.1 h
  obtain ⟨⟨c2, t2⟩, h2, h⟩ := Option.bind_eq_some_iff.1 h
  dsimp only at h1 h2 h
  obtain ⟨a1, a2, a3, a4⟩ := rdNums_back 2 _ _ _ hb h1
  obtain ⟨b1, b2, b3⟩ := rdCmd_back a4 h2
  injection h with h
  injection h with hc ht
  subst hc ht
  have q := list2 a2
  have m1 : ∀ y ∈ l1, y ≤ mx := fun y hy => (a3 y hy).1
  rw [q] at m1
  simp only [List.mem_cons, List.not_mem_nil, or_false, forall_eq_or_imp, forall_eq] at m1
  refine ⟨?_, ⟨m1.1, m1.2, b2⟩, b3⟩
  unfold voteB
  dsimp only
  rw [← q, List.append_assoc, ← b1, ← a1]
theorem rdVotes_num : ∀ (l : List Vp) (t : List Nat), (∀ v ∈ l, v.fit) → rdVotes l.length (votesB l ++ t) = some (l, t)
  | [], t, _ => rfl
  | v :: l, t, h => by
    show (rdVote ((voteB v ++ votesB l) ++ t)).bind _ = _
    rw [List.append_assoc, rdVote_num (h v (List.mem_cons_self ..))]
    show (rdVotes l.length (votesB l ++ t)).bind _ = _
    rw [rdVotes_num l t (fun y hy => h y (List.mem_cons_of_mem _ hy))]
    rfl
theorem rdVotes_back : ∀ (k : Nat) (xs : List Nat) (l : List Vp) (t : List Nat), (∀ x ∈ xs, x < 256) → rdVotes k xs = some (l, t) → xs = votesB l ++ t ∧ l.length = k ∧ (∀ v ∈ l, v.fit) ∧ ∀ x ∈ t, x < 256
  | 0, xs, l, t, hb, h => by
    injection h with h
    injection h with h1 h2
    subst h1 h2
    exact ⟨rfl, rfl, fun v hv => (by cases hv), hb⟩
  | k + 1, xs, l, t, hb, h => by
    unfold rdVotes at h
    obtain ⟨⟨v, t1⟩, h1, h⟩ := Option.bind_eq_some_iff.1 h
    obtain ⟨⟨m, t2⟩, h2, h⟩ := Option.bind_eq_some_iff.1 h
    dsimp only at h2 h
    injection h with h
    injection h with e1 e2
    subst e1 e2
    obtain ⟨a1, a2, a3⟩ := rdVote_back hb h1
    obtain ⟨b1, b2, b3, b4⟩ := rdVotes_back k t1 m t2 a3 h2
    refine ⟨?_, by simp [b2], fun y hy => ?_, b4⟩
    · rw [a1, b1]
      show _ = (voteB v ++ votesB m) ++ t2
      rw [List.append_assoc]
    · rcases List.mem_cons.1 hy with e | e
      · rw [e]; exact a2
      · exact b3 y e
theorem list9 {l : List Nat} (h : l.length = 9) : l = [l.getD 0 0, l.getD 1 0, l.getD 2 0, l.getD 3 0, l.getD 4 0, l.getD 5 0, l.getD 6 0, l.getD 7 0, l.getD 8 0] := by
  match l, h with
  | [a, b, c, d, e, f, g, i, j], _ => rfl
theorem rdMsg_num {m : Mp} (h : m.fit) (t : List Nat) : rdMsg (msgB m ++ t) = some (m, t) := by
  unfold rdMsg msgB
  simp only [List.append_assoc]
  rw [show (9 : Nat) = [m.kind, m.src, m.dst, m.ballot, m.slot, m.blob, m.index, m.epoch, m.id].length from rfl, rdNums_num (by decide) _ _ h.n]
  dsimp only [Option.bind_some]
  rw [rdTruth_num]
  dsimp only [Option.bind_some]
  rw [rdCmd_num h.c]
  dsimp only [Option.bind_some]
  rw [rdNum_num h.l (by have := h.l; omega)]
  dsimp only [Option.bind_some]
  rw [rdVotes_num _ _ h.v]
  dsimp only [Option.bind_some]
  rw [rdText_num (by decide) h.y]
  rfl
theorem rdMsg_back {m : Mp} {xs t : List Nat} (hb : ∀ x ∈ xs, x < 256) (h : rdMsg xs = some (m, t)) : xs = msgB m ++ t ∧ m.fit ∧ (∀ x ∈ m.bytes, x < 256) ∧ ∀ x ∈ t, x < 256 := by
  unfold rdMsg at h
  obtain ⟨⟨l1, t1⟩, h1, h⟩ := Option.bind_eq_some_iff.1 h
  obtain ⟨⟨b2, t2⟩, h2, h⟩ := Option.bind_eq_some_iff.1 h
  obtain ⟨⟨c3, t3⟩, h3, h⟩ := Option.bind_eq_some_iff.1 h
  obtain ⟨⟨n4, t4⟩, h4, h⟩ := Option.bind_eq_some_iff.1 h
  obtain ⟨⟨v5, t5⟩, h5, h⟩ := Option.bind_eq_some_iff.1 h
  obtain ⟨⟨y6, t6⟩, h6, h⟩ := Option.bind_eq_some_iff.1 h
  dsimp only at h1 h2 h3 h4 h5 h6 h
  obtain ⟨a1, a2, a3, a4⟩ := rdNums_back 9 _ _ _ hb h1
  obtain ⟨bb1, bb2⟩ := rdTruth_back a4 h2
  obtain ⟨c1, c2, c4⟩ := rdCmd_back bb2 h3
  obtain ⟨d1, d2, d3, d4⟩ := rdNum_back c4 h4
  obtain ⟨e1, e2, e3, e4⟩ := rdVotes_back n4 _ _ _ d4 h5
  obtain ⟨f1, f2, f3, f4⟩ := rdText_back e4 h6
  injection h with h
  injection h with hc ht
  subst ht
  have q1 := list9 a2
  subst hc
  refine ⟨?_, ⟨?_, c2, (by show v5.length ≤ 1000; omega), e3, f2⟩, f3, f4⟩
  · unfold msgB
    dsimp only
    simp only [List.append_assoc]
    rw [← q1, e2, ← f1, ← e1, ← d1, ← c1, ← bb1, ← a1]
  · intro x hx
    have m1 : ∀ y ∈ l1, y ≤ mx := fun y hy => (a3 y hy).1
    rw [q1] at m1
    exact m1 x hx
end Go.Proofs.YtoepemgflbmlcaaDoor

/- frame.appendTruth, appendMsg, Msg (laid by scripts/mkou.py). -/
namespace Go.Proofs.YtoepemgflbmlcaaDoor
set_option linter.unusedVariables false
set_option linter.unusedSimpArgs false
open Go.RowKit Go.Deep

theorem Ap.grow {u w w' : World} {base : Nat} {v v' : Value} {xs : List Nat} (h : Ap u w base v v' xs) (k : Kp (fun _ => False) w w') : Ap u w' base v v' xs := ⟨ownsRow_keep h.o k (fun _ _ e => e), h.k.trans k (fun _ _ e => e.elim), h.b⟩

set_option maxRecDepth 100000 in
set_option maxHeartbeats 1600000 in
theorem appT_ok (base : Nat) (v : Value) (xs : List Nat) (t : Bool) (w : World) (ho : Ow w base v xs) (hb : base ≤ w.heap.size) (hl : xs.length ≤ 1000000000) :
    Calls Tryd.prog 60 #[v, .bool t] w fun e w' => ∃ v', e = .returned v' ∧ Ap w w' base v v' (xs ++ truthB t) := by
  have HO : Hid (∀ z : Int, Ow (w.alloc (.cells #[.int .u8 z] 5)) base v xs) := fun z => ho.alloc _
  have HV : Hid (∀ b, v.ownBlock = some b → b < w.heap.size) := fun b e => (ownBlock_lt ho e).2
  have HR : Hid (∀ x : Nat, x < 256 → Rb (w.alloc (.cells #[.int .u8 (x : Int)] 5)) (some ⟨w.heap.size, 0, none⟩) 1 [x]) := fun x hx => by
    have hl := Lv.new w #[.int .u8 (x : Int)] 5
    exact ⟨rfl, fun y hy => by rw [List.mem_singleton] at hy; omega, fun j hj => ⟨w.heap.size, 0, rfl, by
      have : j = 0 := by omega
      subst this
      exact hl.cell (j := 0) rfl⟩⟩
  have HB : Hid (base ≤ w.heap.size ∧ xs.length ≤ 1000000000) := ⟨hb, hl⟩
  have HK : Hid (∀ z : Int, Kp (fun b => v.ownBlock = some b) w (w.alloc (.cells #[.int .u8 z] 5))) := fun z => (Kp.refl _ _).alloc _
  clear ho hb hl
  go_enter Tryd.func60, Tryd.ntmps60
  cases t with
  | true =>
    go_wp2_with (at_builtin; refine wpList_append_bytes _ rfl _ _ rfl base v xs rfl (HO.out 1) (some ⟨w.heap.size, 0, none⟩) 1 1 [1] rfl (HR.out 1 (by decide)) (by have := HB.out; omega) (by have := HB.out; simp; omega) ?_; intro v2 w2 o2 k2 b2)
    have k2' : Kp (fun b => v.ownBlock = some b) w w2 := (HK.out 1).trans k2 (fun _ _ e => e)
    go_ret
    refine ⟨v2, rfl, ⟨o2, k2', fun b e => ?_⟩⟩
    rcases b2 with q | q
    · exact Or.inl (q ▸ e)
    · rw [q] at e
      injection e with e
      exact Or.inr (by simp at e; omega)
  | false =>
    go_wp2_with (at_builtin; refine wpList_append_bytes _ rfl _ _ rfl base v xs rfl (HO.out 0) (some ⟨w.heap.size, 0, none⟩) 1 1 [0] rfl (HR.out 0 (by decide)) (by have := HB.out; omega) (by have := HB.out; simp; omega) ?_; intro v2 w2 o2 k2 b2)
    have k2' : Kp (fun b => v.ownBlock = some b) w w2 := (HK.out 0).trans k2 (fun _ _ e => e)
    go_ret
    refine ⟨v2, rfl, ⟨o2, k2', fun b e => ?_⟩⟩
    rcases b2 with q | q
    · exact Or.inl (q ▸ e)
    · rw [q] at e
      injection e with e
      exact Or.inr (by simp at e; omega)
/-- votes and messages, plain -/
def vpOf (v : Vo) : Vp := ⟨v.slot.toNat, v.ballot.toNat, cpOf v.c v.nodes⟩
def mpOf (μ : Ms) : Mp := ⟨μ.s.kind.toNat, μ.s.src.toNat, μ.s.dst.toNat, μ.s.ballot.toNat, μ.s.slot.toNat, μ.s.blob.toNat, μ.s.index.toNat, μ.s.epoch.toNat, μ.s.id.toNat, μ.s.ok, cpOf μ.s.c μ.nodes, μ.votes.map vpOf, μ.bytes⟩
theorem cmdB_len {c : Cs0} {zs : List Int} (h : mayC c zs = true) (hs : 0 ≤ c.sum ∧ c.sum < 4294967296) : (cmdB (cpOf c zs)).length ≤ 2420 := by
  have hF := mayC_full h
  have hn := hF.n
  simp only [List.mem_cons, List.not_mem_nil, or_false, forall_eq_or_imp, forall_eq] at hn
  have hk := hF.key
  have hl := hF.len
  unfold cmdB
  rw [List.length_append, List.length_append, List.length_append]
  have h1 := numsB_len [(cpOf c zs).id, (cpOf c zs).kind, (cpOf c zs).blob, (cpOf c zs).other, (cpOf c zs).index, (cpOf c zs).node, (cpOf c zs).size, (cpOf c zs).sum, (cpOf c zs).k, (cpOf c zs).m, (cpOf c zs).key.length] (fun x hx => by
    simp only [cpOf, List.mem_cons, List.not_mem_nil, or_false] at hx
    rw [keyB_len] at hx
    omega)
  have h2 : (cpOf c zs).key.length ≤ 8 := by show (keyB c.key).length ≤ 8; rw [keyB_len]; exact hk
  have h3 : (numB (cpOf c zs).nodes.length).length ≤ 9 := numB_len (by show (zs.map Int.toNat).length < _; rw [List.length_map]; omega)
  have h4 := numsB_len (cpOf c zs).nodes (fun x hx => by
    obtain ⟨z, hz, rfl⟩ := List.mem_map.1 (show x ∈ zs.map Int.toNat from hx)
    have := hF.z z hz
    omega)
  have h5 : (cpOf c zs).nodes.length = zs.length := by show (zs.map Int.toNat).length = _; rw [List.length_map]
  simp only [List.length_cons, List.length_nil] at h1
  omega
theorem mayVo_parts {v : Vo} (h : mayVo v = true) : (0 ≤ v.slot ∧ v.slot ≤ 1152921504606846976) ∧ (0 ≤ v.ballot ∧ v.ballot ≤ 1152921504606846976) ∧ mayC v.c v.nodes = true := by
  unfold mayVo at h
  rw [Bool.and_eq_true] at h
  have := upTo_mem h.1
  simp only [List.mem_cons, List.not_mem_nil, or_false, forall_eq_or_imp, forall_eq] at this
  exact ⟨this.1, this.2, h.2⟩
theorem voteB_len {v : Vo} (h : mayVo v = true) (hg : goodC v.c) : (voteB (vpOf v)).length ≤ 2438 := by
  obtain ⟨h1, h2, h3⟩ := mayVo_parts h
  have h4 := cmdB_len h3 ⟨hg.1, hg.2.1⟩
  unfold voteB
  rw [List.length_append]
  have h5 := numsB_len [(vpOf v).slot, (vpOf v).ballot] (fun x hx => by
    simp only [vpOf, List.mem_cons, List.not_mem_nil, or_false] at hx
    omega)
  simp only [List.length_cons, List.length_nil] at h5
  show (numsB _).length + (cmdB (cpOf v.c v.nodes)).length ≤ _
  omega
theorem votesB_len : ∀ (l : List Vo), (∀ v ∈ l, mayVo v = true ∧ goodC v.c) → (votesB (l.map vpOf)).length ≤ l.length * 2438
  | [], _ => Nat.zero_le _
  | v :: l, h => by
    show (voteB (vpOf v) ++ votesB (l.map vpOf)).length ≤ _
    rw [List.length_append]
    have h1 := voteB_len (h v (List.mem_cons_self ..)).1 (h v (List.mem_cons_self ..)).2
    have h2 := votesB_len l (fun y hy => h y (List.mem_cons_of_mem _ hy))
    rw [List.length_cons, Nat.add_mul]
    omega
theorem votesB_take {l : List (Vo × Value)} {k : Nat} {x : Vo × Value} (h : l[k]? = some x) : votesB (((l.take (k + 1)).map (·.1)).map vpOf) = votesB (((l.take k).map (·.1)).map vpOf) ++ voteB (vpOf x.1) := by
  rw [List.take_add_one, h]
  show votesB (((l.take k ++ [x]).map (·.1)).map vpOf) = _
  rw [List.map_append, List.map_append]
  unfold votesB
  rw [List.flatMap_append]
  congr 1
  show voteB (vpOf x.1) ++ [] = _
  rw [List.append_nil]

set_option maxRecDepth 100000 in
set_option maxHeartbeats 6400000 in
theorem appM_nat (base : Nat) (v : Value) (xs : List Nat) (k0 k1 k2 k3 k4 k5 k6 k7 k8 : Nat) (ok : Bool) (c : Cs0) (Z : Nat → Prop) (p pv pb : Option Addr) (n1 cp n2 cv n3 cb : Nat) (zs : List Int) (l : List (Vo × Value)) (bs : List Nat) (w : World) (ho : Ow w base v xs) (hb : base ≤ w.heap.size) (hx : xs.length ≤ 1000)
    (hf : Fl w Z p (zs.map encI)) (hn1 : n1 = zs.length) (hfv : Fl w Z pv (vflat l)) (hvn : Vn w Z l) (hn2 : n2 = l.length) (hfb : Rb w pb n3 bs) (hbk : ∀ a, pb = some a → 0 < n3 → Z a.block) (hZ : ∀ b, Z b → v.ownBlock ≠ some b ∧ b < w.heap.size)
    (hk : ∀ x ∈ [k0, k1, k2, k3, k4, k5, k6, k7, k8], x ≤ 1152921504606846976) (hc : mayC c zs = true) (hgc : goodC c) (hl : ∀ x ∈ l, mayVo x.1 = true ∧ goodC x.1.c) (hl9 : n2 ≤ 1000) (hb9 : n3 ≤ 2000) :
    Calls Tryd.prog 40 #[v, .agg (msgA ⟨(k0 : Int), (k1 : Int), (k2 : Int), (k3 : Int), (k4 : Int), (k5 : Int), (k6 : Int), (k7 : Int), (k8 : Int), ok, c⟩ (.slice p n1 cp) (.slice pv n2 cv) (.slice pb n3 cb))] w fun e w' => ∃ v', e = .returned v' ∧ Ap w w' base v v' (xs ++ msgB ⟨k0, k1, k2, k3, k4, k5, k6, k7, k8, ok, cpOf c zs, (l.map (·.1)).map vpOf, bs⟩) := by
  have HSm : Hid (∀ x ∈ [k0, k1, k2, k3, k4, k5, k6, k7, k8], x < 9223372036854775808) := fun x hx => by have := hk x hx; omega
  have HO : Hid (Ow w base v xs) := ho
  have HF : Hid (Fl w Z p (zs.map encI) ∧ Fl w Z pv (vflat l) ∧ Vn w Z l ∧ Rb w pb n3 bs ∧ ∀ a, pb = some a → 0 < n3 → Z a.block) := ⟨hf, hfv, hvn, hfb, hbk⟩
  have HZ : Hid (∀ b, Z b → v.ownBlock ≠ some b ∧ b < w.heap.size) := hZ
  have HN : Hid (n1 = zs.length ∧ n2 = l.length ∧ n2 ≤ 1000 ∧ n3 ≤ 2000 ∧ xs.length ≤ 1000 ∧ base ≤ w.heap.size) := ⟨hn1, hn2, hl9, hb9, hx, hb⟩
  have HM : Hid (MayF c zs ∧ (0 ≤ c.sum ∧ c.sum < 4294967296) ∧ (cmdB (cpOf c zs)).length ≤ 2420) := ⟨mayC_full hc, ⟨hgc.1, hgc.2.1⟩, cmdB_len hc ⟨hgc.1, hgc.2.1⟩⟩
  have HV : Hid (∀ x ∈ l, mayVo x.1 = true ∧ goodC x.1.c) := hl
  have HVg : Hid (v.ownBlock ≠ some w.heap.size) := fun e => by have := (ownBlock_lt ho e).2; omega
  have HK0 : Hid (Kp (fun _ => False) w (w.alloc (.cells (msgA ⟨(k0 : Int), (k1 : Int), (k2 : Int), (k3 : Int), (k4 : Int), (k5 : Int), (k6 : Int), (k7 : Int), (k8 : Int), ok, c⟩ (.slice p n1 cp) (.slice pv n2 cv) (.slice pb n3 cb)) 40))) := (Kp.refl _ _).alloc _
  have HL0 : Hid (Lv (w.alloc (.cells (msgA ⟨(k0 : Int), (k1 : Int), (k2 : Int), (k3 : Int), (k4 : Int), (k5 : Int), (k6 : Int), (k7 : Int), (k8 : Int), ok, c⟩ (.slice p n1 cp) (.slice pv n2 cv) (.slice pb n3 cb)) 40)) w.heap.size (msgA ⟨(k0 : Int), (k1 : Int), (k2 : Int), (k3 : Int), (k4 : Int), (k5 : Int), (k6 : Int), (k7 : Int), (k8 : Int), ok, c⟩ (.slice p n1 cp) (.slice pv n2 cv) (.slice pb n3 cb)).toList) := Lv.new w _ _
  have hn2i : (n2 : Int) ≤ 1000 := by omega
  have hn3i : (n3 : Int) ≤ 2000 := by omega
  obtain ⟨dV, hdV, hdVr⟩ := dsVote
  obtain ⟨dC, hdC, hdCr⟩ := dsCmd
  clear ho hb hx hf hn1 hfv hvn hn2 hfb hbk hZ hk hc hgc hl hl9 hb9
  go_enter Tryd.func40, Tryd.ntmps40
  go_upto_region 1 with fail
  obtain ⟨u0, hu0⟩ : ∃ x, x = w.alloc (.cells (msgA ⟨(k0 : Int), (k1 : Int), (k2 : Int), (k3 : Int), (k4 : Int), (k5 : Int), (k6 : Int), (k7 : Int), (k8 : Int), ok, c⟩ (.slice p n1 cp) (.slice pv n2 cv) (.slice pb n3 cb)) 40) := ⟨_, rfl⟩
  have hu0' := hu0.symm
  simp only [msgA] at hu0'
  rw [hu0']
  rw [← hu0] at HK0 HL0
  have HU0 : Hid (u0.heap.size = w.heap.size + 1) := by show _ = _; rw [hu0]; simp
  clear hu0 hu0'
  obtain ⟨g, hg⟩ : ∃ x, x = w.heap.size := ⟨_, rfl⟩
  have HG : Hid (g = w.heap.size) := hg
  rw [← hg] at HL0 HVg ⊢
  clear hg
  have HA0 : Hid (Ap u0 u0 base v v xs) := Ap.refl (ownsRow_keep HO.out HK0.out (fun _ _ e => e))
  -- what lies there lasts
  have HS : Hid (∀ {u : World} {v1 : Value} {ys : List Nat}, Ap u0 u base v v1 ys → Lv u g (msgA ⟨(k0 : Int), (k1 : Int), (k2 : Int), (k3 : Int), (k4 : Int), (k5 : Int), (k6 : Int), (k7 : Int), (k8 : Int), ok, c⟩ (.slice p n1 cp) (.slice pv n2 cv) (.slice pb n3 cb)).toList ∧ Fl u Z p (zs.map encI) ∧ Fl u Z pv (vflat l) ∧ Vn u Z l ∧ Rb u pb n3 bs ∧ (∀ b, Z b → v1.ownBlock ≠ some b ∧ b < u.heap.size) ∧ v1.ownBlock ≠ some g ∧ base ≤ u.heap.size ∧ g < u.heap.size) := fun {u v1 ys} ha => by
    obtain ⟨f1, f2, f3, f4, f5⟩ := HF.out
    have hz : ∀ b, Z b → v.ownBlock ≠ some b := fun b hb => (HZ.out b hb).1
    have hk := ha.k
    have hs := hk.size
    have hu := HU0.out
    have hg := HG.out
    have hN := HN.out
    refine ⟨HL0.out.keep hk HVg.out, (f1.keep HK0.out (fun _ _ e => e)).keep hk hz, (f2.keep HK0.out (fun _ _ e => e)).keep hk hz, (f3.keep HK0.out (fun _ _ e => e)).keep hk hz, (f4.keep0 HK0.out).keepP hk (fun a ha2 hp => hz _ (f5 a ha2 hp)), fun b hb => ⟨ha.apart (xs := xs) (by have := (HZ.out b hb).2; omega) (hz b hb), by have := (HZ.out b hb).2; omega⟩, ha.apart (xs := xs) (by omega) HVg.out, by omega, by omega⟩
  have c0 : u0.cell? ⟨g, 0, none⟩ = some (.int .i64 (k0 : Int)) := HL0.out.cell (j := 0) rfl
  have c1 : u0.cell? ⟨g, 1, none⟩ = some (.int .i64 (k1 : Int)) := HL0.out.cell (j := 1) rfl
  have c2 : u0.cell? ⟨g, 2, none⟩ = some (.int .i64 (k2 : Int)) := HL0.out.cell (j := 2) rfl
  have c3 : u0.cell? ⟨g, 3, none⟩ = some (.int .i64 (k3 : Int)) := HL0.out.cell (j := 3) rfl
  have c4 : u0.cell? ⟨g, 4, none⟩ = some (.int .i64 (k4 : Int)) := HL0.out.cell (j := 4) rfl
  have c5 : u0.cell? ⟨g, 5, none⟩ = some (.int .i64 (k5 : Int)) := HL0.out.cell (j := 5) rfl
  have c6 : u0.cell? ⟨g, 6, none⟩ = some (.int .i64 (k6 : Int)) := HL0.out.cell (j := 6) rfl
  have c7 : u0.cell? ⟨g, 7, none⟩ = some (.int .i64 (k7 : Int)) := HL0.out.cell (j := 7) rfl
  have c8 : u0.cell? ⟨g, 8, none⟩ = some (.int .i64 (k8 : Int)) := HL0.out.cell (j := 8) rfl
  have H1 : Hid (Calls Tryd.prog 52 #[v, .slice (some ⟨u0.heap.size, 0, none⟩) 9 9] (u0.alloc (.cells #[.int .i64 (k0 : Int), .int .i64 (k1 : Int), .int .i64 (k2 : Int), .int .i64 (k3 : Int), .int .i64 (k4 : Int), .int .i64 (k5 : Int), .int .i64 (k6 : Int), .int .i64 (k7 : Int), .int .i64 (k8 : Int)] 3)) fun e w' => ∃ v', e = .returned v' ∧ Ap u0 w' base v v' (xs ++ numsB [k0, k1, k2, k3, k4, k5, k6, k7, k8])) := appN_new base v xs [k0, k1, k2, k3, k4, k5, k6, k7, k8] 9 u0 HA0.out.o (by have := HN.out; have := HU0.out; omega) rfl HSm.out (by have := HN.out; simp; omega)
  go_wp2_with fail
  refine H1.out.mono ?_
  rintro e9 w1 ⟨v1, rfl, h1⟩
  have HA1 : Hid (Ap u0 w1 base v v1 (xs ++ numsB [k0, k1, k2, k3, k4, k5, k6, k7, k8])) := h1
  have HE1 : Hid ((xs ++ numsB [k0, k1, k2, k3, k4, k5, k6, k7, k8]).length ≤ 1081) := by have h2 := numsB_len [k0, k1, k2, k3, k4, k5, k6, k7, k8] HSm.out; have := HN.out; show _ ≤ _; rw [List.length_append]; simp at h2; omega
  obtain ⟨L1, _, _, _, _, _, _, B1, _⟩ := HS.out h1
  have d9 : w1.cell? ⟨g, 9, none⟩ = some (.bool ok) := L1.cell (j := 9) rfl
  have H2 : Hid (Calls _ _ _ w1 _) := appT_ok base v1 (xs ++ numsB [k0, k1, k2, k3, k4, k5, k6, k7, k8]) ok w1 h1.o B1 (by have := HE1.out; omega)
  clear h1 H1 L1 B1 c0 c1 c2 c3 c4 c5 c6 c7 c8
  go_wp2_with fail
  refine H2.out.mono ?_
  rintro e9 w2 ⟨v2, rfl, h2⟩
  have HA2 : Hid (Ap u0 w2 base v v2 (xs ++ numsB [k0, k1, k2, k3, k4, k5, k6, k7, k8] ++ truthB ok)) := HA1.out.trans h2
  have HE2 : Hid ((xs ++ numsB [k0, k1, k2, k3, k4, k5, k6, k7, k8] ++ truthB ok).length ≤ 1082) := by have := HE1.out; show _ ≤ _; rw [List.length_append]; show _ + 1 ≤ _; omega
  obtain ⟨L2, F2, _, _, _, Z2, _, B2, _⟩ := HS.out HA2.out
  have HL2 : Hid (Lv w2 g (msgA ⟨(k0 : Int), (k1 : Int), (k2 : Int), (k3 : Int), (k4 : Int), (k5 : Int), (k6 : Int), (k7 : Int), (k8 : Int), ok, c⟩ (.slice p n1 cp) (.slice pv n2 cv) (.slice pb n3 cb)).toList) := L2
  have H3 : Hid (Calls Tryd.prog 24 #[v2, .agg (cmdA c (.slice p n1 cp))] w2 fun e w' => ∃ v', e = .returned v' ∧ Ap w2 w' base v2 v' (xs ++ numsB [k0, k1, k2, k3, k4, k5, k6, k7, k8] ++ truthB ok ++ cmdB (cpOf c zs))) := appC_ok base v2 _ c Z p n1 cp zs w2 HA2.out.o B2 F2 Z2 HN.out.1 HM.out.1 HM.out.2.1 (by have := HE2.out; omega)
  clear h2 H2 L2 F2 Z2 B2 d9 HA1
  go_wp2_with (refine wpList_ldm (by first | rfl | go_simp) 27 _ rfl g 10 rfl (cmdA c (.slice p n1 cp)).toList dC (HL2.out.range 10 12) hdC hdCr szCmd ?_)
  refine H3.out.mono ?_
  rintro e9 w3 ⟨v3, rfl, h3⟩
  have HA3 : Hid (Ap u0 w3 base v v3 (xs ++ numsB [k0, k1, k2, k3, k4, k5, k6, k7, k8] ++ truthB ok ++ cmdB (cpOf c zs))) := HA2.out.trans h3
  have HE3 : Hid ((xs ++ numsB [k0, k1, k2, k3, k4, k5, k6, k7, k8] ++ truthB ok ++ cmdB (cpOf c zs)).length ≤ 3502) := by have := HE2.out; have := HM.out.2.2; show _ ≤ _; rw [List.length_append]; omega
  obtain ⟨L3, _, _, _, _, _, _, B3, _⟩ := HS.out HA3.out
  have d22 : w3.cell? ⟨g, 22, none⟩ = some (.slice pv n2 cv) := L3.cell (j := 22) rfl
  have H4 : Hid (Calls Tryd.prog 52 #[v3, .slice (some ⟨w3.heap.size, 0, none⟩) 1 1] (w3.alloc (.cells #[.int .i64 (n2 : Int)] 3)) fun e w' => ∃ v', e = .returned v' ∧ Ap w3 w' base v3 v' (xs ++ numsB [k0, k1, k2, k3, k4, k5, k6, k7, k8] ++ truthB ok ++ cmdB (cpOf c zs) ++ numsB [n2])) := appN_new base v3 _ [n2] 1 w3 HA3.out.o B3 rfl (fun x hx => by rw [List.mem_singleton] at hx; have := HN.out; omega) (by have := HE3.out; simp only [List.length_cons, List.length_nil]; omega)
  clear h3 H3 L3 B3 HA2 HL2
  go_wp2_with fail
  refine H4.out.mono ?_
  rintro e9 w4 ⟨v4, rfl, h4⟩
  obtain ⟨pre, hpre⟩ : ∃ x, x = xs ++ numsB [k0, k1, k2, k3, k4, k5, k6, k7, k8] ++ truthB ok ++ cmdB (cpOf c zs) ++ numsB [n2] := ⟨_, rfl⟩
  have HA4 : Hid (Ap u0 w4 base v v4 pre) := by rw [hpre]; exact HA3.out.trans h4
  have HE4 : Hid (pre.length ≤ 3511) := by
    have h5 := numsB_len [n2] (fun x hx => by rw [List.mem_singleton] at hx; have := HN.out; omega)
    have := HE3.out
    show _ ≤ _
    rw [hpre, List.length_append]
    simp only [List.length_cons, List.length_nil] at h5
    omega
  have HPre : Hid (pre = xs ++ numsB [k0, k1, k2, k3, k4, k5, k6, k7, k8] ++ truthB ok ++ cmdB (cpOf c zs) ++ numsB [n2]) := hpre
  obtain ⟨L4, _, _, _, _, _, _, B4, _⟩ := HS.out HA4.out
  have e22 : w4.cell? ⟨g, 22, none⟩ = some (.slice pv n2 cv) := L4.cell (j := 22) rfl
  clear h4 H4 L4 B4 hpre HA3 d22
  go_wp2_with fail
  go_loopg [0, 45] n2 (fun gk bv iv wz => ∃ (k : Nat) (vk : Value), k ≤ n2 ∧ gk = n2 - k ∧ iv = .int .i64 k ∧ vk = bv ∧ Hid (Ap u0 wz base v vk (pre ++ votesB (((l.take k).map (·.1)).map vpOf))))
  case atStart => exact ⟨0, v4, Nat.zero_le _, rfl, rfl, rfl, by show Ap _ _ _ _ _ _; rw [show votesB (((l.take 0).map (·.1)).map vpOf) = [] from rfl, List.append_nil]; exact HA4.out⟩
  case round =>
    obtain ⟨k, vk, hk, rfl, rfl, rfl, HAk⟩ := hrel
    by_cases hlt : (k : Int) < (n2 : Int)
    · have hk1 : k < l.length := by have := HN.out; omega
      obtain ⟨_, _, Fv, Nv, _, Zk, _, Bk, _⟩ := HS.out HAk.out
      obtain ⟨b1, o1, rfl, r1⟩ := fl_range Fv hk1
      obtain ⟨q1, d1, en1, f1, hb1⟩ := Nv l[k] (List.getElem_mem hk1)
      have hvk := HV.out l[k] (List.getElem_mem hk1)
      rw [en1] at r1
      obtain ⟨x, hvv⟩ : ∃ x, x = l[k].1 := ⟨_, rfl⟩
      rw [← hvv] at r1 f1 hb1 hvk
      have HAt : Hid (∃ y, l[k]? = some y ∧ y.1 = x) := ⟨l[k], List.getElem?_eq_getElem hk1, hvv.symm⟩
      obtain ⟨nl, hnl⟩ : ∃ nl, nl = x.nodes.length := ⟨_, rfl⟩
      rw [← hnl] at r1
      obtain ⟨hs1, hs2, hs3⟩ := mayVo_parts hvk.1
      obtain ⟨sl, ba, cx, nx⟩ := x
      dsimp only at hs1 hs2 hs3 r1 f1 hb1 hvk hnl
      obtain ⟨sl, rfl⟩ := nat_of hs1.1
      obtain ⟨ba, rfl⟩ := nat_of hs2.1
      have HR1 : Hid (wr.rangeAt b1 (o1 + k * 14) (vcell ⟨(sl : Int), (ba : Int), cx, nx⟩ (.slice q1 nl d1))) := r1
      have HO1 : Hid ((vcell ⟨(sl : Int), (ba : Int), cx, nx⟩ (.slice q1 nl d1)).toArray.all (·.oneCell') = true) := vcell_one _ rfl
      have HKi : Hid (wrap64 ((k : Int) + 1) = ((k + 1 : Nat) : Int)) := (by show _ = _; unfold wrap64; omega)
      have HFn : Hid (Fl wr Z q1 (nx.map encI) ∧ nl = nx.length ∧ mayC cx nx = true ∧ goodC cx ∧ sl ≤ 1152921504606846976 ∧ ba ≤ 1152921504606846976) := ⟨f1, hnl, hs3, hvk.2, by omega, by omega⟩
      have HEk : Hid ((pre ++ votesB (((l.take k).map (·.1)).map vpOf)).length ≤ 3511 + 2438 * 1000) := by
        have h1 := votesB_len ((l.take k).map (·.1)) (fun y hy => by
          obtain ⟨z, hz, rfl⟩ := List.mem_map.1 hy
          exact HV.out z (List.mem_of_mem_take hz))
        rw [List.length_map, List.length_take] at h1
        have := HE4.out
        have := HN.out
        have h9 : min k l.length * 2438 ≤ 1000 * 2438 := Nat.mul_le_mul_right _ (by omega)
        show _ ≤ _
        rw [List.length_append]
        omega
      have HZk : Hid (∀ b, Z b → vk.ownBlock ≠ some b ∧ b < wr.heap.size) := Zk
      have HBk : Hid (base ≤ wr.heap.size) := Bk
      clear r1 f1 en1 hvv hnl hb1 hk1 hvk hs1 hs2 hs3 Fv Nv Zk Bk
      go_upto_region 8 with (first
        | (refine wpList_load_mid rfl 72 _ rfl b1 (o1 + k * 14) rfl _ dV HR1.out hdV hdVr szVote ?_)
        | (refine wpList_store_all rfl 72 _ _ rfl 14 wr.heap.size zeroV (vcell ⟨(sl : Int), (ba : Int), cx, nx⟩ (.slice q1 nl d1)) rfl rfl (by exact Lv.new wr _ _) szVote rfl rfl HO1.out ?_; intro u2 hl2 k2))
      have ku2 : Kp (fun _ => False) wr u2 := ((Kp.refl (fun _ => False) wr).alloc (.cells zeroV.toArray 72)).trans k2 (fun b hb e => by omega)
      obtain ⟨gv, hgv⟩ : ∃ x, x = wr.heap.size := ⟨_, rfl⟩
      rw [← hgv] at hl2 ⊢
      have HGv : Hid (gv = wr.heap.size) := hgv
      have HAu : Hid (Ap u0 u2 base v vk (pre ++ votesB (((l.take k).map (·.1)).map vpOf))) := HAk.out.grow ku2
      have HL2 : Hid (Lv u2 gv (vcell ⟨(sl : Int), (ba : Int), cx, nx⟩ (.slice q1 nl d1))) := hl2
      have HFu : Hid (Fl u2 Z q1 (nx.map encI)) := HFn.out.1.keep ku2 (fun _ _ e => e)
      have HZu : Hid (wr.heap.size < u2.heap.size) := by have := hl2.lt (by show 0 < 14; decide); show _ < _; omega
      have HVk : Hid (vk.ownBlock ≠ some gv) := fun e => by have := (ownBlock_lt HAk.out.o e).2; have := HGv.out; omega
      have c0 : u2.cell? ⟨gv, 0, none⟩ = some (.int .i64 (sl : Int)) := hl2.cell (j := 0) rfl
      have c1 : u2.cell? ⟨gv, 1, none⟩ = some (.int .i64 (ba : Int)) := hl2.cell (j := 1) rfl
      have H5 : Hid (Calls Tryd.prog 52 #[vk, .slice (some ⟨u2.heap.size, 0, none⟩) 2 2] (u2.alloc (.cells #[.int .i64 (sl : Int), .int .i64 (ba : Int)] 3)) fun e w' => ∃ v', e = .returned v' ∧ Ap u2 w' base vk v' (pre ++ votesB (((l.take k).map (·.1)).map vpOf) ++ numsB [sl, ba])) := appN_new base vk _ [sl, ba] 2 u2 HAu.out.o (Nat.le_trans HBk.out ku2.size) rfl (fun x hx => by simp only [List.mem_cons, List.not_mem_nil, or_false] at hx; have := HFn.out; omega) (by have := HEk.out; simp only [List.length_cons, List.length_nil]; omega)
      clear ku2 hl2 k2 hgv HR1
      go_wp2_with fail
      refine H5.out.mono ?_
      rintro e9 u3 ⟨v5, rfl, h5⟩
      have HAv : Hid (Ap u2 u3 base vk v5 (pre ++ votesB (((l.take k).map (·.1)).map vpOf) ++ numsB [sl, ba])) := h5
      have HL3 : Hid (Lv u3 gv (vcell ⟨(sl : Int), (ba : Int), cx, nx⟩ (.slice q1 nl d1))) := HL2.out.keep h5.k HVk.out
      have HF3 : Hid (Fl u3 Z q1 (nx.map encI)) := HFu.out.keep h5.k (fun b hb => (HZk.out b hb).1)
      have H6 : Hid (Calls Tryd.prog 24 #[v5, .agg (cmdA cx (.slice q1 nl d1))] u3 fun e w' => ∃ v', e = .returned v' ∧ Ap u3 w' base v5 v' (pre ++ votesB (((l.take k).map (·.1)).map vpOf) ++ numsB [sl, ba] ++ cmdB (cpOf cx nx))) := appC_ok base v5 _ cx Z q1 nl d1 nx u3 h5.o (by have := HBk.out; have := HZu.out; have := h5.k.size; omega) HF3.out (fun b hb => ⟨h5.apart (xs := xs) (by have := (HZk.out b hb).2; have := HZu.out; omega) (HZk.out b hb).1, by have := (HZk.out b hb).2; have := HZu.out; have := h5.k.size; omega⟩) HFn.out.2.1 (mayC_full HFn.out.2.2.1) ⟨HFn.out.2.2.2.1.1, HFn.out.2.2.2.1.2.1⟩ (by
        have h1 := numsB_len [sl, ba] (fun x hx => by simp only [List.mem_cons, List.not_mem_nil, or_false] at hx; have := HFn.out; omega)
        have := HEk.out
        rw [List.length_append]
        simp only [List.length_cons, List.length_nil] at h1
        omega)
      clear h5 H5 c0 c1 HL2 HFu
      go_wp2_with (refine wpList_ldm (by first | rfl | go_simp) 27 _ rfl gv 2 rfl (cmdA cx (.slice q1 nl d1)).toList dC (HL3.out.range 2 12) hdC hdCr szCmd ?_)
      refine H6.out.mono ?_
      rintro e9 u4 ⟨v6, rfl, h6⟩
      have HAz : Hid (Ap u0 u4 base v v6 (pre ++ votesB (((l.take (k + 1)).map (·.1)).map vpOf))) := by
        have h7 := HAu.out.trans (HAv.out.trans h6)
        obtain ⟨y, hy, hyx⟩ := HAt.out
        show Ap _ _ _ _ _ _
        rw [votesB_take hy, hyx]
        have e1 : voteB (vpOf ⟨(sl : Int), (ba : Int), cx, nx⟩) = numsB [sl, ba] ++ cmdB (cpOf cx nx) := rfl
        rw [e1]
        simp only [List.append_assoc] at h7 ⊢
        exact h7
      clear h6 H6 HL3 HF3
      go_wp2_with fail
      go_roundg (n2 - (k + 1))
      case rel => exact ⟨k + 1, v6, by omega, rfl, by first | rw [HKi.out] | rfl | go_num, rfl, HAz.out⟩
      case measure => omega
    · have hkn : l.take k = l := List.take_of_length_le (by have := HN.out; omega)
      rw [hkn] at HAk
      clear hkn
      obtain ⟨mid, hmid⟩ : ∃ x, x = pre ++ votesB ((l.map (·.1)).map vpOf) := ⟨_, rfl⟩
      rw [← hmid] at HAk
      have HMid : Hid (mid = pre ++ votesB ((l.map (·.1)).map vpOf)) := hmid
      have HEm : Hid (mid.length ≤ 3511 + 2438 * 1000) := by
        have h1 := votesB_len (l.map (·.1)) (fun y hy => by
          obtain ⟨z, hz, rfl⟩ := List.mem_map.1 hy
          exact HV.out z hz)
        rw [List.length_map] at h1
        have := HE4.out
        have := HN.out
        have h9 : l.length * 2438 ≤ 1000 * 2438 := Nat.mul_le_mul_right _ (by omega)
        show _ ≤ _
        rw [hmid, List.length_append]
        omega
      clear hmid
      obtain ⟨L5, _, _, _, _, _, _, B5, _⟩ := HS.out HAk.out
      have e23 : wr.cell? ⟨g, 23, none⟩ = some (.slice pb n3 cb) := L5.cell (j := 23) rfl
      have H7 : Hid (Calls Tryd.prog 52 #[vk, .slice (some ⟨wr.heap.size, 0, none⟩) 1 1] (wr.alloc (.cells #[.int .i64 (n3 : Int)] 3)) fun e w' => ∃ v', e = .returned v' ∧ Ap wr w' base vk v' (mid ++ numsB [n3])) := appN_new base vk _ [n3] 1 wr HAk.out.o B5 rfl (fun x hx => by rw [List.mem_singleton] at hx; have := HN.out; omega) (by have := HEm.out; simp only [List.length_cons, List.length_nil]; omega)
      clear L5 B5
      go_wp2_with fail
      refine H7.out.mono ?_
      rintro e9 w7 ⟨v7, rfl, h7⟩
      have HA7 : Hid (Ap u0 w7 base v v7 (mid ++ numsB [n3])) := HAk.out.trans h7
      have HE7 : Hid ((mid ++ numsB [n3]).length ≤ 3520 + 2438 * 1000) := by
        have h5 := numsB_len [n3] (fun x hx => by rw [List.mem_singleton] at hx; have := HN.out; omega)
        have := HEm.out
        show _ ≤ _
        rw [List.length_append]
        simp only [List.length_cons, List.length_nil] at h5
        omega
      obtain ⟨L7, _, _, _, R7, _, _, B7, _⟩ := HS.out HA7.out
      have f23 : w7.cell? ⟨g, 23, none⟩ = some (.slice pb n3 cb) := L7.cell (j := 23) rfl
      have HR7 : Hid (Rb w7 pb n3 bs ∧ base ≤ w7.heap.size) := ⟨R7, B7⟩
      clear h7 H7 L7 R7 B7 e23
      go_wp2_with (at_builtin; refine wpList_append_bytes w7 rfl _ _ rfl base v7 (mid ++ numsB [n3]) rfl HA7.out.o pb n3 cb bs rfl HR7.out.1 (by have := HE7.out; have := HN.out; omega) HR7.out.2 ?_; intro v8 w8 o8 k8 b8)
      have HA8 : Hid (Ap w w8 base v v8 (mid ++ numsB [n3] ++ bs)) := by
        have h8 : Ap u0 w8 base v v8 (mid ++ numsB [n3] ++ bs) := HA7.out.trans ⟨o8, k8, fun b e => by
          rcases b8 with q | q
          · exact Or.inl (q ▸ e)
          · rw [q] at e
            injection e with e
            exact Or.inr (by omega)⟩
        exact (⟨ownsRow_keep HO.out HK0.out (fun _ _ e => e), HK0.out.mono (fun _ _ e => e.elim), fun b e => Or.inl e⟩ : Ap w u0 base v v xs).trans h8
      clear o8 k8 b8
      go_ret
      refine ⟨v8, rfl, ?_⟩
      have h9 := HA8.out
      rw [HMid.out, HPre.out] at h9
      have hbl : bs.length = n3 := HF.out.2.2.2.1.len
      unfold msgB
      dsimp only
      rw [hbl, List.length_map, List.length_map, ← HN.out.2.1, ← numsB_one n2, ← numsB_one n3]
      simp only [List.append_assoc] at h9 ⊢
      exact h9
end Go.Proofs.YtoepemgflbmlcaaDoor
