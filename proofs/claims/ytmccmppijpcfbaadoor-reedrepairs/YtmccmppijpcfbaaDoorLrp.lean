/- The walk of the law ReedRepairs: any one shard that is missing is reckoned from the others, if there are more than the data. -/
import Derived.Test.YtmccmppijpcfbaaDoorMk
import Derived.Test.YtmccmppijpcfbaaDoorLtu
namespace Go.Proofs.YtmccmppijpcfbaaDoor
open Go.RowKit Go.Deep

set_option maxRecDepth 100000 in
set_option maxHeartbeats 3200000 in
theorem repairs_walk (k m n : Int) (a : Value) (la : Nat) (f : Nat → Nat) (x : Int) (w : World) (ha : Bs w a la f) (hp : Pows w) :
    Calls Tryd.prog 4 #[.int .i64 k, .int .i64 m, .int .i64 n, a, .int .i64 x] w fun e w' => e = .returned (.bool true) ∧ Kp (fun _ => False) w w' := by
  obtain ⟨K, M, N, ⟨b1, b2, b3, n1, n2⟩, hmade⟩ := madeX k m n
  obtain ⟨D, hD', hcall⟩ := hmade a la f w ha hp
  have HD : Hid (Calls _ _ _ w _) := hcall
  have hD : Hid (∀ i j, D i j < 256) := hD'
  clear hmade hcall hD'
  obtain ⟨pa, ba, oa, ca, rfl, hpa, hc, hf⟩ := ha
  clear hpa hc hf
  have hKM1 : 1 ≤ K + M := by omega
  have HX : Hid (wrap64 ((IntKind.u64.wrap x).tmod ((K : Int) + (M : Int))) = (modOf x (K + M) : Int)) := by
    have := modOf_eq x hKM1 (by omega)
    rw [show ((K + M : Nat) : Int) = (K : Int) + (M : Int) from by simp] at this
    exact this
  have x2 := modOf_lt x hKM1
  go_enter Tryd.func4, Tryd.ntmps4
  go_wp2_with fail
  refine HD.out.mono ?_
  rintro e w1 ⟨t, B, rfl, k1, ht, hB, hM⟩
  clear HD
  have hnn1 := not_nil ⟨t, 0, none⟩ (K + M) (K + M)
  have hxx := HX.out
  clear HX
  generalize modOf x (K + M) = I at *
  have htl := hM.top.lt
  have e1 := (hM.top.alloc (.cells #[.int .i64 (K : Int), .int .i64 (M : Int)] 25)).cell (i := I) x2
  have e2 := (hM.top.alloc (.cells #[.int .i64 (K : Int), .int .i64 (M : Int)] 25)).frozen I
  have i1 : (I : Int) < (K : Int) + (M : Int) := by omega
  have hw2 : (((K : Int) + (M : Int)) == 0) = false := beq_eq_false_iff_ne.2 (by omega)
  obtain ⟨ws, hws⟩ : ∃ y, y = w1.setCell ⟨t, I, none⟩ (.slice none 0 0) := ⟨_, rfl⟩
  have ks : Kp (fun b => b = t) w1 ws := by rw [hws]; exact (Kp.refl (fun b => b = t) w1).setCell (a := ⟨t, I, none⟩) (fun _ => rfl) _
  have zs : ws.heap.size = w1.heap.size := by rw [hws]; exact nblk_setCell _ _ _
  obtain ⟨w2, hw2', ka, za, s1, s2⟩ := code_alloc ws K M
  rw [zs] at s1 s2
  have hT2 : w2.rowIs t 22 (K + M) (mhead B N (fun _ => N) (fun r => !(r == I))) := by
    refine ka.row ?_ id
    rw [hws]
    refine (hM.top.set I _).congr (fun r _ => ?_)
    unfold mhead
    by_cases e : r = I <;> simp [e]
  have hrow2 : ∀ r, r < K + M → w2.rowIs (B r) 5 N (By (enc K D r)) := fun r hr => ka.row (ks.row (hM.row r hr) (hM.ne r hr)) id
  have hRd : Rd w2 (maskSh t (K + M) B N (fun _ => N) (enc K D) (fun r => !(r == I))) := mask_rd hT2 (fun r hr _ c hc => (hrow2 r hr).cell hc) (fun i j => enc_lt _ _ _ _)
  have kw2 : Kp (fun _ => False) w w2 := (k1.trans ks (fun b hb e => by omega)).trans ka (fun _ _ e => e)
  have HRp : Hid (Calls _ _ _ w2 _) := repair_any K M I _ w2 hRd rfl (by omega) (by omega) i1 (kw2.pows hp id) (by have : len0 (mlen (fun r => !(r == I)) N) (K + M) ≤ N := len0_le _ _ _; show ((len0 (mlen (fun r => !(r == I)) N) (K + M) : Nat) : Int) ≤ _; omega)
  have HRW : Hid (w2.rowIs (B I) 5 N (By (enc K D I))) := hrow2 I x2
  clear hT2 hrow2 hRd hM
  go_wp2_with fail
  rw [hxx, ← hws, ← hw2']
  clear hws hw2' e1 e2 hxx hw2 hnn1
  refine HRp.out.mono ?_
  rw [mask_alike _ n1, mask_count _ n1, cnt_but I (K + M), if_pos x2]
  rintro e w3 ⟨k3, ⟨hal, rfl⟩ | ⟨_, hfew, rfl⟩ | ⟨_, hK, b, W, rfl, hE, hR⟩⟩
  · cases hal
  · have hM0 : M = 0 := by omega
    have c1 := k3.cellv s1 id
    have c2 := k3.cellv s2 id
    have d0 : ((M : Int) == 0) = true := by rw [hM0]; rfl
    clear HRp
    go_wp2
    go_ret
    exact ⟨rfl, kw2.trans k3 (fun _ _ e => e)⟩
  · have hM0 : M ≠ 0 := by omega
    have c1 := k3.cellv s1 id
    have c2 := k3.cellv s2 id
    have d0 : ((M : Int) == 0) = false := beq_eq_false_iff_ne.2 (by omega)
    have hc1 : 1 ≤ cnt (fun r => !(r == I)) (K + M) := by rw [cnt_but I (K + M), if_pos x2]; omega
    have hln : len0 (mlen (fun r => !(r == I)) N) (K + M) = N := mask_len0 _ n1 _ hc1
    have hR' : w3.rowIs b 5 N (By (decM K (enc K D) (firstK (mlen (fun r => !(r == I)) N) (K + M) K) W (fun _ => I) 0)) := by rw [hln] at hR; exact hR
    have HEq : Hid (∀ c1 c2, Calls _ _ #[.slice _ _ c1, .slice _ _ c2] w3 _) := fun c1 c2 => bytesEqual_same (some ⟨b, 0, none⟩) (some ⟨B I, 0, none⟩) b 0 (B I) 0 N c1 c2 _ (enc K D I) w3 (fun _ _ => rfl) (fun _ _ => rfl) (fun p hp => by rw [Nat.zero_add]; exact hR'.cell hp) (fun p hp => by rw [Nat.zero_add]; exact (k3.row HRW.out id).cell hp)
      (fun p hp => decM_enc hD.out hE (fun j _ => rfl) (fun _ => I) 0)
    rw [show len0 (maskSh t (K + M) B N (fun _ => N) (enc K D) (fun r => !(r == I))).L (K + M) = N from hln]
    clear HRp hR hR' hE HRW hln
    go_wp2_with fail
    refine (HEq.out _ _).mono ?_
    rintro e w4 ⟨rfl, hw⟩
    obtain rfl := hw.symm
    go_wp2
    go_ret
    exact ⟨rfl, kw2.trans k3 (fun _ _ e => e)⟩
end Go.Proofs.YtmccmppijpcfbaaDoor
