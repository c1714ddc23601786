/- Texts of this proof, joined: Bq, Sh, Pk. -/
import Derived.Test.YtmooddbhcccicaaGreatDoorMgAW
import Derived.Test.YtmooddbhcccicaaGreatDoorMgBF
import Derived.WalkKit
import Derived.Shelf.SlIterI.Nil
import Derived.Shelf.SortM.Plain
import Derived.Shelf.SortM.SortNone
import Derived.Test.YtmooddbhcccicaaGreatDoorProg
import Derived.Test.YtmooddbhcccicaaGreatDoorMgAG
import Derived.Lib.SlKeysI
/- Records in the place of all others (plain); a record that is put. -/
namespace Go.Proofs.YtmooddbhcccicaaGreatDoor
set_option linter.unusedVariables false
set_option linter.unusedSimpArgs false
open Go.RowKit Go.Deep

theorem RingW.suffix {rd : Nat → List Nat} {s : Nat} : ∀ {c e : Nat} {l1 l2 : List (List Nat)}, RingW rd s c e (l1 ++ l2) → RingW rd s (c + totW l1) (e + l1.length) l2
  | c, e, [], l2, h => h
  | c, e, ys :: l1, l2, ⟨_, h⟩ => by
    have := RingW.suffix h
    show RingW rd s (c + (needW ys + totW l1)) (e + (l1.length + 1)) l2
    rw [← Nat.add_assoc, show e + (l1.length + 1) = e + 1 + l1.length by omega]
    exact this
theorem RingW.shift {rd : Nat → List Nat} {s : Nat} : ∀ {c c' e : Nat} {l : List (List Nat)}, (∀ t, (c + t) % s = (c' + t) % s) → RingW rd s c e l → RingW rd s c' e l
  | c, c', e, [], hc, h => trivial
  | c, c', e, ys :: l, hc, ⟨h1, h2⟩ => ⟨fun j hj => by rw [← hc j]; exact h1 j hj, RingW.shift (fun t => by rw [Nat.add_assoc, Nat.add_assoc]; exact hc _) h2⟩
/-- records in the place of all others: X is the plate behind the new head, now it behind cleaning -/
theorem LogN.replaced {dur : List Nat} {now1 now : Nat → List Nat} {s a b c e : Nat} {recs l : List (List Nat)} (h : LogN now1 s a b c e (recs ++ l)) (ha : 1 ≤ a ∧ a < 1152921504606846976) (hb : 1 ≤ b ∧ b ≤ 1152921504606846976) (hc : c < s) (hs : s ≤ 8192) (he : 1 ≤ e ∧ e ≤ 1152921504606846976) (hX : ∀ i, i < 2 + s → nowOf dur (fun _ => none) i = if i = (a + 1) % 2 then hdB (a + 1) b ((c + totW recs) % s) (e + recs.length) else now1 i) (hn : Cln dur (fun _ => none) s ((c + totW recs) % s + totW l) (s - totW l) (2 + s) now) : LogN now s (a + 1) b ((c + totW recs) % s) (e + recs.length) l := by
  have hft := h.fits
  rw [totW_app] at hft
  obtain ⟨C, hC⟩ : ∃ C, C = (c + totW recs) % s := ⟨_, rfl⟩
  have hmod : ∀ t, (C + t) % s = (c + totW recs + t) % s := fun t => by rw [hC, Nat.mod_add_mod]
  rw [← hC] at hX hn ⊢
  have hlt : ∀ t, 2 + (C + t) % s < 2 + s := fun t => by have := Nat.mod_lt (C + t) (show 0 < s by omega); omega
  have hhd : ∀ i, i < 2 → now i = nowOf dur (fun _ => none) i := fun i hi => (hn i (by omega)).2.2 (fun t ht => by omega)
  refine ⟨by rw [hhd _ (by omega), hX _ (by omega), if_pos rfl], fun i hi hne hok => ?_, ?_, by omega, fun t h1 h2 => ?_, fun ys hy => h.fine ys (List.mem_append_right _ hy)⟩
  · have hia : i = a % 2 := by omega
    have : now i = hdB a b c e := by rw [hhd i hi, hX i (by omega), if_neg hne, hia]; exact h.hd
    rw [this, sayH_hdB (by omega) (by omega) (by omega) (by omega)]
    show (a : Int) < ((a + 1 : Nat) : Int)
    omega
  · have hr := h.ring.suffix
    refine RingW.congr (RingW.shift (c' := C) (fun t => (hmod t).symm) hr) fun t ht => ?_
    have := (hn _ (hlt t)).2.2 (fun t' ht' heq => by
      have h9 := mod_inj (s := s) (e := C) (i := t) (j := totW l + t') (by omega) (by omega) (by rw [← Nat.add_assoc]; omega)
      omega)
    rw [this, hX _ (hlt t), if_neg (by omega)]
  · refine (hn _ (hlt t)).2.1 ⟨t - totW l, by omega, ?_⟩
    rw [show C + totW l + (t - totW l) = C + t by omega]

theorem Lg.putted {w w' : World} {g bp d m gf s q a b c e lt y : Nat} {recs : List (List Nat)} {dur : List Nat} {T : Nat → Option (List Nat)} (h : Lg w g bp d m gf s q a b c e lt y recs dur T) {ys : List Nat} (hfit : 1 ≤ ys.length ∧ ys.length ≤ 2000 ∧ ∀ x ∈ ys, x < 256) (hroom : totW recs + needW ys ≤ s) (p' : Pt w' bp d m (2 + s) (q + needW ys) dur (wrT T s (c + totW recs) (lt + 1) ys (needW ys) (needW ys))) (l' : Wl w' g bp s gf ⟨a, b, c, e⟩ ((lt + 1 : Nat) : Int) (c + totW recs + needW ys) (s - totW recs - needW ys)) : Lg w' g bp d m gf s (q + needW ys) a b c e (lt + 1) y (recs ++ [ys]) dur (wrT T s (c + totW recs) (lt + 1) ys (needW ys) (needW ys)) := by
  have hen : lt + 1 = e + recs.length := h.hl
  have hs1 := h.s1
  have hq := h.hq
  have hy := h.yl
  have hput := h.lg.put (ys := ys) (by omega) hfit hroom
  have hdw := h.dw.put (ys := ys) h.lg (by omega) hroom
  rw [← hen] at hput hdw
  refine ⟨p', ?_, hput, hdw, ?_, ?_, h.s1, h.cs, h.a1, h.b1, h.e1, h.lp, ?_, ?_⟩
  · rw [totW_app, totW_one, ← Nat.add_assoc, ← Nat.sub_sub]
    exact l'
  · rw [totW_app, totW_one]; omega
  · rw [List.length_append]; show lt + 1 + 1 = e + (recs.length + 1); omega
  · rw [List.length_append]; omega
  · intro t ht'
    rw [List.take_append_of_le_length hy] at ht'
    have := totW_take recs y
    rw [(wrT_at (needW ys) (by omega)).2 _ (fun j hj he => by
      have := mod_inj (s := s) (e := c) (i := t) (j := totW recs + j) (by omega) (by omega) (by rw [← Nat.add_assoc]; omega)
      omega)]
    exact h.ys t ht'
theorem lg_put {w : World} {g bp d m gf s q a b c e lt y : Nat} {recs : List (List Nat)} {dur : List Nat} {T : Nat → Option (List Nat)} (h : Lg w g bp d m gf s q a b c e lt y recs dur T) (p : Option Addr) (n cap : Nat) (ys : List Nat) (hr : Rb w p n ys) (hn : 1 ≤ n ∧ n ≤ 2000) (hc : n ≤ cap) (hroom : totW recs + needW ys ≤ s) (hb : ∀ z, p = some z → 1 ≤ n → ¬ z.block = m ∧ ¬ z.block = g ∧ ¬ z.block = gf) (ht : Turns w) :
    Calls Tryz.prog 128 #[.pointer (some ⟨g, 0, none⟩), .slice p n cap] w fun e9 w' => e9 = .returned .nilIface ∧ Kp (fun x => x = m ∨ x = g ∨ x = gf) w w' ∧ ∃ q' T', Lg w' g bp d m gf s q' a b c e (lt + 1) y (recs ++ [ys]) dur T' := by
  obtain ⟨z1, z2, z3, z4, z5⟩ := h.bounds
  have hlen := hr.len
  have hcs := h.cs
  have hs1 := h.s1
  obtain ⟨bb, o, rfl, _⟩ := hr.pt (by omega)
  obtain ⟨hb1, hb2, hb3⟩ := hb _ rfl hn.1
  refine (put_ok (K := needW ys) h.pt (by omega) ⟨rfl, by omega⟩ h.wl (by omega) ⟨by unfold needW; rw [hlen], hn.2, hc⟩ hn.1 hr (by omega) (by omega) (by omega) ⟨h.lp.gd, h.lp.gm, h.lp.bg, h.lp.fd, h.lp.fm, h.lp.bf, hb1, hb2, hb3, fun e => h.lp.tg e.symm, fun e => h.lp.tf e.symm, fun e => h.lp.tm e.symm⟩ ht).mono ?_
  rintro e9 w' ⟨rfl, k, p', l'⟩
  exact ⟨rfl, k, _, _, h.putted ⟨by omega, by omega, hr.byte⟩ hroom p' l'⟩

/-- texts that lie apart from F -/
def Txs (F : Nat → Prop) (w : World) (p : Option Addr) (ls : List (List Nat)) : Prop := ∀ r, r < ls.length → ∃ b o, p = some ⟨b, o, none⟩ ∧ ¬ F b ∧ ∃ pp c, w.cell? ⟨b, o + r, none⟩ = some (.slice pp (ls.getD r []).length c) ∧ Rb w pp (ls.getD r []).length (ls.getD r []) ∧ (ls.getD r []).length ≤ c ∧ ∀ z, pp = some z → 0 < (ls.getD r []).length → ¬ F z.block
theorem Txs.keep {F : Nat → Prop} {w w' : World} {p : Option Addr} {ls : List (List Nat)} (h : Txs F w p ls) (k : Kp F w w') : Txs F w' p ls := fun r hr => by
  obtain ⟨b, o, h1, h2, pp, c, h3, h4, h5, h6⟩ := h r hr
  refine ⟨b, o, h1, h2, pp, c, k.cellv h3 h2, ?_, h5, h6⟩
  by_cases h0 : (ls.getD r []).length = 0
  · exact ⟨h4.len, h4.byte, fun j hj => by omega⟩
  · exact h4.keep k (fun a ha _ => h6 a ha (by omega))
theorem Txs.mono {F F' : Nat → Prop} {w : World} {p : Option Addr} {ls : List (List Nat)} (h : Txs F w p ls) (hf : ∀ b, F' b → F b) : Txs F' w p ls := fun r hr => by
  obtain ⟨b, o, h1, h2, pp, c, h3, h4, h5, h6⟩ := h r hr
  exact ⟨b, o, h1, fun e => h2 (hf b e), pp, c, h3, h4, h5, fun z hz h0 e => h6 z hz h0 (hf _ e)⟩
theorem Txs.len {F : Nat → Prop} {w : World} {p : Option Addr} {ls : List (List Nat)} (h : Txs F w p ls) {r : Nat} (hr : r < ls.length) : ∃ b o, p = some ⟨b, o, none⟩ := by
  obtain ⟨b, o, h1, _⟩ := h r hr
  exact ⟨b, o, h1⟩
theorem Tb.txs {w : World} {v : Value} {ls : List (List Nat)} (h : Tb w v ls) : ∃ p c, v = .slice p ls.length c ∧ Txs (fun b => w.heap.size ≤ b) w p ls := by
  obtain ⟨g, gb, go, cap, A, C, hv, hc, hg, hr⟩ := h.form
  refine ⟨g, cap, hv, fun r hr' => ⟨gb, go, hg (by omega), ?_, A r, C r, (hr r hr').1, (hr r hr').2.1, (hr r hr').2.2.1, fun z hz h0 => ?_⟩⟩
  · have := World.block_lt_of_cell? _ _ (hr r hr').1
    show ¬ w.heap.size ≤ gb
    have e : gb < w.heap.size := this
    omega
  · obtain ⟨b', o', e', hc'⟩ := (hr r hr').2.1.cell 0 h0
    rw [hz] at e'
    cases e'
    have := World.block_lt_of_cell? _ _ hc'
    have e : b' < w.heap.size := this
    show ¬ w.heap.size ≤ b'
    omega
end Go.Proofs.YtmooddbhcccicaaGreatDoor

/- The tables of numbers under which the library's contracts on the keys of a map of sectors, sorted, speak of this program. -/
namespace Go.Proofs
open Go.Shelf
def Tryz.keysA_ren : Go.Shelf.Ren := ⟨fun | 7 => 54 | 10 => 99 | n => n, fun | 23 => 101 | 26 => 3 | 3 => 108 | 28 => 106 | 0 => 0 | 27 => 105 | 33 => 115 | 4 => 4 | n => n, fun | n => n⟩
theorem Tryz.keysA : Go.Proofs.SlLaysZI.n7 Tryz.prog Tryz.keysA_ren := {
  mixed := by kernel_rfl
  f7 := ⟨Tryz.f54.name, by decide, Tryz.func54.trans (congrArg some (by kernel_rfl))⟩
  f10 := ⟨Tryz.f99.name, by decide, Tryz.func99.trans (congrArg some (by kernel_rfl))⟩
  t0 := Tryz.underlying0
  a0 := Tryz.isAgg0
  z0 := Tryz.sizeOf0
  v0 := Tryz.zeroValue0
  t4 := Tryz.underlying4
  a4 := Tryz.isAgg4
  z4 := Tryz.sizeOf4
  v4 := Tryz.zeroValue4
  t23 := Tryz.underlying101
  a23 := Tryz.isAgg101
  z23 := Tryz.sizeOf101
  v23 := Tryz.zeroValue101
  t26 := Tryz.underlying3
  a26 := Tryz.isAgg3
  z26 := Tryz.sizeOf3
  v26 := Tryz.zeroValue3
  t27 := Tryz.underlying105
  a27 := Tryz.isAgg105
  z27 := Tryz.sizeOf105
  v27 := Tryz.zeroValue105
  t28 := Tryz.underlying106
  a28 := Tryz.isAgg106
  z28 := Tryz.sizeOf106
  v28 := Tryz.zeroValue106
  t33 := Tryz.underlying115
  a33 := Tryz.isAgg115
  z33 := Tryz.sizeOf115
  v33 := Tryz.zeroValue115 }
def Tryz.sortedA_ren : Go.Shelf.Ren := ⟨fun | 6 => 53 | 8 => 97 | 9 => 98 | 11 => 138 | 13 => 133 | 12 => 139 | 23 => 179 | 24 => 170 | 14 => 181 | 15 => 182 | 16 => 183 | 17 => 184 | 18 => 185 | 19 => 186 | 20 => 187 | 21 => 188 | 22 => 189 | 25 => 215 | 26 => 211 | 27 => 212 | 28 => 216 | 29 => 217 | 30 => 180 | 31 => 230 | n => n, fun | 26 => 3 | 28 => 106 | 24 => 59 | 0 => 0 | 3 => 3 | 37 => 42 | 48 => 245 | 50 => 35 | 4 => 4 | 40 => 239 | 39 => 238 | 45 => 220 | 5 => 5 | 9 => 9 | 51 => 271 | 55 => 275 | 57 => 285 | 58 => 286 | 33 => 115 | n => n, fun | n => n⟩
theorem Tryz.sortedA : Go.Proofs.SlLaysZI.n6 Tryz.prog Tryz.sortedA_ren := {
  mixed := by kernel_rfl
  f6 := ⟨Tryz.f53.name, by decide, Tryz.func53.trans (congrArg some (by kernel_rfl))⟩
  f8 := ⟨Tryz.f97.name, by decide, Tryz.func97.trans (congrArg some (by kernel_rfl))⟩
  f11 := ⟨Tryz.f138.name, by decide, Tryz.func138.trans (congrArg some (by kernel_rfl))⟩
  t0 := Tryz.underlying0
  a0 := Tryz.isAgg0
  z0 := Tryz.sizeOf0
  v0 := Tryz.zeroValue0
  t24 := Tryz.underlying59
  a24 := Tryz.isAgg59
  z24 := Tryz.sizeOf59
  v24 := Tryz.zeroValue59
  t26 := Tryz.underlying3
  a26 := Tryz.isAgg3
  z26 := Tryz.sizeOf3
  v26 := Tryz.zeroValue3
  t28 := Tryz.underlying106
  a28 := Tryz.isAgg106
  z28 := Tryz.sizeOf106
  v28 := Tryz.zeroValue106
  i26 := by kernel_rfl }
def Tryz.sortA_ren : Go.Shelf.Ren := ⟨fun | 5 => 98 | 8 => 133 | 7 => 139 | 19 => 179 | 20 => 170 | 10 => 181 | 11 => 182 | 12 => 183 | 13 => 184 | 14 => 185 | 15 => 186 | 16 => 187 | 17 => 188 | 18 => 189 | 30 => 215 | 31 => 211 | 32 => 212 | 33 => 216 | 34 => 217 | 35 => 180 | 40 => 230 | n => n, fun | 23 => 59 | 25 => 3 | 3 => 3 | 32 => 42 | 22 => 59 | 0 => 0 | 44 => 245 | 46 => 35 | 4 => 4 | 36 => 239 | 35 => 238 | 41 => 220 | 5 => 5 | 9 => 9 | 53 => 271 | 57 => 275 | 63 => 285 | 64 => 286 | n => n, fun | n => n⟩
theorem Tryz.sortA : Go.Proofs.SlLaysM.n5 Tryz.prog Tryz.sortA_ren := {
  mixed := by kernel_rfl
  f5 := ⟨Tryz.f98.name, by decide, Tryz.func98.trans (congrArg some (by kernel_rfl))⟩
  f7 := ⟨Tryz.f139.name, by decide, Tryz.func139.trans (congrArg some (by kernel_rfl))⟩
  f8 := Tryz.func133.trans (congrArg some (by kernel_rfl))
  f10 := ⟨Tryz.f181.name, by decide, Tryz.func181.trans (congrArg some (by kernel_rfl))⟩
  f11 := ⟨Tryz.f182.name, by decide, Tryz.func182.trans (congrArg some (by kernel_rfl))⟩
  f12 := ⟨Tryz.f183.name, by decide, Tryz.func183.trans (congrArg some (by kernel_rfl))⟩
  f13 := ⟨Tryz.f184.name, by decide, Tryz.func184.trans (congrArg some (by kernel_rfl))⟩
  f14 := ⟨Tryz.f185.name, by decide, Tryz.func185.trans (congrArg some (by kernel_rfl))⟩
  f15 := ⟨Tryz.f186.name, by decide, Tryz.func186.trans (congrArg some (by kernel_rfl))⟩
  f16 := ⟨Tryz.f187.name, by decide, Tryz.func187.trans (congrArg some (by kernel_rfl))⟩
  f17 := ⟨Tryz.f188.name, by decide, Tryz.func188.trans (congrArg some (by kernel_rfl))⟩
  f18 := ⟨Tryz.f189.name, by decide, Tryz.func189.trans (congrArg some (by kernel_rfl))⟩
  f19 := Tryz.func179.trans (congrArg some (by kernel_rfl))
  f20 := Tryz.func170.trans (congrArg some (by kernel_rfl))
  f30 := ⟨Tryz.f215.name, by decide, Tryz.func215.trans (congrArg some (by kernel_rfl))⟩
  f31 := Tryz.func211.trans (congrArg some (by kernel_rfl))
  f32 := Tryz.func212.trans (congrArg some (by kernel_rfl))
  f33 := ⟨Tryz.f216.name, by decide, Tryz.func216.trans (congrArg some (by kernel_rfl))⟩
  f34 := ⟨Tryz.f217.name, by decide, Tryz.func217.trans (congrArg some (by kernel_rfl))⟩
  f35 := ⟨Tryz.f180.name, by decide, Tryz.func180.trans (congrArg some (by kernel_rfl))⟩
  f40 := ⟨Tryz.f230.name, by decide, Tryz.func230.trans (congrArg some (by kernel_rfl))⟩
  t0 := Tryz.underlying0
  a0 := Tryz.isAgg0
  z0 := Tryz.sizeOf0
  v0 := Tryz.zeroValue0
  t3 := Tryz.underlying3
  a3 := Tryz.isAgg3
  z3 := Tryz.sizeOf3
  v3 := Tryz.zeroValue3
  t4 := Tryz.underlying4
  a4 := Tryz.isAgg4
  z4 := Tryz.sizeOf4
  v4 := Tryz.zeroValue4
  t5 := Tryz.underlying5
  a5 := Tryz.isAgg5
  z5 := Tryz.sizeOf5
  v5 := Tryz.zeroValue5
  t9 := Tryz.underlying9
  a9 := Tryz.isAgg9
  z9 := Tryz.sizeOf9
  v9 := Tryz.zeroValue9
  t22 := Tryz.underlying59
  a22 := Tryz.isAgg59
  z22 := Tryz.sizeOf59
  v22 := Tryz.zeroValue59
  t23 := Tryz.underlying59
  a23 := Tryz.isAgg59
  z23 := Tryz.sizeOf59
  v23 := Tryz.zeroValue59
  t25 := Tryz.underlying3
  a25 := Tryz.isAgg3
  z25 := Tryz.sizeOf3
  v25 := Tryz.zeroValue3
  t32 := Tryz.underlying42
  a32 := Tryz.isAgg42
  z32 := Tryz.sizeOf42
  v32 := Tryz.zeroValue42
  t35 := Tryz.underlying238
  a35 := Tryz.isAgg238
  z35 := Tryz.sizeOf238
  v35 := Tryz.zeroValue238
  t36 := Tryz.underlying239
  a36 := Tryz.isAgg239
  z36 := Tryz.sizeOf239
  v36 := Tryz.zeroValue239
  t41 := Tryz.underlying220
  a41 := Tryz.isAgg220
  z41 := Tryz.sizeOf220
  v41 := Tryz.zeroValue220
  t44 := Tryz.underlying245
  a44 := Tryz.isAgg245
  z44 := Tryz.sizeOf245
  v44 := Tryz.zeroValue245
  t46 := Tryz.underlying35
  a46 := Tryz.isAgg35
  z46 := Tryz.sizeOf35
  v46 := Tryz.zeroValue35
  t53 := Tryz.underlying271
  a53 := Tryz.isAgg271
  z53 := Tryz.sizeOf271
  v53 := Tryz.zeroValue271
  t57 := Tryz.underlying275
  a57 := Tryz.isAgg275
  z57 := Tryz.sizeOf275
  v57 := Tryz.zeroValue275
  t63 := Tryz.underlying285
  a63 := Tryz.isAgg285
  z63 := Tryz.sizeOf285
  v63 := Tryz.zeroValue285
  t64 := Tryz.underlying286
  a64 := Tryz.isAgg286
  z64 := Tryz.sizeOf286
  v64 := Tryz.zeroValue286 }
end Go.Proofs

/- The walk of a plate's Dirty: the keys of the map, sorted. -/
namespace Go.Proofs.YtmooddbhcccicaaGreatDoor
open Go.RowKit Go.Deep Go.Maps

theorem nodup_le : ∀ (n : Nat) (l : List Int), l.Nodup → (∀ x ∈ l, 0 ≤ x ∧ x < (n : Int)) → l.length ≤ n
  | 0, l, _, h => by
    cases l with
    | nil => exact Nat.le_refl _
    | cons x l => have := h x List.mem_cons_self; omega
  | n + 1, l, hn, h => by
    by_cases hm : (n : Int) ∈ l
    · have h1 := nodup_le n (l.erase (n : Int)) (hn.erase _) (fun x hx => by
        have hx' := (hn.mem_erase_iff).1 hx
        have := h x hx'.2
        have := hx'.1
        omega)
      rw [List.length_erase_of_mem hm] at h1
      omega
    · have := nodup_le n l hn (fun x hx => by
        have := h x hx
        have hne : x ≠ (n : Int) := fun e => hm (e ▸ hx)
        omega)
      omega
theorem keys_facts {w : World} {m q : Nat} {D : DataW (List Nat)} (h : w.ownsMap Tryz.prog 3 secR m q D) : (intKeys D).Nodup ∧ (∀ x, x ∈ intKeys D ↔ Maps.has D (.int .i64 x) = true) ∧ Maps.size D = (intKeys D).length := by
  obtain ⟨es, rfl, hp, _⟩ := h.entries keyLaw
  obtain ⟨es', e, hko⟩ := h.keysOf
  obtain rfl : es = es' := by simpa using e
  have hk : ∀ p ∈ es, ∃ x, p.1 = .int .i64 x := fun p hp => by
    obtain ⟨v, hv⟩ := hko p hp
    obtain ⟨x, _, hx, _⟩ := Maps.keyOf_i64 Tryz.underlying3 hv
    exact ⟨x, hx⟩
  refine ⟨?_, fun x => ?_, ?_⟩
  · show (es.map fun p => Go.intOf p.1).Nodup
    refine List.pairwise_map.2 (hp.imp_of_mem fun {p q} hp' hq' hne e => hne ?_)
    obtain ⟨a, ha⟩ := hk p hp'
    obtain ⟨b, hb⟩ := hk q hq'
    rw [ha, hb] at e ⊢
    exact congrArg _ e
  · show x ∈ es.map (fun p => Go.intOf p.1) ↔ _
    rw [has_eq, List.any_eq_true, List.mem_map]
    constructor
    · rintro ⟨p, hp', rfl⟩
      obtain ⟨a, ha⟩ := hk p hp'
      exact ⟨p, hp', by rw [ha]; simp [Lit.sameKey, Go.intOf]⟩
    · rintro ⟨p, hp', hs⟩
      obtain ⟨a, ha⟩ := hk p hp'
      rw [ha] at hs
      exact ⟨p, hp', by rw [ha]; simpa [Lit.sameKey, Go.intOf] using hs⟩
  · show es.length = (es.map _).length
    rw [List.length_map]

/-- slices.Sort's two contracts, at the fence that asks nothing. -/
theorem sortsA (k : Nat) : AnyZI.SortsIn Tryz.prog Tryz.sortedA_ren Fence.wide k :=
  ⟨fun blk off cap ss W hH hblk hsz => callsIn_wide.2 (AnyM.slices_Sort_int Tryz.sortA blk off cap ss W hH hblk hsz),
   fun p cap W => callsIn_wide.2 (AnyM.slices_Sort_int_none Tryz.sortA p cap W)⟩
/-- which sectors are dirty, in their order -/
def dks (T : Nat → Option (List Nat)) (n : Nat) : List Int := List.map (fun i : Nat => (i : Int)) ((List.range n).filter fun i => (T i).isSome)
theorem mem_dks {T : Nat → Option (List Nat)} {n : Nat} {x : Int} : x ∈ dks T n ↔ ∃ i : Nat, i < n ∧ (T i).isSome = true ∧ (i : Int) = x := by
  unfold dks
  simp only [List.mem_map, List.mem_filter, List.mem_range, and_assoc]
theorem dks_sorted (T : Nat → Option (List Nat)) (n : Nat) : (dks T n).Pairwise (fun a b => a < b) := by
  unfold dks
  refine List.pairwise_map.2 ((List.pairwise_lt_range.filter _).imp (fun {a b} h => ?_))
  omega
theorem dks_nodup (T : Nat → Option (List Nat)) (n : Nat) : (dks T n).Nodup := (dks_sorted T n).imp (fun {a b} h => by omega)
theorem dks_len (T : Nat → Option (List Nat)) (n : Nat) : (dks T n).length ≤ n := nodup_le n _ (dks_nodup T n) (fun x hx => by obtain ⟨i, hi, _, rfl⟩ := mem_dks.1 hx; omega)
theorem dks_eq {T : Nat → Option (List Nat)} {n : Nat} {l : List Int} (hn : l.Nodup) (hm : ∀ x, x ∈ l ↔ x ∈ dks T n) : l.mergeSort (fun x y => decide (x ≤ y)) = dks T n := by
  have hp : l.Perm (dks T n) := (List.perm_ext_iff_of_nodup hn (dks_nodup T n)).2 hm
  have tr : ∀ a b c : Int, decide (a ≤ b) = true → decide (b ≤ c) = true → decide (a ≤ c) = true := fun a b c h1 h2 => by simp only [decide_eq_true_eq] at *; omega
  have tt9 : ∀ a b : Int, (decide (a ≤ b) || decide (b ≤ a)) = true := fun a b => by simp only [Bool.or_eq_true, decide_eq_true_eq]; omega
  refine List.Perm.eq_of_pairwise (le := fun a b => decide (a ≤ b) = true) (fun a b _ _ h1 h2 => ?_) (List.pairwise_mergeSort tr tt9 l) ((dks_sorted T n).imp (fun {a b} h => by simp only [decide_eq_true_eq]; omega)) ((List.mergeSort_perm l _).trans hp)
  simp only [decide_eq_true_eq] at h1 h2
  omega
theorem keysC (mb : Option Nat) (W : World) : Calls Tryz.prog 54 #[.map mb] W fun e w' => e = .returned (.func (.func 99) #[] #[.pointer (some ⟨W.heap.size, 0, none⟩)]) ∧ w' = W.alloc (.cells #[.map mb] 101) :=
  (callsIn_wide (n := 5)).1 (AnyZI.keys_in Tryz.keysA Fence.wide 5 trivial rfl mb W)

set_option maxHeartbeats 1000000 in
theorem sortedC (m q : Nat) (D : DataW (List Nat)) (w : World) (hown : w.ownsMap Tryz.prog 3 secR m q D) (hmax : Maps.size D ≤ maxLen) (hbytes : Maps.size D * 8 ≤ 140737488355328) :
    Calls Tryz.prog 53 #[.func (.func 99) #[] #[.pointer (some ⟨w.heap.size, 0, none⟩)]] (w.alloc (.cells #[.map (some m)] 101)) fun e w' => ∃ (v : Value) (ss : List Int), e = .returned v ∧ ss.Perm (intKeys D) ∧
      w'.ownsRow (w.heap.size + 1) 3 1 v ss.length ((ss.mergeSort (fun x y => decide (x ≤ y))).map encZ) ∧ (v = .slice none 0 0 ↔ ss = []) ∧ Below (w.heap.size + 1) (w.alloc (.cells #[.map (some m)] 101)) w' := by
  have hbl := hown.lt
  have hseq : SeqGives Fence.wide 2 Tryz.prog 99 #[.pointer (some ⟨w.heap.size, 0, none⟩)] encZ (fun ss => ss.Perm (intKeys D)) (Maps.size D) (w.alloc (.cells #[.map (some m)] 101)) :=
    AnyZI.keys_gives (ρ := Tryz.keysA_ren) { Tryz.keysA with } Fence.wide _ trivial rfl (by omega) w.heap.size m q D _ (by simp) (by simp) (by
      obtain ⟨es, clock, hb, Ft, hs, hD⟩ := hown
      exact ⟨es, clock, (Below.heap_alloc _ _ m hbl).trans hb, Ft, hs, hD⟩)
  have cS := AnyZI.sorted_in Tryz.sortedA Fence.wide 5 trivial trivial trivial trivial rfl (by omega) (sortsA _) (enters_of Tryz.func98 (by kernel_rfl) rfl) 99 #[.pointer (some ⟨w.heap.size, 0, none⟩)] trivial (enters_of Tryz.func99 (by kernel_rfl) rfl) _ _ hmax hbytes _ hseq
  have := (callsIn_wide (n := 5)).1 cS
  rw [show (w.alloc (.cells #[.map (some m)] 101)).heap.size = w.heap.size + 1 from by simp] at this
  exact this

/-- numbers of one's own, in their order -/
def Is (w : World) (base : Nat) (v : Value) (xs : List Int) : Prop := w.ownsRow base 3 1 v xs.length (xs.map encZ)

set_option maxRecDepth 100000 in
set_option maxHeartbeats 800000 in
theorem dirty_ok {w : World} {b d m n q : Nat} {dur : List Nat} {T : Nat → Option (List Nat)} (h : Pt w b d m n q dur T) :
    Calls Tryz.prog 25 #[.pointer (some ⟨b, 0, none⟩)] w fun e w' => ∃ v, e = .returned v ∧ Kp (fun _ => False) w w' ∧ Is w' w.heap.size v (dks T n) := by
  have H : Hid (Calls _ _ _ w _) := state_ok h
  have c2 := h.c2
  obtain ⟨D, hown, hDD⟩ := h.mp
  obtain ⟨kf1, kf2, kf3⟩ := keys_facts hown
  have hmem : ∀ x, x ∈ intKeys D ↔ x ∈ dks T n := fun x => by
    rw [kf2, mem_dks]
    constructor
    · intro hx
      obtain ⟨i, hi, e⟩ := hDD.2.1 _ hx
      injection e with _ e
      refine ⟨i, hi, ?_, e.symm⟩
      cases hT : T i with
      | none => have := (hDD.1 i hi).1 hT; rw [e] at hx; rw [hx] at this; cases this
      | some xs => rfl
    · rintro ⟨i, hi, hs, rfl⟩
      obtain ⟨xs, hT⟩ := Option.isSome_iff_exists.1 hs
      exact ((hDD.1 i hi).2 xs hT).2.1
  have hsz : Maps.size D ≤ 8192 := by
    have h1 := nodup_le n _ kf1 (fun x hx => by obtain ⟨i, hi, _, rfl⟩ := mem_dks.1 ((hmem x).1 hx); omega)
    have := h.n2
    omega
  have HK : Hid (∀ mb W, Calls _ _ _ W _) := keysC
  have HS : Hid (Calls _ _ _ _ _) := sortedC m q D w hown (by unfold maxLen; omega) (by omega)
  have HM : Hid (∀ ss : List Int, ss.Perm (intKeys D) → ss.mergeSort (fun x y => decide (x ≤ y)) = dks T n) := fun ss hp => dks_eq (hp.nodup_iff.2 kf1) (fun x => (hp.mem_iff).trans (hmem x))
  clear h hown hDD kf1 kf2 kf3 hmem hsz
  go_enter Tryz.func25, Tryz.ntmps25
  go_wp2_with (first
    | (go_at_call 51; refine H.out.mono ?_; rintro e w' ⟨rfl, hw⟩; obtain rfl := hw.symm)
    | (go_at_call 54; refine (HK.out _ _).mono ?_; rintro e w1 ⟨rfl, rfl⟩)
    | (go_at_call 53; refine HS.out.mono ?_; rintro e w2 ⟨v, ss, rfl, hp, hrow, hnil, hb⟩))
  go_ret
  refine ⟨v, rfl, ?_, ?_⟩
  · have hz : (w.alloc (.cells #[.map (some m)] 101)).heap.size = w.heap.size + 1 := by simp
    rw [← hz] at hb
    exact ((Kp.refl _ _).alloc _).trans (Kp.of_below (S := fun _ => False) hb) (fun _ _ e => e)
  · have hl : ss.length = (dks T n).length := by rw [← HM.out ss hp, List.length_mergeSort]
    rw [HM.out ss hp, hl] at hrow
    exact ownsRow_base hrow (by omega)
end Go.Proofs.YtmooddbhcccicaaGreatDoor
