/- The small functions of an order (laid by scripts/mkuj.py). -/
import Derived.Test.YtbbgplnenbkfeaaUi
import Derived.Lib.Bytes
namespace Go.Proofs.Ytbbgplnenbkfeaa
set_option linter.unusedVariables false
set_option linter.unusedSimpArgs false
open Go.RowKit Go.Deep Go.Maps

theorem str_inj2 {xs ys : List Nat} (hx : ∀ x ∈ xs, x < 256) (hy : ∀ y ∈ ys, y < 256) (h : str xs = str ys) : xs = ys := by
  have e : (str xs).data.toList = (str ys).data.toList := by rw [h]
  simp only [str, strOfNums_data, List.map_map] at e
  have back : ∀ {l : List Nat}, (∀ x ∈ l, x < 256) → (l.map ((fun n : Int => UInt8.ofNat n.toNat) ∘ fun x : Nat => (x : Int))).map (fun u => u.toNat) = l := by
    intro l hl
    rw [List.map_map]
    conv => rhs; rw [← List.map_id l]
    refine List.map_congr_left (fun x hx => ?_)
    have := hl x hx
    simp [UInt8.toNat_ofNat', Nat.mod_eq_of_lt this]
  rw [← back hx, ← back hy, e]
theorem str_toList_ne2 {xs ys : List Nat} (hx : ∀ x ∈ xs, x < 256) (hy : ∀ y ∈ ys, y < 256) (h : xs ≠ ys) : ((str xs).toList == (str ys).toList) = false := by
  rw [beq_eq_false_iff_ne]
  intro e
  refine h (str_inj2 hx hy ?_)
  have e2 : (str xs).data.toList = (str ys).data.toList := by
    unfold str at e ⊢
    rw [Go.Lib.strOfNums_toList, Go.Lib.strOfNums_toList] at e
    exact e
  have e3 : (str xs).data = (str ys).data := Array.ext' e2
  exact ByteArray.ext e3
set_option maxRecDepth 100000 in
set_option maxHeartbeats 800000 in
theorem bytesEq2 (v1 v2 : Value) (b1 b2 : ByteArray) (w : World) (h1 : (convert 27 9 v1).run Try.prog w = .ok (.string b1) w) (h2 : (convert 27 9 v2).run Try.prog w = .ok (.string b2) w) :
    Calls Try.prog 26 #[v1, v2] w fun e w' => e = .returned (.bool (b1.toList == b2.toList)) ∧ w' = w := by
  go_enter Try.func26, Try.ntmps26
  go_wp2
  go_ret
  exact ⟨rfl, rfl⟩
theorem bytesEq_ok (x y : By) (w : World) (hx : x.ok w) (hy : y.ok w) :
    Calls Try.prog 26 #[x.v, y.v] w fun e w' => e = .returned (.bool (decide (x.xs = y.xs))) ∧ w' = w := by
  obtain ⟨⟨p, c, e1, r1⟩, n1⟩ := hx
  obtain ⟨⟨q, d, e2, r2⟩, n2⟩ := hy
  rw [e1, e2]
  refine (bytesEq2 _ _ _ _ w (convert_bytes p _ c _ w r1) (convert_bytes q _ d _ w r2)).mono fun e w' ⟨he, hw⟩ => ⟨?_, hw⟩
  rw [he]
  congr 2
  by_cases h : x.xs = y.xs
  · rw [h]; simp
  · rw [str_toList_ne2 r1.byte r2.byte h]; simp [h]

def withinP (c : Hc) (f l : Int) : Bool := decide (c.fr < l) && decide (f ≤ c.to)
def readsP (c : Hc) : Bool := c.e.kind == 2 && c.says == 1
def isTold (kd : Int) (c : Hc) : Bool := c.e.kind == kd && c.says == 1
/-- the place of the first one; -1, if there is none -/
def fidx (cs : List Hc) (P : Hc → Bool) : Int := match cs.findIdx? P with | some i => (i : Int) | none => -1

set_option maxRecDepth 100000 in
set_option maxHeartbeats 1600000 in
theorem within_ok (c : Hc) (f l : Int) (w : World) :
    Calls Try.prog 41 #[.agg (hcell c).toArray, .int .i64 f, .int .i64 l] w fun e w' => e = .returned (.bool (withinP c f l)) ∧ Kp (fun _ => False) w w' := by
  obtain ⟨xa, hxa⟩ : ∃ xa, xa = (hcell c).toArray := ⟨_, rfl⟩
  rw [← hxa]
  have kk : Kp (fun _ => False) w (w.alloc (.cells xa 65)) := (Kp.refl _ _).alloc _
  have hL := Lv.new w xa 65
  have c5 : (w.alloc (.cells xa 65)).cell? ⟨w.heap.size, 5, none⟩ = some (.int .i64 c.fr) := hL.cell (j := 5) (by rw [hxa]; rfl)
  have c6 : (w.alloc (.cells xa 65)).cell? ⟨w.heap.size, 6, none⟩ = some (.int .i64 c.to) := hL.cell (j := 6) (by rw [hxa]; rfl)
  have HK : Hid (Kp (fun _ => False) w (w.alloc (.cells xa 65))) := kk
  clear hxa kk hL
  unfold withinP
  by_cases h1 : c.fr < l
  · have h1' : decide (c.fr < l) = true := by simpa using h1
    go_enter Try.func41, Try.ntmps41
    go_wp2
    go_ret
    exact ⟨by simp [h1], HK.out⟩
  · have h1' : decide (c.fr < l) = false := by simpa using h1
    go_enter Try.func41, Try.ntmps41
    go_wp2
    go_ret
    exact ⟨by simp [h1], HK.out⟩
set_option maxRecDepth 100000 in
set_option maxHeartbeats 1600000 in
theorem readsB_ok (c : Hc) (w : World) :
    Calls Try.prog 31 #[.agg (hcell c).toArray] w fun e w' => e = .returned (.bool (readsP c)) ∧ Kp (fun _ => False) w w' := by
  obtain ⟨xa, hxa⟩ : ∃ xa, xa = (hcell c).toArray := ⟨_, rfl⟩
  rw [← hxa]
  have kk : Kp (fun _ => False) w (w.alloc (.cells xa 65)) := (Kp.refl _ _).alloc _
  have hL := Lv.new w xa 65
  have c2 : (w.alloc (.cells xa 65)).cell? ⟨w.heap.size, 2, none⟩ = some (.int .i64 c.e.kind) := hL.cell (j := 2) (by rw [hxa]; rfl)
  have c8 : (w.alloc (.cells xa 65)).cell? ⟨w.heap.size, 8, none⟩ = some (.int .i64 c.says) := hL.cell (j := 8) (by rw [hxa]; rfl)
  have HK : Hid (Kp (fun _ => False) w (w.alloc (.cells xa 65))) := kk
  clear hxa kk hL
  unfold readsP
  by_cases h1 : c.e.kind = 2
  · have h1' : (c.e.kind == 2) = true := by simpa using h1
    go_enter Try.func31, Try.ntmps31
    go_wp2
    go_ret
    exact ⟨by simp [h1], HK.out⟩
  · have h1' : (c.e.kind == 2) = false := by simpa using h1
    go_enter Try.func31, Try.ntmps31
    go_wp2
    go_ret
    exact ⟨by simp [h1], HK.out⟩
set_option maxRecDepth 100000 in
set_option maxHeartbeats 1600000 in
theorem pick1_ok (c : Hc) (g : Nat) (kd : Int) (w : World) (hg : w.cell? ⟨g, 0, none⟩ = some (.int .i64 kd)) :
    Calls Try.prog 42 #[.agg (hcell c).toArray, .pointer (some ⟨g, 0, none⟩)] w fun e w' => e = .returned (.bool (isTold kd c)) ∧ Kp (fun _ => False) w w' := by
  obtain ⟨xa, hxa⟩ : ∃ xa, xa = (hcell c).toArray := ⟨_, rfl⟩
  rw [← hxa]
  have kk : Kp (fun _ => False) w (w.alloc (.cells xa 65)) := (Kp.refl _ _).alloc _
  have hL := Lv.new w xa 65
  have c2 : (w.alloc (.cells xa 65)).cell? ⟨w.heap.size, 2, none⟩ = some (.int .i64 c.e.kind) := hL.cell (j := 2) (by rw [hxa]; rfl)
  have c8 : (w.alloc (.cells xa 65)).cell? ⟨w.heap.size, 8, none⟩ = some (.int .i64 c.says) := hL.cell (j := 8) (by rw [hxa]; rfl)
  have HK : Hid (Kp (fun _ => False) w (w.alloc (.cells xa 65))) := kk
  have cg : (w.alloc (.cells xa 65)).cell? ⟨g, 0, none⟩ = some (.int .i64 kd) := kk.cellv hg id
  clear hg
  clear hxa kk hL
  unfold isTold
  by_cases h1 : c.e.kind = kd
  · have h1' : (c.e.kind == kd) = true := by simpa using h1
    go_enter Try.func42, Try.ntmps42
    go_wp2
    go_ret
    exact ⟨by simp [h1], HK.out⟩
  · have h1' : (c.e.kind == kd) = false := by simpa using h1
    go_enter Try.func42, Try.ntmps42
    go_wp2
    go_ret
    exact ⟨by simp [h1], HK.out⟩
set_option maxRecDepth 100000 in
set_option maxHeartbeats 1600000 in
theorem right2_ok (c : Hc) (w : World) :
    Calls Try.prog 35 #[.agg (hcell c).toArray] w fun e w' => e = .returned (.bool true) ∧ Kp (fun _ => False) w w' := by
  obtain ⟨xa, hxa⟩ : ∃ xa, xa = (hcell c).toArray := ⟨_, rfl⟩
  rw [← hxa]
  have kk : Kp (fun _ => False) w (w.alloc (.cells xa 65)) := (Kp.refl _ _).alloc _
  have hL := Lv.new w xa 65
  clear hxa hL
  go_enter Try.func35, Try.ntmps35
  go_wp2
  go_ret
  exact ⟨rfl, kk⟩
/-- who may have had the effect: whoever's bytes are the ones that were read, if some were -/
def mayP (gt : Int) (px : List Nat) (c : Hc) : Bool := decide (gt < 0) || decide (c.e.b.xs = px)
set_option maxRecDepth 100000 in
set_option maxHeartbeats 1600000 in
theorem right1_ok (c : Hc) (gp pp : Nat) (gt : Int) (px : By) (w : World) (hc : c.e.b.ok w) (hp : px.ok w) (hg : w.cell? ⟨gp, 0, none⟩ = some (.int .i64 gt)) (h4 : w.cell? ⟨pp, 4, none⟩ = some px.v) :
    Calls Try.prog 34 #[.agg (hcell c).toArray, .pointer (some ⟨gp, 0, none⟩), .pointer (some ⟨pp, 0, none⟩)] w fun e w' => e = .returned (.bool (mayP gt px.xs c)) ∧ Kp (fun _ => False) w w' := by
  obtain ⟨xa, hxa⟩ : ∃ xa, xa = (hcell c).toArray := ⟨_, rfl⟩
  rw [← hxa]
  have kk : Kp (fun _ => False) w (w.alloc (.cells xa 65)) := (Kp.refl _ _).alloc _
  have hL := Lv.new w xa 65
  have cg : (w.alloc (.cells xa 65)).cell? ⟨gp, 0, none⟩ = some (.int .i64 gt) := kk.cellv hg id
  have cp : (w.alloc (.cells xa 65)).cell? ⟨pp, 4, none⟩ = some px.v := kk.cellv h4 id
  have c4 : (w.alloc (.cells xa 65)).cell? ⟨w.heap.size, 4, none⟩ = some (c.e.b.v) := hL.cell (j := 4) (by rw [hxa]; rfl)
  have HK : Hid (Kp (fun _ => False) w (w.alloc (.cells xa 65))) := kk
  have HE : Hid (Calls _ _ _ (w.alloc (.cells xa 65)) _) := bytesEq_ok c.e.b px _ (hc.keep kk) (hp.keep kk)
  clear hxa kk hL hg h4 hc hp
  unfold mayP
  obtain ⟨r, hr⟩ : ∃ r, r = decide (c.e.b.xs = px.xs) := ⟨_, rfl⟩
  rw [← hr] at HE ⊢
  clear hr
  by_cases h1 : gt < 0
  · have h1' : decide (gt < 0) = true := by simpa using h1
    go_enter Try.func34, Try.ntmps34
    go_wp2
    go_ret
    exact ⟨by simp [h1], HK.out⟩
  · have h1' : decide (gt < 0) = false := by simpa using h1
    go_enter Try.func34, Try.ntmps34
    go_wp2_with (go_at_call 26; refine HE.out.mono ?_; rintro e9 w9 ⟨rfl, hw9⟩; subst hw9)
    go_ret
    exact ⟨by rw [h1']; rfl, HK.out⟩
def mayE (kd : Int) (M : Hc → Bool) (c : Hc) : Bool := c.e.kind == kd && c.says == 0 && M c
set_option maxRecDepth 100000 in
set_option maxHeartbeats 1600000 in
theorem pick2a_ok (c : Hc) (g f : Nat) (kd : Int) (gp pp : Nat) (gt : Int) (px : By) (w : World) (hg : w.cell? ⟨g, 0, none⟩ = some (.int .i64 kd)) (hf : w.cell? ⟨f, 0, none⟩ = some (.func (.func 34) #[] #[.pointer (some ⟨gp, 0, none⟩), .pointer (some ⟨pp, 0, none⟩)])) (hc : c.e.b.ok w) (hp : px.ok w) (hgt : w.cell? ⟨gp, 0, none⟩ = some (.int .i64 gt)) (h4 : w.cell? ⟨pp, 4, none⟩ = some px.v) :
    Calls Try.prog 43 #[.agg (hcell c).toArray, .pointer (some ⟨g, 0, none⟩), .pointer (some ⟨f, 0, none⟩)] w fun e w' => e = .returned (.bool (mayE kd (mayP gt px.xs) c)) ∧ Kp (fun _ => False) w w' := by
  obtain ⟨xa, hxa⟩ : ∃ xa, xa = (hcell c).toArray := ⟨_, rfl⟩
  rw [← hxa]
  have kk : Kp (fun _ => False) w (w.alloc (.cells xa 65)) := (Kp.refl _ _).alloc _
  have hL := Lv.new w xa 65
  have c2 : (w.alloc (.cells xa 65)).cell? ⟨w.heap.size, 2, none⟩ = some (.int .i64 c.e.kind) := hL.cell (j := 2) (by rw [hxa]; rfl)
  have c8 : (w.alloc (.cells xa 65)).cell? ⟨w.heap.size, 8, none⟩ = some (.int .i64 c.says) := hL.cell (j := 8) (by rw [hxa]; rfl)
  have cg : (w.alloc (.cells xa 65)).cell? ⟨g, 0, none⟩ = some (.int .i64 kd) := kk.cellv hg id
  have cf : (w.alloc (.cells xa 65)).cell? ⟨f, 0, none⟩ = some (.func (.func 34) #[] #[.pointer (some ⟨gp, 0, none⟩), .pointer (some ⟨pp, 0, none⟩)]) := kk.cellv hf id
  have HK : Hid (Kp (fun _ => False) w (w.alloc (.cells xa 65))) := kk
  have HC : Hid (Calls _ _ _ (w.alloc (.cells xa 65)) _) := right1_ok c gp pp gt px _ (hc.keep kk) (hp.keep kk) (kk.cellv hgt id) (kk.cellv h4 id)
  rw [← hxa] at HC
  have HLb : Hid (Lv (w.alloc (.cells xa 65)) w.heap.size xa.toList) := hL
  have HXL : Hid (xa.toList.length = 10) := by show _ = _; rw [hxa]; rfl
  obtain ⟨d, hd1, hd2⟩ := dsHc
  clear hxa kk hL hg hf hc hp hgt h4
  unfold mayE
  obtain ⟨r, hr⟩ : ∃ r, r = (mayP gt px.xs) c := ⟨_, rfl⟩
  have HR : Hid (r = (mayP gt px.xs) c) := hr
  clear hr
  by_cases h1 : c.e.kind = kd
  · have h1' : (c.e.kind == kd) = true := by simpa using h1
    by_cases h2 : c.says = 0
    · have h2' : (c.says == 0) = true := by simpa using h2
      go_enter Try.func43, Try.ntmps43
      go_wp2_with (first
        | (refine wpList_ldg (by first | rfl | go_simp) 65 _ rfl w.heap.size 0 rfl xa.toList d HLb.out.r hd1 hd2 (by rw [szHc, HXL.out]) ?_; rw [Array.toArray_toList])
        | (go_at_call 34; refine HC.out.mono ?_; rintro e9 w9 ⟨rfl, k9⟩))
      go_ret
      exact ⟨by simp [h1, h2], HK.out.trans k9 (fun _ _ e => e)⟩
    · have h2' : (c.says == 0) = false := by simpa using h2
      go_enter Try.func43, Try.ntmps43
      go_wp2
      go_ret
      exact ⟨by simp [h2], HK.out⟩
  · have h1' : (c.e.kind == kd) = false := by simpa using h1
    go_enter Try.func43, Try.ntmps43
    go_wp2
    go_ret
    exact ⟨by simp [h1], HK.out⟩
set_option maxRecDepth 100000 in
set_option maxHeartbeats 1600000 in
theorem pick2b_ok (c : Hc) (g f : Nat) (kd : Int) (w : World) (hg : w.cell? ⟨g, 0, none⟩ = some (.int .i64 kd)) (hf : w.cell? ⟨f, 0, none⟩ = some (.func (.func 35) #[] #[])) :
    Calls Try.prog 43 #[.agg (hcell c).toArray, .pointer (some ⟨g, 0, none⟩), .pointer (some ⟨f, 0, none⟩)] w fun e w' => e = .returned (.bool (mayE kd ((fun _ => true)) c)) ∧ Kp (fun _ => False) w w' := by
  obtain ⟨xa, hxa⟩ : ∃ xa, xa = (hcell c).toArray := ⟨_, rfl⟩
  rw [← hxa]
  have kk : Kp (fun _ => False) w (w.alloc (.cells xa 65)) := (Kp.refl _ _).alloc _
  have hL := Lv.new w xa 65
  have c2 : (w.alloc (.cells xa 65)).cell? ⟨w.heap.size, 2, none⟩ = some (.int .i64 c.e.kind) := hL.cell (j := 2) (by rw [hxa]; rfl)
  have c8 : (w.alloc (.cells xa 65)).cell? ⟨w.heap.size, 8, none⟩ = some (.int .i64 c.says) := hL.cell (j := 8) (by rw [hxa]; rfl)
  have cg : (w.alloc (.cells xa 65)).cell? ⟨g, 0, none⟩ = some (.int .i64 kd) := kk.cellv hg id
  have cf : (w.alloc (.cells xa 65)).cell? ⟨f, 0, none⟩ = some (.func (.func 35) #[] #[]) := kk.cellv hf id
  have HK : Hid (Kp (fun _ => False) w (w.alloc (.cells xa 65))) := kk
  have HC : Hid (Calls _ _ _ (w.alloc (.cells xa 65)) _) := right2_ok c _
  rw [← hxa] at HC
  have HLb : Hid (Lv (w.alloc (.cells xa 65)) w.heap.size xa.toList) := hL
  have HXL : Hid (xa.toList.length = 10) := by show _ = _; rw [hxa]; rfl
  obtain ⟨d, hd1, hd2⟩ := dsHc
  clear hxa kk hL hg hf 
  unfold mayE
  obtain ⟨r, hr⟩ : ∃ r, r = ((fun _ => true)) c := ⟨_, rfl⟩
  have HR : Hid (r = ((fun _ => true)) c) := hr
  clear hr
  by_cases h1 : c.e.kind = kd
  · have h1' : (c.e.kind == kd) = true := by simpa using h1
    by_cases h2 : c.says = 0
    · have h2' : (c.says == 0) = true := by simpa using h2
      go_enter Try.func43, Try.ntmps43
      go_wp2_with (first
        | (refine wpList_ldg (by first | rfl | go_simp) 65 _ rfl w.heap.size 0 rfl xa.toList d HLb.out.r hd1 hd2 (by rw [szHc, HXL.out]) ?_; rw [Array.toArray_toList])
        | (go_at_call 35; refine HC.out.mono ?_; rintro e9 w9 ⟨rfl, k9⟩))
      go_ret
      exact ⟨by simp [h1, h2], HK.out.trans k9 (fun _ _ e => e)⟩
    · have h2' : (c.says == 0) = false := by simpa using h2
      go_enter Try.func43, Try.ntmps43
      go_wp2
      go_ret
      exact ⟨by simp [h2], HK.out⟩
  · have h1' : (c.e.kind == kd) = false := by simpa using h1
    go_enter Try.func43, Try.ntmps43
    go_wp2
    go_ret
    exact ⟨by simp [h1], HK.out⟩
set_option maxRecDepth 100000 in
set_option maxHeartbeats 1600000 in
theorem idxr_ok (Z : Nat → Prop) (p : Option Addr) (cap : Nat) (cs : List Hc) (w : World) (h : Fl w Z p (hflat cs)) (hok : ∀ c ∈ cs, c.ok w) (hl : Hid (cs.length ≤ 1000)) :
    Calls Try.prog 30 #[.slice p cs.length cap, .func (.func 31) #[] #[]] w fun e w' => e = .returned (.int .i64 (fidx cs (readsP))) ∧ Kp (fun _ => False) w w' := by
  obtain ⟨L, hL⟩ : ∃ L, L = cs.length := ⟨_, rfl⟩
  have HL : Hid (L = cs.length ∧ L ≤ 1000) := ⟨hL, by rw [hL]; exact hl.out⟩
  rw [← hL]
  have hL9 : (L : Int) ≤ 1000 := by have := HL.out; omega
  have HF : Hid (Fl w Z p (hflat cs)) := h
  have HC : Hid (∀ x ∈ cs, ∀ u, Kp (fun _ => False) w u → Calls Try.prog 31 _ u fun e w' => e = .returned (.bool ((readsP) x)) ∧ Kp (fun _ => False) u w') := fun x hx u ku => readsB_ok x u
  obtain ⟨P, hP⟩ : ∃ P, P = (readsP) := ⟨_, rfl⟩
  rw [← hP] at HC ⊢
  clear h hok hL hl hP 
  go_enter Try.func30, Try.ntmps30
  go_wp2
  go_loopg [8] L (fun gk i wr => ∃ k : Nat, k ≤ L ∧ gk = L - k ∧ i = .int .i64 k ∧ Hid (Kp (fun _ => False) w wr) ∧ Hid (∀ j, (hj : j < cs.length) → j < k → P cs[j] = false))
  case atStart => exact ⟨0, Nat.zero_le _, rfl, rfl, Kp.refl _ _, fun j _ hj => absurd hj (Nat.not_lt_zero _)⟩
  case round =>
    obtain ⟨k, hk, rfl, rfl, HK, HT⟩ := hrel
    by_cases hlt : (k : Int) < (L : Int)
    · have hk1 : k < cs.length := by have := HL.out; omega
      obtain ⟨b1, o1, rfl, _, r1⟩ := fl_h (HF.out.keep HK.out (fun _ _ => id)) hk1
      obtain ⟨x, hx⟩ : ∃ x, x = cs[k] := ⟨_, rfl⟩
      rw [← hx] at r1
      have HX : Hid (∃ hk : k < cs.length, x = cs[k]) := ⟨hk1, hx⟩
      have HR1 : Hid (wr.rangeAt b1 (o1 + k * 10) (hcell x)) := r1
      have HCx := HC.out x (by rw [hx]; exact List.getElem_mem hk1) wr HK.out
      have HCl : Hid (Calls _ _ _ wr _) := HCx
      obtain ⟨ok, hok⟩ : ∃ ok, ok = P x := ⟨_, rfl⟩
      have HOk : Hid (ok = P x) := hok
      rw [← hok] at HCl
      obtain ⟨xs, hxs⟩ : ∃ xs, xs = hcell x := ⟨_, rfl⟩
      rw [← hxs] at HR1 HCl
      have HXl : Hid (xs.length = 10) := by show _ = _; rw [hxs]; rfl
      have HK1 : Hid (wrap64 ((k : Int) + 1) = ((k + 1 : Nat) : Int)) := wrapK (by have := HL.out; omega)
      obtain ⟨d, hd1, hd2⟩ := dsHc
      clear r1 hx hk1 hok hxs HCx
      cases ok with
      | true =>
        have HFi : Hid (fidx cs P = (k : Int)) := by
          show _ = _
          obtain ⟨hk', hx⟩ := HX.out
          have : cs.findIdx? P = some k := by
            rw [List.findIdx?_eq_some_iff_getElem]
            exact ⟨hk', by rw [← hx]; exact HOk.out.symm, fun j hj => by rw [HT.out j (by omega) hj]; simp⟩
          unfold fidx
          rw [this]
        go_wp2_with (first
          | (refine wpList_load_mid rfl 65 _ rfl b1 (o1 + k * 10) rfl xs d HR1.out hd1 hd2 (by rw [szHc, HXl.out]) ?_)
          | (go_at_call 31; refine HCl.out.mono ?_; rintro e u4 ⟨rfl, k4⟩))
        go_ret
        exact ⟨by rw [HFi.out]; rfl, HK.out.trans k4 (fun _ _ e => e)⟩
      | false =>
        have HTn : Hid (∀ j, (hj : j < cs.length) → j < k + 1 → P cs[j] = false) := fun j hj hjk => by
          by_cases e : j = k
          · subst e
            obtain ⟨hk', hx⟩ := HX.out
            rw [← hx]; exact HOk.out.symm
          · exact HT.out j hj (by omega)
        go_wp2_with (first
          | (refine wpList_load_mid rfl 65 _ rfl b1 (o1 + k * 10) rfl xs d HR1.out hd1 hd2 (by rw [szHc, HXl.out]) ?_)
          | (go_at_call 31; refine HCl.out.mono ?_; rintro e u4 ⟨rfl, k4⟩))
        go_roundg (L - (k + 1))
        case rel => exact ⟨k + 1, by omega, rfl, by first | rw [HK1.out] | rfl | go_num, HK.out.trans k4 (fun _ _ e => e), HTn⟩
        case measure => omega
    · have HFi : Hid (fidx cs P = -1) := by
        show _ = _
        have : cs.findIdx? P = none := by
          rw [List.findIdx?_eq_none_iff]
          intro x hx
          obtain ⟨j, hj, e⟩ := List.getElem_of_mem hx
          rw [← e]
          exact HT.out j hj (by have := HL.out; omega)
        unfold fidx
        rw [this]
      go_wp2
      go_ret
      exact ⟨by rw [HFi.out]; rfl, HK.out⟩
set_option maxRecDepth 100000 in
set_option maxHeartbeats 1600000 in
theorem idx1_ok (Z : Nat → Prop) (p : Option Addr) (cap : Nat) (cs : List Hc) (g : Nat) (kd : Int) (w : World) (h : Fl w Z p (hflat cs)) (hok : ∀ c ∈ cs, c.ok w) (hl : Hid (cs.length ≤ 1000)) (hg : w.cell? ⟨g, 0, none⟩ = some (.int .i64 kd)) :
    Calls Try.prog 30 #[.slice p cs.length cap, .func (.func 42) #[] #[.pointer (some ⟨g, 0, none⟩)]] w fun e w' => e = .returned (.int .i64 (fidx cs (isTold kd))) ∧ Kp (fun _ => False) w w' := by
  obtain ⟨L, hL⟩ : ∃ L, L = cs.length := ⟨_, rfl⟩
  have HL : Hid (L = cs.length ∧ L ≤ 1000) := ⟨hL, by rw [hL]; exact hl.out⟩
  rw [← hL]
  have hL9 : (L : Int) ≤ 1000 := by have := HL.out; omega
  have HF : Hid (Fl w Z p (hflat cs)) := h
  have HC : Hid (∀ x ∈ cs, ∀ u, Kp (fun _ => False) w u → Calls Try.prog 42 _ u fun e w' => e = .returned (.bool ((isTold kd) x)) ∧ Kp (fun _ => False) u w') := fun x hx u ku => pick1_ok x g kd u (ku.cellv hg id)
  obtain ⟨P, hP⟩ : ∃ P, P = (isTold kd) := ⟨_, rfl⟩
  rw [← hP] at HC ⊢
  clear h hok hL hl hP hg
  go_enter Try.func30, Try.ntmps30
  go_wp2
  go_loopg [8] L (fun gk i wr => ∃ k : Nat, k ≤ L ∧ gk = L - k ∧ i = .int .i64 k ∧ Hid (Kp (fun _ => False) w wr) ∧ Hid (∀ j, (hj : j < cs.length) → j < k → P cs[j] = false))
  case atStart => exact ⟨0, Nat.zero_le _, rfl, rfl, Kp.refl _ _, fun j _ hj => absurd hj (Nat.not_lt_zero _)⟩
  case round =>
    obtain ⟨k, hk, rfl, rfl, HK, HT⟩ := hrel
    by_cases hlt : (k : Int) < (L : Int)
    · have hk1 : k < cs.length := by have := HL.out; omega
      obtain ⟨b1, o1, rfl, _, r1⟩ := fl_h (HF.out.keep HK.out (fun _ _ => id)) hk1
      obtain ⟨x, hx⟩ : ∃ x, x = cs[k] := ⟨_, rfl⟩
      rw [← hx] at r1
      have HX : Hid (∃ hk : k < cs.length, x = cs[k]) := ⟨hk1, hx⟩
      have HR1 : Hid (wr.rangeAt b1 (o1 + k * 10) (hcell x)) := r1
      have HCx := HC.out x (by rw [hx]; exact List.getElem_mem hk1) wr HK.out
      have HCl : Hid (Calls _ _ _ wr _) := HCx
      obtain ⟨ok, hok⟩ : ∃ ok, ok = P x := ⟨_, rfl⟩
      have HOk : Hid (ok = P x) := hok
      rw [← hok] at HCl
      obtain ⟨xs, hxs⟩ : ∃ xs, xs = hcell x := ⟨_, rfl⟩
      rw [← hxs] at HR1 HCl
      have HXl : Hid (xs.length = 10) := by show _ = _; rw [hxs]; rfl
      have HK1 : Hid (wrap64 ((k : Int) + 1) = ((k + 1 : Nat) : Int)) := wrapK (by have := HL.out; omega)
      obtain ⟨d, hd1, hd2⟩ := dsHc
      clear r1 hx hk1 hok hxs HCx
      cases ok with
      | true =>
        have HFi : Hid (fidx cs P = (k : Int)) := by
          show _ = _
          obtain ⟨hk', hx⟩ := HX.out
          have : cs.findIdx? P = some k := by
            rw [List.findIdx?_eq_some_iff_getElem]
            exact ⟨hk', by rw [← hx]; exact HOk.out.symm, fun j hj => by rw [HT.out j (by omega) hj]; simp⟩
          unfold fidx
          rw [this]
        go_wp2_with (first
          | (refine wpList_load_mid rfl 65 _ rfl b1 (o1 + k * 10) rfl xs d HR1.out hd1 hd2 (by rw [szHc, HXl.out]) ?_)
          | (go_at_call 42; refine HCl.out.mono ?_; rintro e u4 ⟨rfl, k4⟩))
        go_ret
        exact ⟨by rw [HFi.out]; rfl, HK.out.trans k4 (fun _ _ e => e)⟩
      | false =>
        have HTn : Hid (∀ j, (hj : j < cs.length) → j < k + 1 → P cs[j] = false) := fun j hj hjk => by
          by_cases e : j = k
          · subst e
            obtain ⟨hk', hx⟩ := HX.out
            rw [← hx]; exact HOk.out.symm
          · exact HT.out j hj (by omega)
        go_wp2_with (first
          | (refine wpList_load_mid rfl 65 _ rfl b1 (o1 + k * 10) rfl xs d HR1.out hd1 hd2 (by rw [szHc, HXl.out]) ?_)
          | (go_at_call 42; refine HCl.out.mono ?_; rintro e u4 ⟨rfl, k4⟩))
        go_roundg (L - (k + 1))
        case rel => exact ⟨k + 1, by omega, rfl, by first | rw [HK1.out] | rfl | go_num, HK.out.trans k4 (fun _ _ e => e), HTn⟩
        case measure => omega
    · have HFi : Hid (fidx cs P = -1) := by
        show _ = _
        have : cs.findIdx? P = none := by
          rw [List.findIdx?_eq_none_iff]
          intro x hx
          obtain ⟨j, hj, e⟩ := List.getElem_of_mem hx
          rw [← e]
          exact HT.out j hj (by have := HL.out; omega)
        unfold fidx
        rw [this]
      go_wp2
      go_ret
      exact ⟨by rw [HFi.out]; rfl, HK.out⟩
set_option maxRecDepth 100000 in
set_option maxHeartbeats 1600000 in
theorem idx2a_ok (Z : Nat → Prop) (p : Option Addr) (cap : Nat) (cs : List Hc) (g f : Nat) (kd : Int) (gp pp : Nat) (gt : Int) (px : By) (w : World) (h : Fl w Z p (hflat cs)) (hok : ∀ c ∈ cs, c.ok w) (hl : Hid (cs.length ≤ 1000)) (hg : w.cell? ⟨g, 0, none⟩ = some (.int .i64 kd)) (hf : w.cell? ⟨f, 0, none⟩ = some (.func (.func 34) #[] #[.pointer (some ⟨gp, 0, none⟩), .pointer (some ⟨pp, 0, none⟩)])) (hp : px.ok w) (hgt : w.cell? ⟨gp, 0, none⟩ = some (.int .i64 gt)) (h4 : w.cell? ⟨pp, 4, none⟩ = some px.v) :
    Calls Try.prog 30 #[.slice p cs.length cap, .func (.func 43) #[] #[.pointer (some ⟨g, 0, none⟩), .pointer (some ⟨f, 0, none⟩)]] w fun e w' => e = .returned (.int .i64 (fidx cs (mayE kd (mayP gt px.xs)))) ∧ Kp (fun _ => False) w w' := by
  obtain ⟨L, hL⟩ : ∃ L, L = cs.length := ⟨_, rfl⟩
  have HL : Hid (L = cs.length ∧ L ≤ 1000) := ⟨hL, by rw [hL]; exact hl.out⟩
  rw [← hL]
  have hL9 : (L : Int) ≤ 1000 := by have := HL.out; omega
  have HF : Hid (Fl w Z p (hflat cs)) := h
  have HC : Hid (∀ x ∈ cs, ∀ u, Kp (fun _ => False) w u → Calls Try.prog 43 _ u fun e w' => e = .returned (.bool ((mayE kd (mayP gt px.xs)) x)) ∧ Kp (fun _ => False) u w') := fun x hx u ku => pick2a_ok x g f kd gp pp gt px u (ku.cellv hg id) (ku.cellv hf id) ((hok x hx).e.b.keep ku) (hp.keep ku) (ku.cellv hgt id) (ku.cellv h4 id)
  obtain ⟨P, hP⟩ : ∃ P, P = (mayE kd (mayP gt px.xs)) := ⟨_, rfl⟩
  rw [← hP] at HC ⊢
  clear h hok hL hl hP hg hf hp hgt h4
  go_enter Try.func30, Try.ntmps30
  go_wp2
  go_loopg [8] L (fun gk i wr => ∃ k : Nat, k ≤ L ∧ gk = L - k ∧ i = .int .i64 k ∧ Hid (Kp (fun _ => False) w wr) ∧ Hid (∀ j, (hj : j < cs.length) → j < k → P cs[j] = false))
  case atStart => exact ⟨0, Nat.zero_le _, rfl, rfl, Kp.refl _ _, fun j _ hj => absurd hj (Nat.not_lt_zero _)⟩
  case round =>
    obtain ⟨k, hk, rfl, rfl, HK, HT⟩ := hrel
    by_cases hlt : (k : Int) < (L : Int)
    · have hk1 : k < cs.length := by have := HL.out; omega
      obtain ⟨b1, o1, rfl, _, r1⟩ := fl_h (HF.out.keep HK.out (fun _ _ => id)) hk1
      obtain ⟨x, hx⟩ : ∃ x, x = cs[k] := ⟨_, rfl⟩
      rw [← hx] at r1
      have HX : Hid (∃ hk : k < cs.length, x = cs[k]) := ⟨hk1, hx⟩
      have HR1 : Hid (wr.rangeAt b1 (o1 + k * 10) (hcell x)) := r1
      have HCx := HC.out x (by rw [hx]; exact List.getElem_mem hk1) wr HK.out
      have HCl : Hid (Calls _ _ _ wr _) := HCx
      obtain ⟨ok, hok⟩ : ∃ ok, ok = P x := ⟨_, rfl⟩
      have HOk : Hid (ok = P x) := hok
      rw [← hok] at HCl
      obtain ⟨xs, hxs⟩ : ∃ xs, xs = hcell x := ⟨_, rfl⟩
      rw [← hxs] at HR1 HCl
      have HXl : Hid (xs.length = 10) := by show _ = _; rw [hxs]; rfl
      have HK1 : Hid (wrap64 ((k : Int) + 1) = ((k + 1 : Nat) : Int)) := wrapK (by have := HL.out; omega)
      obtain ⟨d, hd1, hd2⟩ := dsHc
      clear r1 hx hk1 hok hxs HCx
      cases ok with
      | true =>
        have HFi : Hid (fidx cs P = (k : Int)) := by
          show _ = _
          obtain ⟨hk', hx⟩ := HX.out
          have : cs.findIdx? P = some k := by
            rw [List.findIdx?_eq_some_iff_getElem]
            exact ⟨hk', by rw [← hx]; exact HOk.out.symm, fun j hj => by rw [HT.out j (by omega) hj]; simp⟩
          unfold fidx
          rw [this]
        go_wp2_with (first
          | (refine wpList_load_mid rfl 65 _ rfl b1 (o1 + k * 10) rfl xs d HR1.out hd1 hd2 (by rw [szHc, HXl.out]) ?_)
          | (go_at_call 43; refine HCl.out.mono ?_; rintro e u4 ⟨rfl, k4⟩))
        go_ret
        exact ⟨by rw [HFi.out]; rfl, HK.out.trans k4 (fun _ _ e => e)⟩
      | false =>
        have HTn : Hid (∀ j, (hj : j < cs.length) → j < k + 1 → P cs[j] = false) := fun j hj hjk => by
          by_cases e : j = k
          · subst e
            obtain ⟨hk', hx⟩ := HX.out
            rw [← hx]; exact HOk.out.symm
          · exact HT.out j hj (by omega)
        go_wp2_with (first
          | (refine wpList_load_mid rfl 65 _ rfl b1 (o1 + k * 10) rfl xs d HR1.out hd1 hd2 (by rw [szHc, HXl.out]) ?_)
          | (go_at_call 43; refine HCl.out.mono ?_; rintro e u4 ⟨rfl, k4⟩))
        go_roundg (L - (k + 1))
        case rel => exact ⟨k + 1, by omega, rfl, by first | rw [HK1.out] | rfl | go_num, HK.out.trans k4 (fun _ _ e => e), HTn⟩
        case measure => omega
    · have HFi : Hid (fidx cs P = -1) := by
        show _ = _
        have : cs.findIdx? P = none := by
          rw [List.findIdx?_eq_none_iff]
          intro x hx
          obtain ⟨j, hj, e⟩ := List.getElem_of_mem hx
          rw [← e]
          exact HT.out j hj (by have := HL.out; omega)
        unfold fidx
        rw [this]
      go_wp2
      go_ret
      exact ⟨by rw [HFi.out]; rfl, HK.out⟩
set_option maxRecDepth 100000 in
set_option maxHeartbeats 1600000 in
theorem idx2b_ok (Z : Nat → Prop) (p : Option Addr) (cap : Nat) (cs : List Hc) (g f : Nat) (kd : Int) (w : World) (h : Fl w Z p (hflat cs)) (hok : ∀ c ∈ cs, c.ok w) (hl : Hid (cs.length ≤ 1000)) (hg : w.cell? ⟨g, 0, none⟩ = some (.int .i64 kd)) (hf : w.cell? ⟨f, 0, none⟩ = some (.func (.func 35) #[] #[])) :
    Calls Try.prog 30 #[.slice p cs.length cap, .func (.func 43) #[] #[.pointer (some ⟨g, 0, none⟩), .pointer (some ⟨f, 0, none⟩)]] w fun e w' => e = .returned (.int .i64 (fidx cs (mayE kd ((fun _ => true))))) ∧ Kp (fun _ => False) w w' := by
  obtain ⟨L, hL⟩ : ∃ L, L = cs.length := ⟨_, rfl⟩
  have HL : Hid (L = cs.length ∧ L ≤ 1000) := ⟨hL, by rw [hL]; exact hl.out⟩
  rw [← hL]
  have hL9 : (L : Int) ≤ 1000 := by have := HL.out; omega
  have HF : Hid (Fl w Z p (hflat cs)) := h
  have HC : Hid (∀ x ∈ cs, ∀ u, Kp (fun _ => False) w u → Calls Try.prog 43 _ u fun e w' => e = .returned (.bool ((mayE kd ((fun _ => true))) x)) ∧ Kp (fun _ => False) u w') := fun x hx u ku => pick2b_ok x g f kd u (ku.cellv hg id) (ku.cellv hf id)
  obtain ⟨P, hP⟩ : ∃ P, P = (mayE kd ((fun _ => true))) := ⟨_, rfl⟩
  rw [← hP] at HC ⊢
  clear h hok hL hl hP hg hf 
  go_enter Try.func30, Try.ntmps30
  go_wp2
  go_loopg [8] L (fun gk i wr => ∃ k : Nat, k ≤ L ∧ gk = L - k ∧ i = .int .i64 k ∧ Hid (Kp (fun _ => False) w wr) ∧ Hid (∀ j, (hj : j < cs.length) → j < k → P cs[j] = false))
  case atStart => exact ⟨0, Nat.zero_le _, rfl, rfl, Kp.refl _ _, fun j _ hj => absurd hj (Nat.not_lt_zero _)⟩
  case round =>
    obtain ⟨k, hk, rfl, rfl, HK, HT⟩ := hrel
    by_cases hlt : (k : Int) < (L : Int)
    · have hk1 : k < cs.length := by have := HL.out; omega
      obtain ⟨b1, o1, rfl, _, r1⟩ := fl_h (HF.out.keep HK.out (fun _ _ => id)) hk1
      obtain ⟨x, hx⟩ : ∃ x, x = cs[k] := ⟨_, rfl⟩
      rw [← hx] at r1
      have HX : Hid (∃ hk : k < cs.length, x = cs[k]) := ⟨hk1, hx⟩
      have HR1 : Hid (wr.rangeAt b1 (o1 + k * 10) (hcell x)) := r1
      have HCx := HC.out x (by rw [hx]; exact List.getElem_mem hk1) wr HK.out
      have HCl : Hid (Calls _ _ _ wr _) := HCx
      obtain ⟨ok, hok⟩ : ∃ ok, ok = P x := ⟨_, rfl⟩
      have HOk : Hid (ok = P x) := hok
      rw [← hok] at HCl
      obtain ⟨xs, hxs⟩ : ∃ xs, xs = hcell x := ⟨_, rfl⟩
      rw [← hxs] at HR1 HCl
      have HXl : Hid (xs.length = 10) := by show _ = _; rw [hxs]; rfl
      have HK1 : Hid (wrap64 ((k : Int) + 1) = ((k + 1 : Nat) : Int)) := wrapK (by have := HL.out; omega)
      obtain ⟨d, hd1, hd2⟩ := dsHc
      clear r1 hx hk1 hok hxs HCx
      cases ok with
      | true =>
        have HFi : Hid (fidx cs P = (k : Int)) := by
          show _ = _
          obtain ⟨hk', hx⟩ := HX.out
          have : cs.findIdx? P = some k := by
            rw [List.findIdx?_eq_some_iff_getElem]
            exact ⟨hk', by rw [← hx]; exact HOk.out.symm, fun j hj => by rw [HT.out j (by omega) hj]; simp⟩
          unfold fidx
          rw [this]
        go_wp2_with (first
          | (refine wpList_load_mid rfl 65 _ rfl b1 (o1 + k * 10) rfl xs d HR1.out hd1 hd2 (by rw [szHc, HXl.out]) ?_)
          | (go_at_call 43; refine HCl.out.mono ?_; rintro e u4 ⟨rfl, k4⟩))
        go_ret
        exact ⟨by rw [HFi.out]; rfl, HK.out.trans k4 (fun _ _ e => e)⟩
      | false =>
        have HTn : Hid (∀ j, (hj : j < cs.length) → j < k + 1 → P cs[j] = false) := fun j hj hjk => by
          by_cases e : j = k
          · subst e
            obtain ⟨hk', hx⟩ := HX.out
            rw [← hx]; exact HOk.out.symm
          · exact HT.out j hj (by omega)
        go_wp2_with (first
          | (refine wpList_load_mid rfl 65 _ rfl b1 (o1 + k * 10) rfl xs d HR1.out hd1 hd2 (by rw [szHc, HXl.out]) ?_)
          | (go_at_call 43; refine HCl.out.mono ?_; rintro e u4 ⟨rfl, k4⟩))
        go_roundg (L - (k + 1))
        case rel => exact ⟨k + 1, by omega, rfl, by first | rw [HK1.out] | rfl | go_num, HK.out.trans k4 (fun _ _ e => e), HTn⟩
        case measure => omega
    · have HFi : Hid (fidx cs P = -1) := by
        show _ = _
        have : cs.findIdx? P = none := by
          rw [List.findIdx?_eq_none_iff]
          intro x hx
          obtain ⟨j, hj, e⟩ := List.getElem_of_mem hx
          rw [← e]
          exact HT.out j hj (by have := HL.out; omega)
        unfold fidx
        rw [this]
      go_wp2
      go_ret
      exact ⟨by rw [HFi.out]; rfl, HK.out⟩
end Go.Proofs.Ytbbgplnenbkfeaa
