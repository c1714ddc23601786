/- Whether a key's calls are right (laid by scripts/mkuo.py). -/
import Derived.Test.YtbbgplnenbkfeaaUn
namespace Go.Proofs.Ytbbgplnenbkfeaa
set_option linter.unusedVariables false
set_option linter.unusedSimpArgs false
open Go.RowKit Go.Deep Go.Maps

/-- a call behind the journal's end, of which nobody was told anything -/
def endC (kd en : Int) (b : By) : Hc := ⟨⟨false, 0, kd, ⟨#[]⟩, b⟩, en, never, false, 0, by0⟩
/-- the bytes that were read, if some were -/
def readB (cs : List Hc) : By := if 0 ≤ fidx cs readsP then (cs.getD (fidx cs readsP).toNat hc0).g else by0
def extC (cs : List Hc) (en : Int) : List Hc := cs ++ [endC 1 en (readB cs), endC 3 en by0]
def putI (cs : List Hc) (en : Int) : Nat := (pickP (extC cs en) 1 (mayP (fidx cs readsP) (readB cs).xs)).toNat
def delI (cs : List Hc) (en : Int) : Nat := (pickP (extC cs en) 3 (fun _ => true)).toNat
def rightP (cs : List Hc) (en : Int) : Bool :=
  (List.range (extC cs en).length).all (fitsP (extC cs en) (putI cs en) (delI cs en) (writtenP (extC cs en) (putI cs en) (delI cs en)) (erasedP (extC cs en) (putI cs en) (delI cs en)))
theorem readB_ok {w : World} {cs : List Hc} (h : ∀ c ∈ cs, c.ok w) : (readB cs).ok w := by
  unfold readB
  split
  · rename_i h0
    rcases fidx_lt (cs := cs) (P := readsP) with e | e
    · have hl : (fidx cs readsP).toNat < cs.length := by omega
      have : cs.getD (fidx cs readsP).toNat hc0 ∈ cs := by rw [List.getD_eq_getElem?_getD, List.getElem?_eq_getElem hl]; exact List.getElem_mem hl
      exact (h _ this).g
    · omega
  · exact by0_ok w
theorem endC_ok {w : World} {kd en : Int} {b : By} (hb : b.ok w) (he : 0 ≤ en ∧ en ≤ 1000) : (endC kd en b).ok w := ⟨⟨hb, by dsimp [endC]; omega, by show 0 ≤ maxLen; exact Nat.zero_le _⟩, by0_ok w, he, by dsimp [endC, never]; omega⟩
theorem putI_lt (cs : List Hc) (en : Int) : putI cs en < (extC cs en).length ∧ (putI cs en : Int) = pickP (extC cs en) 1 (mayP (fidx cs readsP) (readB cs).xs) := by
  have := pickP_has (cs := extC cs en) (kd := 1) (M := mayP (fidx cs readsP) (readB cs).xs) (c := endC 1 en (readB cs)) (by unfold extC; simp) (by unfold mayE mayP endC; simp)
  unfold putI
  omega
theorem delI_lt (cs : List Hc) (en : Int) : delI cs en < (extC cs en).length ∧ (delI cs en : Int) = pickP (extC cs en) 3 (fun _ => true) := by
  have := pickP_has (cs := extC cs en) (kd := 3) (M := fun _ => true) (c := endC 3 en by0) (by unfold extC; simp) (by unfold mayE endC; simp)
  unfold delI
  omega
theorem range_all {n : Nat} {P : Nat → Bool} (h : ∀ j, j < n → P j = true) : (List.range n).all P = true := by
  rw [List.all_eq_true]
  intro j hj
  exact h j (List.mem_range.1 hj)

theorem rd_form {w0 v : World} {a : Value} {cs : List Hc} {n : Nat} (h : Rd w0 v a cs) (hn : cs.length = n + 2) : ∃ g cap, a = .slice (some ⟨g, 0, none⟩) (n + 2) cap := by
  rcases Joins.ownsRow_forms h.o with ⟨_, e2⟩ | ⟨g, ca, hav⟩
  · omega
  · exact ⟨g, ca, by rw [hav, hn]⟩

set_option maxRecDepth 100000 in
set_option maxHeartbeats 6400000 in
theorem right_ok (w0 w : World) (p : Option Addr) (cap n : Nat) (cs : List Hc) (en : Int) (hR : Rd w0 w (.slice p n cap) cs) (hn : n = cs.length) (hn9 : n ≤ 900) (hen : 0 ≤ en ∧ en ≤ 1000) :
    Calls Try.prog 21 #[.slice p n cap, .int .i64 en] w fun e w' => e = .returned (.bool (rightP cs en)) ∧ Kp (fun b => Value.ownBlock (.slice p n cap) = some b) w w' := by
  obtain ⟨p', cap', e', hfl⟩ := own_fl hR.o
  have hp' : p' = p ∧ cap' = cap := by rw [← hn] at e'; simp at e'; exact ⟨e'.1.symm, e'.2.symm⟩
  obtain ⟨rfl, rfl⟩ := hp'
  have HR : Hid (Rd w0 w (.slice p' n cap') cs) := hR
  have HN : Hid (n = cs.length ∧ n ≤ 900) := ⟨hn, hn9⟩
  have HEN : Hid (0 ≤ en ∧ en ≤ 1000) := hen
  have HI : Hid (Calls Try.prog 30 #[.slice p' n cap', .func (.func 31) #[] #[]] w fun e w' => e = .returned (.int .i64 (fidx cs readsP)) ∧ Kp (fun _ => False) w w') := by
    have := idxr_ok _ p' cap' cs w hfl (fun c hc => (hR.c c hc).keep hR.k) (by show _ ≤ _; omega)
    rw [← hn] at this
    exact this
  have HRB : Hid ((readB cs).ok w0) := readB_ok hR.c
  have hgl := fidx_lt (cs := cs) (P := readsP)
  have hgg := fidx_ge (cs := cs) (P := readsP)
  obtain ⟨gt, hgt⟩ : ∃ gt, gt = fidx cs readsP := ⟨_, rfl⟩
  have HGT : Hid (gt = fidx cs readsP) := hgt
  rw [← hgt] at HI hgl hgg
  have HP := putI_lt cs en
  have HD := delI_lt cs en
  rw [← hgt] at HP
  have HPD : Hid (_ ∧ _) := ⟨HP, HD⟩
  have HGB : Hid ((gt < (cs.length : Int) ∨ gt = -1) ∧ (0 ≤ gt ∨ gt = -1)) := ⟨hgl, hgg⟩
  clear HP HD hR e' hfl hen hgt hgl hgg hn hn9
  obtain ⟨res, hres⟩ : ∃ r, r = rightP cs en := ⟨_, rfl⟩
  have HRes : Hid (res = rightP cs en) := hres
  rw [← hres]
  clear hres
  obtain ⟨rb, hrb⟩ : ∃ rb, rb = readB cs := ⟨_, rfl⟩
  have HRBe : Hid (rb = readB cs) := hrb
  have HRBo : Hid (rb.ok w0) := by rw [hrb]; exact HRB.out
  rcases HGB.out.2 with hg0 | hg0
  · -- some bytes were read
    obtain ⟨gi, hgi⟩ : ∃ gi : Nat, gt = (gi : Int) := ⟨gt.toNat, by omega⟩
    have hgn : gi < cs.length := by have := HGB.out.1; omega
    subst hgi
    obtain ⟨gc, hgc⟩ : ∃ gc, gc = cs.getD gi hc0 := ⟨_, rfl⟩
    have hcg : cs[gi]? = some gc := by rw [hgc, List.getD_eq_getElem?_getD, List.getElem?_eq_getElem hgn]; rfl
    have hrb2 : rb = gc.g := by
      rw [hrb, hgc]
      unfold readB
      rw [← HGT.out, if_pos (by omega), Int.toNat_natCast]
    obtain ⟨⟨pb, cb, hbv, _⟩, _⟩ := HRBo.out
    rcases Joins.ownsRow_forms HR.out.o with ⟨_, e2⟩ | ⟨g, ca, hav⟩
    · omega
    have hp2 : p' = some ⟨g, 0, none⟩ := by cases hav; rfl
    subst hp2
    have HRo : Hid (w.ownsRow w0.heap.size 65 10 (.slice (some ⟨g, 0, none⟩) n cap') n (hflat cs)) := by have := HR.out.o; rw [← HN.out.1] at this; exact this
    obtain ⟨nb, hnb⟩ : ∃ nb, nb = rb.xs.length := ⟨_, rfl⟩
    rw [← hnb] at hbv
    have HGv : Hid (∀ u, Kp (fun _ => False) w u → u.cell? ⟨g, gi * 10 + 9, none⟩ = some (.slice pb nb cb)) := fun u ku => by
      have := own_cl (ownsRow_keep HRo.out ku (fun _ _ => id)) (hflat_get cs gi 9 gc gc.g.v hcg rfl)
      rw [← hrb2, hbv] at this
      exact this
    have HBV : Hid (rb.v = .slice pb nb cb) := hbv
    have hg9 : (gi : Int) < (n : Int) := by have := HN.out; omega
    clear hgn hgc hcg hrb hrb2 hav hg0 hnb hbv
    go_enter Try.func21, Try.ntmps21
    go_wp2_with fail
    refine HI.out.mono ?_
    rintro e9 w1 ⟨rfl, k1⟩
    have HK1 : Hid (Kp (fun _ => False) w w1) := k1
    have cv : ((w1.alloc (.cells #[.int .i64 (gi : Int)] 3)).alloc (.cells #[.bool false, .int .i64 0, .int .i64 1, .string ⟨#[]⟩, .slice none 0 0, .int .i64 en, .int .i64 9223372036854775807, .bool false, .int .i64 0, .slice none 0 0] 65)).cell? ⟨g, gi * 10 + 9, none⟩ = some (.slice pb nb cb) := HGv.out _ ((k1.alloc _).alloc _)
    clear HI k1
    have hV : ((w1.alloc (.cells #[.int .i64 (gi : Int)] 3)).alloc (.cells #[.bool false, .int .i64 0, .int .i64 1, .string ⟨#[]⟩, .slice pb nb cb, .int .i64 en, .int .i64 9223372036854775807, .bool false, .int .i64 0, .slice none 0 0] 65)).heap.size = w1.heap.size + 1 + 1 := by simp
    have HVK : Hid (Kp (fun _ => False) w1 ((w1.alloc (.cells #[.int .i64 (gi : Int)] 3)).alloc (.cells #[.bool false, .int .i64 0, .int .i64 1, .string ⟨#[]⟩, .slice pb nb cb, .int .i64 en, .int .i64 9223372036854775807, .bool false, .int .i64 0, .slice none 0 0] 65))) := ((Kp.refl _ _).alloc _).alloc _
    have HLg : Hid (Lv ((w1.alloc (.cells #[.int .i64 (gi : Int)] 3)).alloc (.cells #[.bool false, .int .i64 0, .int .i64 1, .string ⟨#[]⟩, .slice pb nb cb, .int .i64 en, .int .i64 9223372036854775807, .bool false, .int .i64 0, .slice none 0 0] 65)) w1.heap.size [.int .i64 (gi : Int)]) := (Lv.new w1 _ _).keep ((Kp.refl (fun _ => False) _).alloc _) id
    have HLp : Hid (Lv ((w1.alloc (.cells #[.int .i64 (gi : Int)] 3)).alloc (.cells #[.bool false, .int .i64 0, .int .i64 1, .string ⟨#[]⟩, .slice pb nb cb, .int .i64 en, .int .i64 9223372036854775807, .bool false, .int .i64 0, .slice none 0 0] 65)) (w1.heap.size + 1) (hcell (endC 1 en rb))) := by
      have z1 : (w1.alloc (.cells #[.int .i64 (gi : Int)] 3)).heap.size = w1.heap.size + 1 := by simp
      show Lv _ _ _
      rw [← z1]
      have := Lv.new (w1.alloc (.cells #[.int .i64 (gi : Int)] 3)) #[.bool false, .int .i64 0, .int .i64 1, .string ⟨#[]⟩, .slice pb nb cb, .int .i64 en, .int .i64 9223372036854775807, .bool false, .int .i64 0, .slice none 0 0] 65
      have e : hcell (endC 1 en rb) = #[.bool false, .int .i64 0, .int .i64 1, .string ⟨#[]⟩, .slice pb nb cb, .int .i64 en, .int .i64 9223372036854775807, .bool false, .int .i64 0, .slice none 0 0].toList := by show [_, _, _, _, rb.v, _, _, _, _, _] = _; rw [HBV.out]; rfl
      rw [e]
      exact this
    have HRd : Hid (Rd w0 ((w1.alloc (.cells #[.int .i64 (gi : Int)] 3)).alloc (.cells #[.bool false, .int .i64 0, .int .i64 1, .string ⟨#[]⟩, .slice pb nb cb, .int .i64 en, .int .i64 9223372036854775807, .bool false, .int .i64 0, .slice none 0 0] 65)) (.slice (some ⟨g, 0, none⟩) n cap') cs) := (HR.out.keep HK1.out).keep HVK.out
    have HEx : Hid (cs ++ [endC 1 en rb, endC 3 en by0] = extC cs en) := by show _ = _; unfold extC; rw [← HRBe.out]
    have HOw : Hid (∀ b, Value.ownBlock (.slice (some ⟨g, 0, none⟩) n cap') = some b → w0.heap.size ≤ b ∧ b < w.heap.size) := fun b e => ownBlock_lt HR.out.o e
    have HSz : Hid (w.heap.size ≤ w1.heap.size) := HK1.out.size
    have hcl : hcell (endC 1 en rb) = [.bool false, .int .i64 0, .int .i64 1, .string ⟨#[]⟩, .slice pb nb cb, .int .i64 en, .int .i64 9223372036854775807, .bool false, .int .i64 0, .slice none 0 0] := by show [_, _, _, _, rb.v, _, _, _, _, _] = _; rw [HBV.out]; rfl
    have happ : ∀ {ops : Array Oper} {rest : List Oper} {op : Oper} {a : Act} {Q : Exit → Act → World → Prop} (hgd : op.guard = none) (o1 o2 : Operand) (ho : op.op = .call { callee := .builtin .append, args := #[o1, o2], argTypes := #[41, 41] }) (h1 : a.eval o1 = .slice (some ⟨g, 0, none⟩) n cap') (h2 : a.eval o2 = .slice (some ⟨w1.heap.size + 1 + 1, 0, none⟩) 2 2)
        (hK : ∀ (g2 cap2 : Nat) (w4 : World), Rd w0 w4 (.slice (some ⟨g2, 0, none⟩) (n + 2) cap2) (extC cs en) → Kp (fun b => Value.ownBlock (.slice (some ⟨g, 0, none⟩) n cap') = some b) ((w1.alloc (.cells #[.int .i64 (gi : Int)] 3)).alloc (.cells #[.bool false, .int .i64 0, .int .i64 1, .string ⟨#[]⟩, .slice pb nb cb, .int .i64 en, .int .i64 9223372036854775807, .bool false, .int .i64 0, .slice none 0 0] 65)) w4 → wpList Try.prog ops Q rest (a.put op.dst (.slice (some ⟨g2, 0, none⟩) (n + 2) cap2)) w4),
        wpList Try.prog ops Q (op :: rest) a (((w1.alloc (.cells #[.int .i64 (gi : Int)] 3)).alloc (.cells #[.bool false, .int .i64 0, .int .i64 1, .string ⟨#[]⟩, .slice pb nb cb, .int .i64 en, .int .i64 9223372036854775807, .bool false, .int .i64 0, .slice none 0 0] 65)).alloc (.cells #[.bool false, .int .i64 0, .int .i64 1, .string ⟨#[]⟩, .slice pb nb cb, .int .i64 en, .int .i64 9223372036854775807, .bool false, .int .i64 0, .slice none 0 0, .bool false, .int .i64 0, .int .i64 3, .string ⟨#[]⟩, .slice none 0 0, .int .i64 en, .int .i64 9223372036854775807, .bool false, .int .i64 0, .slice none 0 0] 65)) := fun hgd o1 o2 ho h1 h2 hK => by
      have := wpList_app_h2 (w0 := w0) (v := ((w1.alloc (.cells #[.int .i64 (gi : Int)] 3)).alloc (.cells #[.bool false, .int .i64 0, .int .i64 1, .string ⟨#[]⟩, .slice pb nb cb, .int .i64 en, .int .i64 9223372036854775807, .bool false, .int .i64 0, .slice none 0 0] 65))) (cs := cs) HRd.out (endC 1 en rb) (endC 3 en by0) (endC_ok HRBo.out HEN.out) (endC_ok (by0_ok w0) HEN.out) (by have := HN.out; omega) hgd o1 o2 ho h1 (by rw [hV]; exact h2) (fun a2 w4 hr4 k4 hb4 => by
        rw [HEx.out] at hr4
        obtain ⟨g2, cap2, ha2⟩ := rd_form hr4 (n := n) (by unfold extC; rw [List.length_append, ← HN.out.1]; rfl)
        subst ha2
        exact hK g2 cap2 w4 hr4 k4)
      rw [hcl] at this
      exact this
    have HAp : Hid (∀ {ops : Array Oper} {rest : List Oper} {op : Oper} {a : Act} {Q : Exit → Act → World → Prop} (hgd : op.guard = none) (o1 o2 : Operand) (ho : op.op = .call { callee := .builtin .append, args := #[o1, o2], argTypes := #[41, 41] }) (h1 : a.eval o1 = .slice (some ⟨g, 0, none⟩) n cap') (h2 : a.eval o2 = .slice (some ⟨w1.heap.size + 1 + 1, 0, none⟩) 2 2)
        (hK : ∀ (g2 cap2 : Nat) (w4 : World), Rd w0 w4 (.slice (some ⟨g2, 0, none⟩) (n + 2) cap2) (extC cs en) → Kp (fun b => Value.ownBlock (.slice (some ⟨g, 0, none⟩) n cap') = some b) ((w1.alloc (.cells #[.int .i64 (gi : Int)] 3)).alloc (.cells #[.bool false, .int .i64 0, .int .i64 1, .string ⟨#[]⟩, .slice pb nb cb, .int .i64 en, .int .i64 9223372036854775807, .bool false, .int .i64 0, .slice none 0 0] 65)) w4 → wpList Try.prog ops Q rest (a.put op.dst (.slice (some ⟨g2, 0, none⟩) (n + 2) cap2)) w4),
        wpList Try.prog ops Q (op :: rest) a (((w1.alloc (.cells #[.int .i64 (gi : Int)] 3)).alloc (.cells #[.bool false, .int .i64 0, .int .i64 1, .string ⟨#[]⟩, .slice pb nb cb, .int .i64 en, .int .i64 9223372036854775807, .bool false, .int .i64 0, .slice none 0 0] 65)).alloc (.cells #[.bool false, .int .i64 0, .int .i64 1, .string ⟨#[]⟩, .slice pb nb cb, .int .i64 en, .int .i64 9223372036854775807, .bool false, .int .i64 0, .slice none 0 0, .bool false, .int .i64 0, .int .i64 3, .string ⟨#[]⟩, .slice none 0 0, .int .i64 en, .int .i64 9223372036854775807, .bool false, .int .i64 0, .slice none 0 0] 65))) := happ
    clear hV hcl happ
    go_wp2_with (at_builtin; refine HAp.out rfl _ _ rfl rfl rfl ?_; intro g2 cap2 w4 hr4 k4; have HR4 : Hid (Rd w0 w4 (.slice (some ⟨g2, 0, none⟩) (n + 2) cap2) (extC cs en)) := hr4; have HK4 : Hid (Kp (fun b => Value.ownBlock (.slice (some ⟨g, 0, none⟩) n cap') = some b) ((w1.alloc (.cells #[.int .i64 (gi : Int)] 3)).alloc (.cells #[.bool false, .int .i64 0, .int .i64 1, .string ⟨#[]⟩, .slice pb nb cb, .int .i64 en, .int .i64 9223372036854775807, .bool false, .int .i64 0, .slice none 0 0] 65)) w4) := k4; clear hr4 k4)
    have HLn : Hid ((extC cs en).length = n + 2 ∧ n + 2 ≤ 1000) := ⟨by unfold extC; rw [List.length_append, ← HN.out.1]; rfl, by have := HN.out; omega⟩
    have HF4 : Hid (Fl w4 (fun b => w0.heap.size ≤ b ∧ b < w4.heap.size) (some ⟨g2, 0, none⟩) (hflat (extC cs en))) := by
      obtain ⟨q, c, e, hf⟩ := own_fl HR4.out.o
      rw [HLn.out.1] at e
      cases e
      exact hf
    have HC4 : Hid (∀ c ∈ extC cs en, c.ok w4) := fun c hc => (HR4.out.c c hc).keep HR4.out.k
    have HLg4 : Hid (Lv w4 w1.heap.size [.int .i64 (gi : Int)]) := HLg.out.keep HK4.out (fun e => by have := (HOw.out _ e).2; have := HSz.out; omega)
    have HLp4 : Hid (Lv w4 (w1.heap.size + 1) (hcell (endC 1 en rb))) := HLp.out.keep HK4.out (fun e => by have := (HOw.out _ e).2; have := HSz.out; omega)
    have HPa := picka_ok _ (some ⟨g2, 0, none⟩) cap2 (extC cs en) 1 w1.heap.size (w1.heap.size + 1) (gi : Int) rb w4 HF4.out HC4.out (by show _ ≤ _; rw [HLn.out.1]; exact HLn.out.2) (HRBo.out.keep HR4.out.k) (HLg4.out.cell (j := 0) rfl) (HLp4.out.cell (j := 4) rfl)
    have HPb := fun u (ku : Kp (fun _ => False) w4 u) => pickb_ok _ (some ⟨g2, 0, none⟩) cap2 (extC cs en) 3 u (HF4.out.keep ku (fun _ _ => id)) (fun c hc => (HC4.out c hc).keep ku) (by show _ ≤ _; rw [HLn.out.1]; exact HLn.out.2)
    have hpd := HPD.out
    rw [← HRBe.out] at hpd
    rw [← hpd.1.2] at HPa
    have HPb2 : ∀ u, Kp (fun _ => False) w4 u → _ := fun u ku => by have := HPb u ku; rw [← hpd.2.2] at this; exact this
    rw [HLn.out.1] at HPa hpd
    have HPb3 : ∀ u, Kp (fun _ => False) w4 u → Calls Try.prog 33 #[.slice (some ⟨g2, 0, none⟩) (n + 2) cap2, .int .i64 3, .func (.func 35) #[] #[]] u fun e w' => e = .returned (.int .i64 ((delI cs en : Nat) : Int)) ∧ Kp (fun _ => False) u w' := fun u ku => by have := HPb2 u ku; rw [HLn.out.1] at this; exact this
    have HOr := fun u (ku : Kp (fun _ => False) w4 u) => order_ok _ g2 0 (n + 2) cap2 (extC cs en) u (HF4.out.keep ku (fun _ _ => id)) (fun c hc => (HC4.out c hc).keep ku) HLn.out.1 HLn.out.2 (putI cs en) (delI cs en) hpd.1.1 hpd.2.1
    have HO1 := fun bc bp bw be br u (ku : Kp (fun _ => False) w4 u) h1 h2 h3 h4 h5 i (hi : i < n + 2) => order1_ok _ g2 0 (n + 2) cap2 (extC cs en) u (HF4.out.keep ku (fun _ _ => id)) (fun c hc => (HC4.out c hc).keep ku) HLn.out.1 bc bp bw be br (putI cs en) (delI cs en) (writtenP (extC cs en) (putI cs en) (delI cs en)) (erasedP (extC cs en) (putI cs en) (delI cs en)) h1 h2 h3 h4 h5 i hi hpd.1.1
    have HRP : Hid (res = (List.range (n + 2)).all (fitsP (extC cs en) (putI cs en) (delI cs en) (writtenP (extC cs en) (putI cs en) (delI cs en)) (erasedP (extC cs en) (putI cs en) (delI cs en)))) := by
      show _ = _
      rw [HRes.out]
      unfold rightP
      rw [HLn.out.1]
    obtain ⟨pt, hpt⟩ : ∃ x, x = putI cs en := ⟨_, rfl⟩
    obtain ⟨er, her⟩ : ∃ x, x = delI cs en := ⟨_, rfl⟩
    rw [← hpt] at HPa HOr HO1 HRP
    rw [← her] at HPb3 HOr HO1 HRP
    obtain ⟨wt, hwt⟩ : ∃ x, x = writtenP (extC cs en) pt er := ⟨_, rfl⟩
    obtain ⟨et, het⟩ : ∃ x, x = erasedP (extC cs en) pt er := ⟨_, rfl⟩
    rw [← hwt, ← het] at HOr HO1 HRP
    obtain ⟨ft, hft⟩ : ∃ x, x = fitsP (extC cs en) pt er wt et := ⟨_, rfl⟩
    rw [← hft] at HO1 HRP
    have H1 : Hid (Calls _ _ _ w4 _) := HPa
    have H2 : Hid (∀ u, Kp (fun _ => False) w4 u → Calls _ _ _ u _) := HPb3
    have H3 : Hid (∀ u, Kp (fun _ => False) w4 u → Calls _ _ _ u _) := HOr
    have H4 : Hid (∀ bc bp bw be br u, Kp (fun _ => False) w4 u → _) := HO1
    have HKw : Hid (Kp (fun b => Value.ownBlock (.slice (some ⟨g, 0, none⟩) n cap') = some b) w w4) := ((HK1.out.trans HVK.out (fun _ _ e => e)).mono (fun _ _ e => e.elim)).trans HK4.out (fun _ _ e => e)
    clear HPa HPb HPb2 HPb3 HOr HO1 hpd hpt her hwt het hft HPD HRB HGT HGB HLg HLp HLg4 HLp4 HRd HEx HAp
    refine H1.out.mono ?_
    rintro e5 w5 ⟨rfl, k5⟩
    have HK5 : Hid (Kp (fun _ => False) w4 w5) := k5
    clear H1 k5
    go_wp2_with fail
    refine (H2.out _ HK5.out).mono ?_
    rintro e6 w6 ⟨rfl, k6⟩
    have HK6 : Hid (Kp (fun _ => False) w4 w6) := HK5.out.trans k6 (fun _ _ e => e)
    clear H2 k6 HK5
    go_wp2_with fail
    refine (H3.out _ HK6.out).mono ?_
    rintro e7 w7 ⟨bc, bp, bw, be, br, rfl, k7, q1, q2, q3, q4, q5⟩
    have HK7 : Hid (Kp (fun _ => False) w4 w7) := HK6.out.trans k7 (fun _ _ e => e)
    have HFt : Hid (∀ u, Kp (fun _ => False) w7 u → ∀ i, i < n + 2 → Calls Try.prog 40 #[.int .i64 (i : Int), .pointer (some ⟨bc, 0, none⟩), .pointer (some ⟨bp, 0, none⟩), .pointer (some ⟨bw, 0, none⟩), .pointer (some ⟨be, 0, none⟩), .pointer (some ⟨br, 0, none⟩)] u fun e w' => e = .returned (.bool (ft i)) ∧ Kp (fun _ => False) u w') := fun u ku i hi => H4.out bc bp bw be br u (HK7.out.trans ku (fun _ _ e => e)) (ku.cellv q1 id) (ku.cellv q2 id) (ku.cellv q3 id) (ku.cellv q4 id) (ku.cellv q5 id) i hi
    clear H3 H4 k7 HK6 q1 q2 q3 q4 q5
    obtain ⟨N, hN⟩ : ∃ N, N = n + 2 := ⟨_, rfl⟩
    rw [← hN] at HFt HRP ⊢
    have HN2 : Hid (N ≤ 1000) := by show _ ≤ _; have := HLn.out.2; omega
    have hN9 : (N : Int) ≤ 1000 := by have := HN2.out; omega
    clear hN
    go_wp2
    go_loopg [39] N (fun gk i wr => ∃ k : Nat, k ≤ N ∧ gk = N - k ∧ i = .int .i64 k ∧ Hid (Kp (fun _ => False) w7 wr) ∧ Hid (∀ j, j < k → ft j = true))
    case atStart => exact ⟨0, Nat.zero_le _, rfl, rfl, Kp.refl _ _, fun j hj => absurd hj (Nat.not_lt_zero _)⟩
    case round =>
      obtain ⟨k, hk, rfl, rfl, HK, HT⟩ := hrel
      by_cases hlt : (k : Int) < (N : Int)
      · have HCk : Hid (Calls _ _ _ wr _) := HFt.out wr HK.out k (by omega)
        have HK1' : Hid (wrap64 ((k : Int) + 1) = ((k + 1 : Nat) : Int)) := wrapK (by have := HN2.out; omega)
        obtain ⟨r, hr⟩ : ∃ r, r = ft k := ⟨_, rfl⟩
        have HRk : Hid (r = ft k) := hr
        rw [← hr] at HCk
        clear hr
        cases r with
        | true =>
          go_wp2_with (go_at_call 40; refine HCk.out.mono ?_; rintro e u4 ⟨rfl, k4⟩)
          go_roundg (N - (k + 1))
          case rel => exact ⟨k + 1, by omega, rfl, by first | rw [HK1'.out] | rfl | go_num, HK.out.trans k4 (fun _ _ e => e), fun j hj => by by_cases e : j = k; (subst e; exact HRk.out.symm); exact HT.out j (by omega)⟩
          case measure => omega
        | false =>
          go_wp2_with (go_at_call 40; refine HCk.out.mono ?_; rintro e u4 ⟨rfl, k4⟩)
          go_ret
          have hf : res = false := by
            rw [HRP.out]
            rw [List.all_eq_false]
            exact ⟨k, List.mem_range.2 (by omega), by rw [← HRk.out]; decide⟩
          exact ⟨by rw [hf]; rfl, (HKw.out.trans ((HK7.out.trans HK.out (fun _ _ e => e)).trans k4 (fun _ _ e => e)) (fun _ _ e => e.elim))⟩
      · go_wp2
        go_ret
        have hf : res = true := by
          rw [HRP.out]
          exact range_all (fun j hj => HT.out j (by omega))
        exact ⟨by rw [hf]; rfl, (HKw.out.trans (HK7.out.trans HK.out (fun _ _ e => e)) (fun _ _ e => e.elim))⟩
  · -- none were
    have hrb2 : rb = by0 := by
      rw [hrb]
      unfold readB
      rw [← HGT.out, if_neg (by omega)]
    subst hg0
    have HBV : Hid (rb.v = .slice none 0 0) := by rw [hrb2]; rfl
    clear hrb hrb2
    go_enter Try.func21, Try.ntmps21
    go_wp2_with fail
    refine HI.out.mono ?_
    rintro e9 w1 ⟨rfl, k1⟩
    have HK1 : Hid (Kp (fun _ => False) w w1) := k1
    clear HI k1
    have hV : ((w1.alloc (.cells #[.int .i64 (-1)] 3)).alloc (.cells #[.bool false, .int .i64 0, .int .i64 1, .string ⟨#[]⟩, .slice none 0 0, .int .i64 en, .int .i64 9223372036854775807, .bool false, .int .i64 0, .slice none 0 0] 65)).heap.size = w1.heap.size + 1 + 1 := by simp
    have HVK : Hid (Kp (fun _ => False) w1 ((w1.alloc (.cells #[.int .i64 (-1)] 3)).alloc (.cells #[.bool false, .int .i64 0, .int .i64 1, .string ⟨#[]⟩, .slice none 0 0, .int .i64 en, .int .i64 9223372036854775807, .bool false, .int .i64 0, .slice none 0 0] 65))) := ((Kp.refl _ _).alloc _).alloc _
    have HLg : Hid (Lv ((w1.alloc (.cells #[.int .i64 (-1)] 3)).alloc (.cells #[.bool false, .int .i64 0, .int .i64 1, .string ⟨#[]⟩, .slice none 0 0, .int .i64 en, .int .i64 9223372036854775807, .bool false, .int .i64 0, .slice none 0 0] 65)) w1.heap.size [.int .i64 (-1)]) := (Lv.new w1 _ _).keep ((Kp.refl (fun _ => False) _).alloc _) id
    have HLp : Hid (Lv ((w1.alloc (.cells #[.int .i64 (-1)] 3)).alloc (.cells #[.bool false, .int .i64 0, .int .i64 1, .string ⟨#[]⟩, .slice none 0 0, .int .i64 en, .int .i64 9223372036854775807, .bool false, .int .i64 0, .slice none 0 0] 65)) (w1.heap.size + 1) (hcell (endC 1 en rb))) := by
      have z1 : (w1.alloc (.cells #[.int .i64 (-1)] 3)).heap.size = w1.heap.size + 1 := by simp
      show Lv _ _ _
      rw [← z1]
      have := Lv.new (w1.alloc (.cells #[.int .i64 (-1)] 3)) #[.bool false, .int .i64 0, .int .i64 1, .string ⟨#[]⟩, .slice none 0 0, .int .i64 en, .int .i64 9223372036854775807, .bool false, .int .i64 0, .slice none 0 0] 65
      have e : hcell (endC 1 en rb) = #[.bool false, .int .i64 0, .int .i64 1, .string ⟨#[]⟩, .slice none 0 0, .int .i64 en, .int .i64 9223372036854775807, .bool false, .int .i64 0, .slice none 0 0].toList := by show [_, _, _, _, rb.v, _, _, _, _, _] = _; rw [HBV.out]; rfl
      rw [e]
      exact this
    have HRd : Hid (Rd w0 ((w1.alloc (.cells #[.int .i64 (-1)] 3)).alloc (.cells #[.bool false, .int .i64 0, .int .i64 1, .string ⟨#[]⟩, .slice none 0 0, .int .i64 en, .int .i64 9223372036854775807, .bool false, .int .i64 0, .slice none 0 0] 65)) (.slice p' n cap') cs) := (HR.out.keep HK1.out).keep HVK.out
    have HEx : Hid (cs ++ [endC 1 en rb, endC 3 en by0] = extC cs en) := by show _ = _; unfold extC; rw [← HRBe.out]
    have HOw : Hid (∀ b, Value.ownBlock (.slice p' n cap') = some b → w0.heap.size ≤ b ∧ b < w.heap.size) := fun b e => ownBlock_lt HR.out.o e
    have HSz : Hid (w.heap.size ≤ w1.heap.size) := HK1.out.size
    have hcl : hcell (endC 1 en rb) = [.bool false, .int .i64 0, .int .i64 1, .string ⟨#[]⟩, .slice none 0 0, .int .i64 en, .int .i64 9223372036854775807, .bool false, .int .i64 0, .slice none 0 0] := by show [_, _, _, _, rb.v, _, _, _, _, _] = _; rw [HBV.out]; rfl
    have happ : ∀ {ops : Array Oper} {rest : List Oper} {op : Oper} {a : Act} {Q : Exit → Act → World → Prop} (hgd : op.guard = none) (o1 o2 : Operand) (ho : op.op = .call { callee := .builtin .append, args := #[o1, o2], argTypes := #[41, 41] }) (h1 : a.eval o1 = .slice p' n cap') (h2 : a.eval o2 = .slice (some ⟨w1.heap.size + 1 + 1, 0, none⟩) 2 2)
        (hK : ∀ (g2 cap2 : Nat) (w4 : World), Rd w0 w4 (.slice (some ⟨g2, 0, none⟩) (n + 2) cap2) (extC cs en) → Kp (fun b => Value.ownBlock (.slice p' n cap') = some b) ((w1.alloc (.cells #[.int .i64 (-1)] 3)).alloc (.cells #[.bool false, .int .i64 0, .int .i64 1, .string ⟨#[]⟩, .slice none 0 0, .int .i64 en, .int .i64 9223372036854775807, .bool false, .int .i64 0, .slice none 0 0] 65)) w4 → wpList Try.prog ops Q rest (a.put op.dst (.slice (some ⟨g2, 0, none⟩) (n + 2) cap2)) w4),
        wpList Try.prog ops Q (op :: rest) a (((w1.alloc (.cells #[.int .i64 (-1)] 3)).alloc (.cells #[.bool false, .int .i64 0, .int .i64 1, .string ⟨#[]⟩, .slice none 0 0, .int .i64 en, .int .i64 9223372036854775807, .bool false, .int .i64 0, .slice none 0 0] 65)).alloc (.cells #[.bool false, .int .i64 0, .int .i64 1, .string ⟨#[]⟩, .slice none 0 0, .int .i64 en, .int .i64 9223372036854775807, .bool false, .int .i64 0, .slice none 0 0, .bool false, .int .i64 0, .int .i64 3, .string ⟨#[]⟩, .slice none 0 0, .int .i64 en, .int .i64 9223372036854775807, .bool false, .int .i64 0, .slice none 0 0] 65)) := fun hgd o1 o2 ho h1 h2 hK => by
      have := wpList_app_h2 (w0 := w0) (v := ((w1.alloc (.cells #[.int .i64 (-1)] 3)).alloc (.cells #[.bool false, .int .i64 0, .int .i64 1, .string ⟨#[]⟩, .slice none 0 0, .int .i64 en, .int .i64 9223372036854775807, .bool false, .int .i64 0, .slice none 0 0] 65))) (cs := cs) HRd.out (endC 1 en rb) (endC 3 en by0) (endC_ok HRBo.out HEN.out) (endC_ok (by0_ok w0) HEN.out) (by have := HN.out; omega) hgd o1 o2 ho h1 (by rw [hV]; exact h2) (fun a2 w4 hr4 k4 hb4 => by
        rw [HEx.out] at hr4
        obtain ⟨g2, cap2, ha2⟩ := rd_form hr4 (n := n) (by unfold extC; rw [List.length_append, ← HN.out.1]; rfl)
        subst ha2
        exact hK g2 cap2 w4 hr4 k4)
      rw [hcl] at this
      exact this
    have HAp : Hid (∀ {ops : Array Oper} {rest : List Oper} {op : Oper} {a : Act} {Q : Exit → Act → World → Prop} (hgd : op.guard = none) (o1 o2 : Operand) (ho : op.op = .call { callee := .builtin .append, args := #[o1, o2], argTypes := #[41, 41] }) (h1 : a.eval o1 = .slice p' n cap') (h2 : a.eval o2 = .slice (some ⟨w1.heap.size + 1 + 1, 0, none⟩) 2 2)
        (hK : ∀ (g2 cap2 : Nat) (w4 : World), Rd w0 w4 (.slice (some ⟨g2, 0, none⟩) (n + 2) cap2) (extC cs en) → Kp (fun b => Value.ownBlock (.slice p' n cap') = some b) ((w1.alloc (.cells #[.int .i64 (-1)] 3)).alloc (.cells #[.bool false, .int .i64 0, .int .i64 1, .string ⟨#[]⟩, .slice none 0 0, .int .i64 en, .int .i64 9223372036854775807, .bool false, .int .i64 0, .slice none 0 0] 65)) w4 → wpList Try.prog ops Q rest (a.put op.dst (.slice (some ⟨g2, 0, none⟩) (n + 2) cap2)) w4),
        wpList Try.prog ops Q (op :: rest) a (((w1.alloc (.cells #[.int .i64 (-1)] 3)).alloc (.cells #[.bool false, .int .i64 0, .int .i64 1, .string ⟨#[]⟩, .slice none 0 0, .int .i64 en, .int .i64 9223372036854775807, .bool false, .int .i64 0, .slice none 0 0] 65)).alloc (.cells #[.bool false, .int .i64 0, .int .i64 1, .string ⟨#[]⟩, .slice none 0 0, .int .i64 en, .int .i64 9223372036854775807, .bool false, .int .i64 0, .slice none 0 0, .bool false, .int .i64 0, .int .i64 3, .string ⟨#[]⟩, .slice none 0 0, .int .i64 en, .int .i64 9223372036854775807, .bool false, .int .i64 0, .slice none 0 0] 65))) := happ
    clear hV hcl happ
    go_wp2_with (at_builtin; refine HAp.out rfl _ _ rfl rfl rfl ?_; intro g2 cap2 w4 hr4 k4; have HR4 : Hid (Rd w0 w4 (.slice (some ⟨g2, 0, none⟩) (n + 2) cap2) (extC cs en)) := hr4; have HK4 : Hid (Kp (fun b => Value.ownBlock (.slice p' n cap') = some b) ((w1.alloc (.cells #[.int .i64 (-1)] 3)).alloc (.cells #[.bool false, .int .i64 0, .int .i64 1, .string ⟨#[]⟩, .slice none 0 0, .int .i64 en, .int .i64 9223372036854775807, .bool false, .int .i64 0, .slice none 0 0] 65)) w4) := k4; clear hr4 k4)
    have HLn : Hid ((extC cs en).length = n + 2 ∧ n + 2 ≤ 1000) := ⟨by unfold extC; rw [List.length_append, ← HN.out.1]; rfl, by have := HN.out; omega⟩
    have HF4 : Hid (Fl w4 (fun b => w0.heap.size ≤ b ∧ b < w4.heap.size) (some ⟨g2, 0, none⟩) (hflat (extC cs en))) := by
      obtain ⟨q, c, e, hf⟩ := own_fl HR4.out.o
      rw [HLn.out.1] at e
      cases e
      exact hf
    have HC4 : Hid (∀ c ∈ extC cs en, c.ok w4) := fun c hc => (HR4.out.c c hc).keep HR4.out.k
    have HLg4 : Hid (Lv w4 w1.heap.size [.int .i64 (-1)]) := HLg.out.keep HK4.out (fun e => by have := (HOw.out _ e).2; have := HSz.out; omega)
    have HLp4 : Hid (Lv w4 (w1.heap.size + 1) (hcell (endC 1 en rb))) := HLp.out.keep HK4.out (fun e => by have := (HOw.out _ e).2; have := HSz.out; omega)
    have HPa := picka_ok _ (some ⟨g2, 0, none⟩) cap2 (extC cs en) 1 w1.heap.size (w1.heap.size + 1) (-1) rb w4 HF4.out HC4.out (by show _ ≤ _; rw [HLn.out.1]; exact HLn.out.2) (HRBo.out.keep HR4.out.k) (HLg4.out.cell (j := 0) rfl) (HLp4.out.cell (j := 4) rfl)
    have HPb := fun u (ku : Kp (fun _ => False) w4 u) => pickb_ok _ (some ⟨g2, 0, none⟩) cap2 (extC cs en) 3 u (HF4.out.keep ku (fun _ _ => id)) (fun c hc => (HC4.out c hc).keep ku) (by show _ ≤ _; rw [HLn.out.1]; exact HLn.out.2)
    have hpd := HPD.out
    rw [← HRBe.out] at hpd
    rw [← hpd.1.2] at HPa
    have HPb2 : ∀ u, Kp (fun _ => False) w4 u → _ := fun u ku => by have := HPb u ku; rw [← hpd.2.2] at this; exact this
    rw [HLn.out.1] at HPa hpd
    have HPb3 : ∀ u, Kp (fun _ => False) w4 u → Calls Try.prog 33 #[.slice (some ⟨g2, 0, none⟩) (n + 2) cap2, .int .i64 3, .func (.func 35) #[] #[]] u fun e w' => e = .returned (.int .i64 ((delI cs en : Nat) : Int)) ∧ Kp (fun _ => False) u w' := fun u ku => by have := HPb2 u ku; rw [HLn.out.1] at this; exact this
    have HOr := fun u (ku : Kp (fun _ => False) w4 u) => order_ok _ g2 0 (n + 2) cap2 (extC cs en) u (HF4.out.keep ku (fun _ _ => id)) (fun c hc => (HC4.out c hc).keep ku) HLn.out.1 HLn.out.2 (putI cs en) (delI cs en) hpd.1.1 hpd.2.1
    have HO1 := fun bc bp bw be br u (ku : Kp (fun _ => False) w4 u) h1 h2 h3 h4 h5 i (hi : i < n + 2) => order1_ok _ g2 0 (n + 2) cap2 (extC cs en) u (HF4.out.keep ku (fun _ _ => id)) (fun c hc => (HC4.out c hc).keep ku) HLn.out.1 bc bp bw be br (putI cs en) (delI cs en) (writtenP (extC cs en) (putI cs en) (delI cs en)) (erasedP (extC cs en) (putI cs en) (delI cs en)) h1 h2 h3 h4 h5 i hi hpd.1.1
    have HRP : Hid (res = (List.range (n + 2)).all (fitsP (extC cs en) (putI cs en) (delI cs en) (writtenP (extC cs en) (putI cs en) (delI cs en)) (erasedP (extC cs en) (putI cs en) (delI cs en)))) := by
      show _ = _
      rw [HRes.out]
      unfold rightP
      rw [HLn.out.1]
    obtain ⟨pt, hpt⟩ : ∃ x, x = putI cs en := ⟨_, rfl⟩
    obtain ⟨er, her⟩ : ∃ x, x = delI cs en := ⟨_, rfl⟩
    rw [← hpt] at HPa HOr HO1 HRP
    rw [← her] at HPb3 HOr HO1 HRP
    obtain ⟨wt, hwt⟩ : ∃ x, x = writtenP (extC cs en) pt er := ⟨_, rfl⟩
    obtain ⟨et, het⟩ : ∃ x, x = erasedP (extC cs en) pt er := ⟨_, rfl⟩
    rw [← hwt, ← het] at HOr HO1 HRP
    obtain ⟨ft, hft⟩ : ∃ x, x = fitsP (extC cs en) pt er wt et := ⟨_, rfl⟩
    rw [← hft] at HO1 HRP
    have H1 : Hid (Calls _ _ _ w4 _) := HPa
    have H2 : Hid (∀ u, Kp (fun _ => False) w4 u → Calls _ _ _ u _) := HPb3
    have H3 : Hid (∀ u, Kp (fun _ => False) w4 u → Calls _ _ _ u _) := HOr
    have H4 : Hid (∀ bc bp bw be br u, Kp (fun _ => False) w4 u → _) := HO1
    have HKw : Hid (Kp (fun b => Value.ownBlock (.slice p' n cap') = some b) w w4) := ((HK1.out.trans HVK.out (fun _ _ e => e)).mono (fun _ _ e => e.elim)).trans HK4.out (fun _ _ e => e)
    clear HPa HPb HPb2 HPb3 HOr HO1 hpd hpt her hwt het hft HPD HRB HGT HGB HLg HLp HLg4 HLp4 HRd HEx HAp
    refine H1.out.mono ?_
    rintro e5 w5 ⟨rfl, k5⟩
    have HK5 : Hid (Kp (fun _ => False) w4 w5) := k5
    clear H1 k5
    go_wp2_with fail
    refine (H2.out _ HK5.out).mono ?_
    rintro e6 w6 ⟨rfl, k6⟩
    have HK6 : Hid (Kp (fun _ => False) w4 w6) := HK5.out.trans k6 (fun _ _ e => e)
    clear H2 k6 HK5
    go_wp2_with fail
    refine (H3.out _ HK6.out).mono ?_
    rintro e7 w7 ⟨bc, bp, bw, be, br, rfl, k7, q1, q2, q3, q4, q5⟩
    have HK7 : Hid (Kp (fun _ => False) w4 w7) := HK6.out.trans k7 (fun _ _ e => e)
    have HFt : Hid (∀ u, Kp (fun _ => False) w7 u → ∀ i, i < n + 2 → Calls Try.prog 40 #[.int .i64 (i : Int), .pointer (some ⟨bc, 0, none⟩), .pointer (some ⟨bp, 0, none⟩), .pointer (some ⟨bw, 0, none⟩), .pointer (some ⟨be, 0, none⟩), .pointer (some ⟨br, 0, none⟩)] u fun e w' => e = .returned (.bool (ft i)) ∧ Kp (fun _ => False) u w') := fun u ku i hi => H4.out bc bp bw be br u (HK7.out.trans ku (fun _ _ e => e)) (ku.cellv q1 id) (ku.cellv q2 id) (ku.cellv q3 id) (ku.cellv q4 id) (ku.cellv q5 id) i hi
    clear H3 H4 k7 HK6 q1 q2 q3 q4 q5
    obtain ⟨N, hN⟩ : ∃ N, N = n + 2 := ⟨_, rfl⟩
    rw [← hN] at HFt HRP ⊢
    have HN2 : Hid (N ≤ 1000) := by show _ ≤ _; have := HLn.out.2; omega
    have hN9 : (N : Int) ≤ 1000 := by have := HN2.out; omega
    clear hN
    go_wp2
    go_loopg [39] N (fun gk i wr => ∃ k : Nat, k ≤ N ∧ gk = N - k ∧ i = .int .i64 k ∧ Hid (Kp (fun _ => False) w7 wr) ∧ Hid (∀ j, j < k → ft j = true))
    case atStart => exact ⟨0, Nat.zero_le _, rfl, rfl, Kp.refl _ _, fun j hj => absurd hj (Nat.not_lt_zero _)⟩
    case round =>
      obtain ⟨k, hk, rfl, rfl, HK, HT⟩ := hrel
      by_cases hlt : (k : Int) < (N : Int)
      · have HCk : Hid (Calls _ _ _ wr _) := HFt.out wr HK.out k (by omega)
        have HK1' : Hid (wrap64 ((k : Int) + 1) = ((k + 1 : Nat) : Int)) := wrapK (by have := HN2.out; omega)
        obtain ⟨r, hr⟩ : ∃ r, r = ft k := ⟨_, rfl⟩
        have HRk : Hid (r = ft k) := hr
        rw [← hr] at HCk
        clear hr
        cases r with
        | true =>
          go_wp2_with (go_at_call 40; refine HCk.out.mono ?_; rintro e u4 ⟨rfl, k4⟩)
          go_roundg (N - (k + 1))
          case rel => exact ⟨k + 1, by omega, rfl, by first | rw [HK1'.out] | rfl | go_num, HK.out.trans k4 (fun _ _ e => e), fun j hj => by by_cases e : j = k; (subst e; exact HRk.out.symm); exact HT.out j (by omega)⟩
          case measure => omega
        | false =>
          go_wp2_with (go_at_call 40; refine HCk.out.mono ?_; rintro e u4 ⟨rfl, k4⟩)
          go_ret
          have hf : res = false := by
            rw [HRP.out]
            rw [List.all_eq_false]
            exact ⟨k, List.mem_range.2 (by omega), by rw [← HRk.out]; decide⟩
          exact ⟨by rw [hf]; rfl, (HKw.out.trans ((HK7.out.trans HK.out (fun _ _ e => e)).trans k4 (fun _ _ e => e)) (fun _ _ e => e.elim))⟩
      · go_wp2
        go_ret
        have hf : res = true := by
          rw [HRP.out]
          exact range_all (fun j hj => HT.out j (by omega))
        exact ⟨by rw [hf]; rfl, (HKw.out.trans (HK7.out.trans HK.out (fun _ _ e => e)) (fun _ _ e => e.elim))⟩
end Go.Proofs.Ytbbgplnenbkfeaa
