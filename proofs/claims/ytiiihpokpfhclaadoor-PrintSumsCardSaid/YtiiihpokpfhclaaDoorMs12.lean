/- Part 12 of the walks (merged): SmP, SmR, RfB, RfC, RfD, RfE, RfF, RfG, RfH, RfI. -/
import Derived.Test.YtiiihpokpfhclaaDoorMs5
import Derived.Test.YtiiihpokpfhclaaDoorMs11
import Derived.Test.YtiiihpokpfhclaaDoorMs8
import Derived.Test.YtiiihpokpfhclaaDoorMs9
/- The law's plain: are all names such as may be? -/
namespace Go.Proofs.YtiiihpokpfhclaaDoor
open Go Go.RowKit

theorem beq_iff (s : List UInt8) (c : UInt8) : ((strB s).toList = [c]) = ((s == [c]) = true) := by rw [ByteArray.toList_eq, beq_iff_eq]; rfl
def plainN (s : List UInt8) : Bool := s == [97] || s == [98] || s == [120] || s == [99]
def plainE : Ex → Bool
  | .num _ => true
  | .var s => plainN s
  | .neg a => plainE a
  | .bin _ a b => plainE a && plainE b
def PlQ (v : Value) (q : Bool) (w : World) : Prop := Calls Tryd.prog 13 #[v] w fun r w' => r = .returned (.bool q) ∧ w = w'
set_option maxRecDepth 100000 in
theorem plain_nil (w : World) : PlQ (.pointer none) true w := by
  show Calls _ _ _ _ _
  go_enter Tryd.func13, Tryd.ntmps13
  go_wp2_with fail
  go_ret
  exact ⟨rfl, rfl⟩
set_option maxRecDepth 100000 in
set_option maxHeartbeats 3200000 in
theorem plain_node (b o k : Nat) (hk : k ≠ 1) (pa pb : Value) (qa qb : Bool) (w : World) (c0 : w.cell? ⟨b, o, none⟩ = some (.int .i64 k)) (c3 : w.cell? ⟨b, o + 3, none⟩ = some pa) (c4 : w.cell? ⟨b, o + 4, none⟩ = some pb) (hA : PlQ pa qa w) (hC : PlQ pb qb w) :
    PlQ (.pointer (some ⟨b, o, none⟩)) (qa && qb) w := by
  show Calls _ _ _ _ _
  have hkb : ¬ ((k : Int) = 1) := by omega
  have hkc : ((k : Int) == 1) = false := beq_false_of_ne (by omega)
  replace hA := hide hA
  replace hC := hide hC
  clear hk
  cases qa with
  | false =>
    go_enter Tryd.func13, Tryd.ntmps13
    go_wp2_with fail
    refine Calls.mono hA.out ?_
    rintro e w1 ⟨rfl, rfl⟩
    go_wp2_with fail
    go_ret
    exact ⟨rfl, rfl⟩
  | true =>
    go_enter Tryd.func13, Tryd.ntmps13
    go_wp2_with fail
    refine Calls.mono hA.out ?_
    rintro e w1 ⟨rfl, rfl⟩
    go_wp2_with fail
    refine Calls.mono hC.out ?_
    rintro e w1 ⟨rfl, rfl⟩
    go_wp2_with fail
    go_ret
    exact ⟨rfl, rfl⟩
set_option maxRecDepth 100000 in
set_option maxHeartbeats 3200000 in
theorem plain_var (b o : Nat) (s : List UInt8) (w : World) (c0 : w.cell? ⟨b, o, none⟩ = some (.int .i64 1)) (c2 : w.cell? ⟨b, o + 2, none⟩ = some (.string (strB s))) (c3 : w.cell? ⟨b, o + 3, none⟩ = some (.pointer none)) (c4 : w.cell? ⟨b, o + 4, none⟩ = some (.pointer none)) :
    PlQ (.pointer (some ⟨b, o, none⟩)) (plainN s) w := by
  show Calls _ _ _ _ _
  have hn := hide (fun w => plain_nil w)
  have e1 : ((strB s).toList == [97]) = (s == [97]) := str_beq' s [97]
  have n1 := beq_iff s 97
  have e2 : ((strB s).toList == [98]) = (s == [98]) := str_beq' s [98]
  have n2 := beq_iff s 98
  have e3 : ((strB s).toList == [120]) = (s == [120]) := str_beq' s [120]
  have n3 := beq_iff s 120
  have e4 : ((strB s).toList == [99]) = (s == [99]) := str_beq' s [99]
  have n4 := beq_iff s 99
  unfold plainN
  generalize (s == [97]) = q1 at *
  generalize (s == [98]) = q2 at *
  generalize (s == [120]) = q3 at *
  generalize (s == [99]) = q4 at *
  cases q1 <;> cases q2 <;> cases q3 <;> cases q4
  all_goals simp only [Bool.false_eq_true, eq_self_iff_true] at n1 n2 n3 n4
  all_goals
    go_enter Tryd.func13, Tryd.ntmps13
    go_wp2_with fail
  all_goals first
    | (go_ret; exact ⟨rfl, rfl⟩)
    | (refine Calls.mono (hn.out _) ?_
       rintro e w1 ⟨rfl, rfl⟩
       go_wp2_with fail
       refine Calls.mono (hn.out _) ?_
       rintro e w1 ⟨rfl, rfl⟩
       go_wp2_with fail
       go_ret
       exact ⟨rfl, rfl⟩)
theorem plain_any : ∀ (e : Ex) (v : Value) (w : World) (S : Nat → Prop), ExA w S e v → WfX e → PlQ v (plainE e) w
  | .num n, v, w, S, h, _ => by
    obtain ⟨b, o, rfl, -, a0, a1, a2, a3, a4⟩ := h
    exact plain_node b o 0 (by decide) _ _ true true w a0 a3 a4 (plain_nil w) (plain_nil w)
  | .var s, v, w, S, h, _ => by
    obtain ⟨b, o, rfl, -, a0, a1, a2, a3, a4⟩ := h
    exact plain_var b o s w a0 a2 a3 a4
  | .neg x, v, w, S, h, hw => by
    obtain ⟨b, o, y, rfl, ⟨-, a0, a1, a2, a3, a4⟩, hx⟩ := h
    have := plain_node b o 7 (by decide) _ _ _ true w a0 a3 a4 (plain_any x y w S hx hw) (plain_nil w)
    rw [Bool.and_true] at this
    exact this
  | .bin k x y, v, w, S, h, ⟨h1, h2, hx, hy⟩ => by
    obtain ⟨b, o, va, vb, rfl, ⟨-, a0, a1, a2, a3, a4⟩, hx', hy'⟩ := h
    exact plain_node b o k (by omega) _ _ _ _ w a0 a3 a4 (plain_any x va w S hx' hx) (plain_any y vb w S hy' hy)
end Go.Proofs.YtiiihpokpfhclaaDoor
/- PrintSums: its text, and that it is read as the sum. -/
namespace Go.Proofs.YtiiihpokpfhclaaDoor
open Go Go.RowKit

def ndE : Ex → Nat
  | .num _ => 1
  | .var _ => 1
  | .neg a => 1 + ndE a
  | .bin _ a b => 1 + ndE a + ndE b
theorem nd_pos (e : Ex) : 1 ≤ ndE e := by cases e <;> simp [ndE] <;> omega
theorem sz_nd : ∀ e : Ex, szE e ≤ 2 * ndE e
  | .num _ => by simp [szE, ndE]
  | .var _ => by simp [szE, ndE]
  | .neg a => by have := sz_nd a; simp only [szE, ndE]; omega
  | .bin _ a b => by have := sz_nd a; have := sz_nd b; simp only [szE, ndE]; omega
theorem parD_le (q : Bool) (n : Nat) : parD q n ≤ n + 1 := by unfold parD; split <;> omega
theorem dep_nd : ∀ e : Ex, depE e + 1 ≤ ndE e ∧ (bindE e < 2 → depE e + 2 ≤ ndE e)
  | .num _ => ⟨by simp [depE, ndE], fun h => absurd h (by show ¬ 2 < 2; decide)⟩
  | .var _ => ⟨by simp [depE, ndE], fun h => absurd h (by show ¬ 2 < 2; decide)⟩
  | .neg a => by
    obtain ⟨h1, h2⟩ := dep_nd a
    refine ⟨?_, fun h => absurd h (by show ¬ 2 < 2; decide)⟩
    simp only [depE, ndE]
    by_cases hq : bindE a < 2
    · have := h2 hq
      rw [decide_eq_true hq]; simp only [parD, if_true]; omega
    · rw [decide_eq_false hq]; simp only [parD, Bool.false_eq_true, if_false]; omega
  | .bin k a b => by
    have h1 := (dep_nd a).1
    have h2 := (dep_nd b).1
    have h3 := parD_le (decide (bindE a < bindK k)) (depE a)
    have h4 := parD_le (decide (bindE b < bindK k + 1)) (depE b)
    have := nd_pos a
    have := nd_pos b
    simp only [depE, ndE]
    constructor
    · omega
    · intro _; omega
theorem plain_wf : ∀ {e : Ex}, WfX e → plainE e = true → WfR e
  | .num _, h, _ => h
  | .var s, _, h => by
    simp only [plainE, plainN, Bool.or_eq_true, beq_iff_eq] at h
    rcases h with ((rfl | rfl) | rfl) | rfl
    all_goals (show wfN _ = true; rfl)
  | .neg a, h, hp => plain_wf (e := a) h hp
  | .bin _ a b, ⟨h1, h2, h3, h4⟩, hp => by
    simp only [plainE, Bool.and_eq_true] at hp
    exact ⟨h1, h2, plain_wf h3 hp.1, plain_wf h4 hp.2⟩
theorem right_ex2 {w : World} {S : Nat → Prop} : ∀ {T : XT}, TrV w S T → rightT T = true → shortX T → ∃ e, ExA w S e T.ptr ∧ WfX e ∧ (exT e).length ≤ 60 * sizeX T ∧ exT e ≠ [] ∧ ndE e = sizeX T
  | .nil, _, h, _ => by cases h
  | .node b o (k, n, s) l r, ⟨h1, h2, h3, h4, h5, h6⟩, h, ⟨hs, hl, hr⟩ => by
    have hn := wf_le h3
    have hk := wf_le h2
    unfold rightT at h
    simp only at h h1 hs
    by_cases k0 : k = 0
    · subst k0
      rw [if_pos rfl] at h
      simp only [Bool.and_eq_true, decide_eq_true_eq] at h
      obtain ⟨⟨⟨hn0, el⟩, er⟩, es⟩ := h
      obtain rfl := isNil_eq el
      obtain rfl := isNil_eq er
      subst es
      obtain ⟨m, rfl⟩ := Int.eq_ofNat_of_zero_le hn0
      refine ⟨.num m, ⟨b, o, rfl, h1⟩, by show m ≤ _; simp only at hn; omega, ?_, dec_ne m, rfl⟩
      have := dec_len m (by simp only at hn; omega)
      show (Lib.decDigits m).length ≤ 60 * (1 + 0 + 0)
      omega
    rw [if_neg k0] at h
    by_cases k1 : k = 1
    · subst k1
      rw [if_pos rfl] at h
      simp only [Bool.and_eq_true, decide_eq_true_eq, Bool.not_eq_true', decide_eq_false_iff_not] at h
      obtain ⟨⟨⟨hsn, el⟩, er⟩, en⟩ := h
      obtain rfl := isNil_eq el
      obtain rfl := isNil_eq er
      subst en
      have hsz : s.data.toList.length = s.size := by rw [Array.length_toList]; rfl
      refine ⟨.var s.data.toList, ⟨b, o, rfl, h1⟩, by show _ ≤ _; omega, ?_, fun e => hsn (by rw [strB_eq s, show s.data.toList = [] from e]; rfl), rfl⟩
      show s.data.toList.length ≤ 60 * (1 + 0 + 0)
      omega
    rw [if_neg k1] at h
    by_cases k7 : k = 7
    · subst k7
      rw [if_pos rfl] at h
      simp only [Bool.and_eq_true, decide_eq_true_eq] at h
      obtain ⟨⟨⟨hl1, er⟩, en⟩, es⟩ := h
      obtain rfl := isNil_eq er
      subst en es
      obtain ⟨x, hx1, hx2, hx3, -, hx9⟩ := right_ex2 h5 hl1 hl
      refine ⟨.neg x, ⟨b, o, _, rfl, h1, hx1⟩, hx2, ?_, (fun e => by rw [exT] at e; cases e), by show 1 + ndE x = 1 + sizeX l + 0; omega⟩
      have := par_len (decide (bindE x < 2)) (exT x)
      show ([45] ++ parT _ _).length ≤ 60 * (1 + _ + 0)
      rw [List.length_append]
      show 1 + _ ≤ _
      omega
    rw [if_neg k7] at h
    by_cases k2 : 2 ≤ k ∧ k ≤ 6
    · rw [if_pos k2] at h
      simp only [Bool.and_eq_true, decide_eq_true_eq] at h
      obtain ⟨⟨⟨hl1, hr1⟩, en⟩, es⟩ := h
      subst en es
      obtain ⟨x, hx1, hx2, hx3, -, hx9⟩ := right_ex2 h5 hl1 hl
      obtain ⟨y, hy1, hy2, hy3, -, hy9⟩ := right_ex2 h6 hr1 hr
      obtain ⟨m, rfl⟩ := Int.eq_ofNat_of_zero_le (by omega : 0 ≤ k)
      refine ⟨.bin m x y, ⟨b, o, _, _, rfl, h1, hx1, hy1⟩, ⟨by omega, by omega, hx2, hy2⟩, ?_, (fun e => by
        have h9 := congrArg List.length e
        rw [exT, List.length_append, List.length_append, sign_len] at h9
        simp at h9), by show 1 + ndE x + ndE y = 1 + sizeX l + sizeX r; omega⟩
      have e1 := par_len (decide (bindE x < bindK m)) (exT x)
      have e2 := par_len (decide (bindE y < bindK m + 1)) (exT y)
      have e3 := sign_len m
      show (parT _ _ ++ signT m ++ parT _ _).length ≤ 60 * (1 + _ + _)
      rw [List.length_append, List.length_append]
      omega
    · rw [if_neg k2] at h
      cases h

def smPre : List UInt8 := [102, 110, 32, 102, 40, 41, 32, 123, 32, 114, 101, 116, 117, 114, 110, 32]
def smPT : List Tok := [⟨0, [102, 110], 0⟩, ⟨0, [102], 3⟩, ⟨2, [40], 4⟩, ⟨2, [41], 5⟩, ⟨2, [123], 7⟩, ⟨0, [114, 101, 116, 117, 114, 110], 9⟩]
theorem runT_cat (a : List UInt8) (st : St) (i : Nat) (ts : List Tok) (b : List UInt8) (st' : St) (i' : Nat) (ts' : List Tok) (h : ∀ c, runT st i ts (a ++ c) = runT st' i' ts' c) : runT st i ts (a ++ b) = runT st' i' ts' b := h b
theorem sm_pre (b : List UInt8) : runT .blank 0 [] (smPre ++ b) = runT .blank 16 smPT b := rfl
theorem sm_lex {e : Ex} (hw : WfR e) (hl : (exT e).length ≤ 4000) : lexT (smPre ++ exT e ++ [59, 32, 125]) = .ok (smPT ++ (exK e 16 ++ [⟨2, [59], 16 + (exT e).length⟩, ⟨2, [125], 16 + (exT e).length + 2⟩])) := by
  unfold lexT
  rw [if_neg (by simp [smPre]; omega), List.append_assoc, List.append_assoc, sm_pre]
  obtain ⟨st, ts, h1, h2⟩ := ex_run e hw .blank smPT smPT 16 ([59, 32, 125] ++ [10]) (ope_blank _)
  rw [h1]
  show runT st _ ts (59 :: [32, 125, 10]) = _
  rw [run_clo h2 (.inr (.inr rfl))]
  show Except.ok _ = _
  simp
theorem sm_func (g : Nat) (R : List Tok) : funcP (g + 1) (smPT ++ R) = (((((sumP g 1 R).bind fun e r => (want [59] r).bind fun _ r => .ok (Sm.mk 9 [] [] (some e) none none [] [] [] 0) r).bind fun a r => Rs.ok (a, 1) r).bind fun x r => stmsOf (stm (g + 1) 1) g [x.1] x.2 r).bind fun b r => .ok ⟨[102], [], [], b.1⟩ r) := rfl
theorem sm_end (s : Nat → List Tok → Rs (Sm × Nat)) (g : Nat) (l : List Sm) (n p : Nat) : stmsOf s (g + 1) l n [⟨2, [125], p⟩] = .ok (l, n) [] := rfl
def smF (e : Ex) : Fn7 := ⟨[102], [], [], [.mk 9 [] [] (some e) none none [] [] [] 0]⟩
theorem sm_text {e : Ex} (hw : WfR e) (hl : (exT e).length ≤ 4000) (hn : ndE e ≤ 40) : textP (funcP 5000) (smPre ++ exT e ++ [59, 32, 125]) = some (.ok (smF e)) := by
  have key : ∀ g, 100 ≤ g → textP (funcP (g + 1)) (smPre ++ exT e ++ [59, 32, 125]) = some (.ok (smF e)) := by
    intro g hg
    unfold textP
    rw [sm_lex hw hl]
    show wholeP _ (funcP (g + 1) _) = _
    have h1 := sz_nd e
    have h2 := (dep_nd e).1
    rw [sm_func, sum_reads hw (by omega) (by omega) 16 _ rfl rfl]
    obtain ⟨g, rfl⟩ : ∃ q, g = q + 1 := ⟨g - 1, by omega⟩
    show wholeP _ ((stmsOf (stm (g + 1 + 1) 1) (g + 1) _ 1 [⟨2, [125], _⟩]).bind _) = _
    rw [sm_end]
    rfl
  exact key 4999 (by decide)
end Go.Proofs.YtiiihpokpfhclaaDoor
/- Walks of the document's parser: fail, take, want, open, name. -/
namespace Go.Proofs.YtiiihpokpfhclaaDoor
open Go Go.RowKit

theorem drop_cons {α : Type} {l : List α} {i : Nat} {t : α} (h : l[i]? = some t) : l.drop i = t :: l.drop (i + 1) := by
  obtain ⟨hi, rfl⟩ := List.getElem?_eq_some_iff.1 h
  exact List.drop_eq_getElem_cons hi
theorem is_any (x : List UInt8) (hx : x ≠ []) (p : Nat) (w : World) (e a d n i : Nat) (C : Cx) (h : RfW w p C i e a d n) :
    Calls Tryd.prog 27 #[.pointer (some ⟨p, 0, none⟩), .string (strB x)] w fun r w' => r = .returned (.bool (isQ C i e x)) ∧ Below w.heap.size w w' := by
  by_cases he : e = 0
  · subst he
    rcases Nat.lt_or_ge i C.ts.length with hl | hl
    · obtain ⟨t, ht⟩ : ∃ t, C.ts[i]? = some t := ⟨_, List.getElem?_eq_getElem hl⟩
      by_cases hk : t.kind = 1
      · have : isQ C i 0 x = false := by unfold isQ; rw [drop_cons ht]; simp [isNum, hk]
        rw [this]
        exact is_num x p w a d n i C h t ht hk
      · have : isQ C i 0 x = (t.text == x) := by unfold isQ; rw [drop_cons ht]; simp [isNum, hk, nx, txt]
        rw [this]
        exact is_yes x p w a d n i C h t ht hk
    · have : isQ C i 0 x = false := by
        unfold isQ
        rw [List.drop_eq_nil_of_le hl]
        cases x with
        | nil => exact absurd rfl hx
        | cons _ _ => rfl
      rw [this]
      exact is_end x p w a d n i C h (by omega)
  · have : isQ C i e x = false := by unfold isQ; rw [beq_false_of_ne he]; rfl
    rw [this]
    exact is_e x p w e a d n i C h he
theorem named_any (p : Nat) (w : World) (e a d n i : Nat) (C : Cx) (h : RfW w p C i e a d n) :
    Calls Tryd.prog 52 #[.pointer (some ⟨p, 0, none⟩)] w fun r w' => r = .returned (.bool (nmQ C i e)) ∧ Below w.heap.size w w' := by
  by_cases he : e = 0
  · subst he
    rcases Nat.lt_or_ge i C.ts.length with hl | hl
    · obtain ⟨t, ht⟩ : ∃ t, C.ts[i]? = some t := ⟨_, List.getElem?_eq_getElem hl⟩
      by_cases hk : t.kind = 0
      · have : nmQ C i 0 = (!isKw t.text) := by unfold nmQ; rw [drop_cons ht]; simp [isNm, hk]
        rw [this]
        exact nm_yes p w a d n i C h t ht hk
      · have : nmQ C i 0 = false := by unfold nmQ; rw [drop_cons ht]; simp [isNm, hk]
        rw [this]
        exact nm_num p w a d n i C h t ht hk
    · have : nmQ C i 0 = false := by
        unfold nmQ
        rw [List.drop_eq_nil_of_le hl]
        rfl
      rw [this]
      exact nm_end p w a d n i C h (by omega)
  · have : nmQ C i e = false := by unfold nmQ; rw [beq_false_of_ne he]; rfl
    rw [this]
    exact nm_e p w e a d n i C h he
/-- The first error stays. -/
def errQ (e k : Nat) : Nat := if e = 0 then k else e
def atQ (C : Cx) (i e a : Nat) : Nat := if e = 0 then atOf C.len (C.ts.drop i) else a
set_option maxRecDepth 100000 in
theorem fail_e (k : Nat) (p : Nat) (w : World) (e a d n i : Nat) (C : Cx) (h : RfW w p C i e a d n) (he0 : e ≠ 0) :
    Calls Tryd.prog 29 #[.pointer (some ⟨p, 0, none⟩), .int .i64 k] w fun r w' => r = .returned (.tuple #[]) ∧ w = w' := by
  have c3 := cell_at h.heap 3
  simp at c3
  have he : ((e : Int) == 0) = false := beq_false_of_ne (by omega)
  clear h he0
  go_enter Tryd.func29, Tryd.ntmps29
  go_wp2_with fail
  go_end0
  exact ⟨rfl, rfl⟩
set_option maxRecDepth 100000 in
set_option maxHeartbeats 1600000 in
theorem fail_0 (k : Nat) (p : Nat) (w : World) (a d n i : Nat) (C : Cx) (h : RfW w p C i 0 a d n) :
    Calls Tryd.prog 29 #[.pointer (some ⟨p, 0, none⟩), .int .i64 k] w fun r w' => r = .returned (.tuple #[]) ∧ Upd (At p) w w' ∧ RfW w' p C i k (atOf C.len (C.ts.drop i)) d n := by
  have h1 := h.set (e' := k) 3 (.int .i64 k) (heap_set h.heap 3 _) h.hi h.hd h.hn
  have h2 := h1.set (a' := C.len) 4 (.int .i64 C.len) (heap_set h1.heap 4 _) h.hi h.hd h.hn
  have h3 := hide (fun (t : Nat) => h2.set (a' := t) 4 (.int .i64 t) (heap_set h2.heap 4 _) h.hi h.hd h.hn)
  have u2 := hide ((Upd.set w (F := At p) (a := ⟨p, 3, none⟩) rfl (.int .i64 k)).then (Upd.set _ (F := At p) (a := ⟨p, 4, none⟩) rfl (.int .i64 C.len)))
  obtain ⟨A, c, hA, hm⟩ := h.row.slice
  have c3 := cell_at h.heap 3
  have c4 := cell_at h.heap 4
  have f3 := frozen_at h.heap 3
  have d2 := cell_at h1.heap 2
  have f4 := frozen_at h1.heap 4
  have e0 := cell_at h2.heap 0
  have e1 := cell_at h2.heap 1
  have g4 := frozen_at h2.heap 4
  simp at c3 c4 d2 e0 e1
  have hrow := h2.row
  rw [hA] at e0 hrow
  replace h2 := hide h2
  have hlen : C.ts.length = C.ts.length := rfl
  rcases Nat.lt_or_ge i C.ts.length with hl | hl
  · obtain ⟨t, ht⟩ : ∃ t, C.ts[i]? = some t := ⟨_, List.getElem?_eq_getElem hl⟩
    obtain ⟨b, rfl, -, -, t2⟩ := hrow.get ht
    have hl' : (i : Int) < (C.ts.length : Int) := by omega
    have hat : atOf C.len (C.ts.drop i) = t.at_ := by rw [drop_cons ht]; rfl
    rw [hat]
    generalize C.ts.length = N at *
    clear hrow h h1 hm hA ht hat hl hlen h3
    go_enter Tryd.func29, Tryd.ntmps29
    go_wp2_with fail
    go_quiet (fail)
    go_wp2_with fail
    go_region
    go_wp2_with fail
    go_end0
    have h2d := fun m => h2.out.below (below_drewN (Below.refl _ _) m)
    exact ⟨rfl, (u2.out.then (.of_below _ (below_drewN (Below.refl _ _) _))).then (Upd.set _ (F := At p) (a := ⟨p, 4, none⟩) rfl _), RfW.set (h2d _) (a' := t.at_) 4 (.int .i64 t.at_) (heap_set (h2d _).heap 4 _) h2.out.hi h2.out.hd h2.out.hn⟩
  · have hl' : ¬ (i : Int) < (C.ts.length : Int) := by omega
    have hat : atOf C.len (C.ts.drop i) = C.len := by rw [List.drop_eq_nil_of_le hl]; rfl
    rw [hat]
    generalize C.ts.length = N at *
    clear hrow h h1 hm hA hat hl hlen h3
    go_enter Tryd.func29, Tryd.ntmps29
    go_wp2_with fail
    go_quiet (fail)
    go_wp2_with fail
    go_end0
    exact ⟨rfl, u2.out.then (.of_below _ (below_drewN (Below.refl _ _) _)), h2.out.below (below_drewN (Below.refl _ _) _)⟩
end Go.Proofs.YtiiihpokpfhclaaDoor
/- Walks of the document's parser: take, want, open, name. -/
namespace Go.Proofs.YtiiihpokpfhclaaDoor
open Go Go.RowKit

theorem fail_any (k : Nat) (p : Nat) (w : World) (e a d n i : Nat) (C : Cx) (h : RfW w p C i e a d n) :
    Calls Tryd.prog 29 #[.pointer (some ⟨p, 0, none⟩), .int .i64 k] w fun r w' => r = .returned (.tuple #[]) ∧ Upd (At p) w w' ∧ RfW w' p C i (errQ e k) (atQ C i e a) d n := by
  by_cases he : e = 0
  · subst he
    exact fail_0 k p w a d n i C h
  · have h1 : errQ e k = e := if_neg he
    have h2 : atQ C i e a = a := if_neg he
    rw [h1, h2]
    refine (fail_e k p w e a d n i C h he).mono ?_
    rintro r w' ⟨rfl, rfl⟩
    exact ⟨rfl, .of_below _ (Below.refl _ _), h⟩
theorem isQ_lt {C : Cx} {i e : Nat} {x : List UInt8} (hx : x ≠ []) (h : isQ C i e x = true) : i < C.ts.length := by
  rcases Nat.lt_or_ge i C.ts.length with hl | hl
  · exact hl
  · unfold isQ at h
    rw [List.drop_eq_nil_of_le hl] at h
    cases x with
    | nil => exact absurd rfl hx
    | cons _ _ => simp [nx, txt] at h
theorem nmQ_lt {C : Cx} {i e : Nat} (h : nmQ C i e = true) : i < C.ts.length := by
  rcases Nat.lt_or_ge i C.ts.length with hl | hl
  · exact hl
  · unfold nmQ at h
    rw [List.drop_eq_nil_of_le hl] at h
    simp [isNm] at h
set_option maxRecDepth 100000 in
theorem take_any (x : List UInt8) (hx : x ≠ []) (p : Nat) (w : World) (e a d n i : Nat) (C : Cx) (h : RfW w p C i e a d n) :
    Calls Tryd.prog 25 #[.pointer (some ⟨p, 0, none⟩), .string (strB x)] w fun r w' => r = .returned (.bool (isQ C i e x)) ∧ Upd (At p) w w' ∧ RfW w' p C (if isQ C i e x = true then i + 1 else i) e a d n := by
  have hQ := hide (is_any x hx p w e a d n i C h)
  have hlt := hide (isQ_lt (e := e) (x := x) (C := C) (i := i) hx)
  have hsm := h.ok.small
  generalize isQ C i e x = q at *
  have h0 := hide h
  clear h
  go_enter Tryd.func25, Tryd.ntmps25
  go_wp2_with fail
  refine hQ.out.mono ?_
  rintro r w1 ⟨rfl, hb⟩
  have h1 := h0.out.below hb
  cases q with
  | false =>
    replace h1 := hide h1
    replace hb := hide hb
    go_wp2_with fail
    go_ret
    exact ⟨rfl, .of_below _ hb.out, h1.out⟩
  | true =>
    have hl := hlt.out rfl
    have c1 := cell_at h1.heap 1
    have f1 := frozen_at h1.heap 1
    simp at c1
    have h2 := hide (h1.set (i' := i + 1) 1 (.int .i64 (i + 1 : Nat)) (heap_set h1.heap 1 _) hl h1.hd h1.hn)
    replace h1 := hide h1
    replace hb := hide hb
    have hws : IntKind.i64.wrap ((i : Int) + 1) = (i : Int) + 1 := by simp [IntKind.wrap, IntKind.bits, IntKind.signed]; omega
    replace hws := hide hws
    go_wp2_with fail
    go_ret
    exact ⟨rfl, (Upd.of_below _ hb.out).then (Upd.set _ (F := At p) (a := ⟨p, 1, none⟩) rfl _), h2.out⟩
set_option maxRecDepth 100000 in
theorem want_any (x : List UInt8) (hx : x ≠ []) (p : Nat) (w : World) (e a d n i : Nat) (C : Cx) (h : RfW w p C i e a d n) :
    Calls Tryd.prog 23 #[.pointer (some ⟨p, 0, none⟩), .string (strB x)] w fun r w' => r = .returned (.tuple #[]) ∧ Upd (At p) w w' ∧
      if isQ C i e x = true then RfW w' p C (i + 1) e a d n else RfW w' p C i (errQ e 51) (atQ C i e a) d n := by
  have hQ := hide (take_any x hx p w e a d n i C h)
  generalize isQ C i e x = q at *
  clear h
  go_enter Tryd.func23, Tryd.ntmps23
  go_wp2_with fail
  refine hQ.out.mono ?_
  rintro r w1 ⟨rfl, hu, h1⟩
  cases q with
  | true =>
    replace h1 := hide h1
    replace hu := hide hu
    go_wp2_with fail
    go_end0
    exact ⟨rfl, hu.out, h1.out⟩
  | false =>
    have hF := hide (fail_any 51 p w1 e a d n i C h1)
    replace h1 := hide h1
    replace hu := hide hu
    go_wp2_with fail
    refine hF.out.mono ?_
    rintro r w2 ⟨rfl, hu2, h2⟩
    replace h2 := hide h2
    replace hu2 := hide hu2
    go_wp2_with fail
    go_end0
    exact ⟨rfl, hu.out.then hu2.out, h2.out⟩
end Go.Proofs.YtiiihpokpfhclaaDoor
/- Walks of the document's parser: open, name. -/
namespace Go.Proofs.YtiiihpokpfhclaaDoor
open Go Go.RowKit

set_option maxRecDepth 100000 in
theorem open_e (p : Nat) (w : World) (e a d n i : Nat) (C : Cx) (h : RfW w p C i e a d n) (he0 : e ≠ 0) :
    Calls Tryd.prog 28 #[.pointer (some ⟨p, 0, none⟩)] w fun r w' => r = .returned (.bool false) ∧ w = w' := by
  have c3 := cell_at h.heap 3
  simp at c3
  have he : ((e : Int) == 0) = false := beq_false_of_ne (by omega)
  clear h he0
  go_enter Tryd.func28, Tryd.ntmps28
  go_wp2_with fail
  go_ret
  exact ⟨rfl, rfl⟩
set_option maxRecDepth 100000 in
theorem open_deep (p : Nat) (w : World) (a n i : Nat) (C : Cx) (h : RfW w p C i 0 a 40 n) :
    Calls Tryd.prog 28 #[.pointer (some ⟨p, 0, none⟩)] w fun r w' => r = .returned (.bool false) ∧ Upd (At p) w w' ∧ RfW w' p C i 52 (atOf C.len (C.ts.drop i)) 40 n := by
  have hF := hide (fail_0 52 p w a 40 n i C h)
  have c3 := cell_at h.heap 3
  have c5 := cell_at h.heap 5
  simp at c3 c5
  clear h
  go_enter Tryd.func28, Tryd.ntmps28
  go_wp2_with fail
  refine hF.out.mono ?_
  rintro r w1 ⟨rfl, hu, h1⟩
  replace h1 := hide h1
  replace hu := hide hu
  go_wp2_with fail
  go_ret
  exact ⟨rfl, hu.out, h1.out⟩
set_option maxRecDepth 100000 in
theorem open_ok (p : Nat) (w : World) (a d n i : Nat) (C : Cx) (h : RfW w p C i 0 a d n) (hd : d < 40) :
    Calls Tryd.prog 28 #[.pointer (some ⟨p, 0, none⟩)] w fun r w' => r = .returned (.bool true) ∧ Upd (At p) w w' ∧ RfW w' p C i 0 a (d + 1) n := by
  have c3 := cell_at h.heap 3
  have c5 := cell_at h.heap 5
  have f5 := frozen_at h.heap 5
  simp at c3 c5
  have h2 := hide (h.set (d' := d + 1) 5 (.int .i64 (d + 1 : Nat)) (heap_set h.heap 5 _) h.hi hd h.hn)
  have hd' : ¬ (40 : Int) ≤ (d : Int) := by omega
  have hws := hide (show IntKind.i64.wrap ((d : Int) + 1) = (d : Int) + 1 by simp [IntKind.wrap, IntKind.bits, IntKind.signed]; omega)
  clear h
  go_enter Tryd.func28, Tryd.ntmps28
  go_wp2_with fail
  go_ret
  exact ⟨rfl, Upd.set _ (F := At p) (a := ⟨p, 5, none⟩) rfl _, h2.out⟩
set_option maxRecDepth 100000 in
theorem name_no (p : Nat) (w : World) (e a d n i : Nat) (C : Cx) (h : RfW w p C i e a d n) (hq : nmQ C i e = false) :
    Calls Tryd.prog 24 #[.pointer (some ⟨p, 0, none⟩)] w fun r w' => r = .returned (.string ⟨#[]⟩) ∧ Upd (At p) w w' ∧ RfW w' p C i (errQ e 51) (atQ C i e a) d n := by
  have hQ := hide (named_any p w e a d n i C h)
  rw [hq] at hQ
  replace h := hide h
  clear hq
  go_enter Tryd.func24, Tryd.ntmps24
  go_wp2_with fail
  refine hQ.out.mono ?_
  rintro r w1 ⟨rfl, hb⟩
  have hF := hide (fail_any 51 p w1 e a d n i C (h.out.below hb))
  replace hb := hide hb
  go_wp2_with fail
  refine hF.out.mono ?_
  rintro r w2 ⟨rfl, hu2, h2⟩
  replace h2 := hide h2
  replace hu2 := hide hu2
  go_wp2_with fail
  go_ret
  exact ⟨rfl, (Upd.of_below _ hb.out).then hu2.out, h2.out⟩
set_option maxRecDepth 100000 in
set_option maxHeartbeats 1600000 in
theorem name_yes (p : Nat) (w : World) (a d n i : Nat) (C : Cx) (h : RfW w p C i 0 a d n) (hq : nmQ C i 0 = true) :
    Calls Tryd.prog 24 #[.pointer (some ⟨p, 0, none⟩)] w fun r w' => r = .returned (.string (strB (txt (C.ts.drop i)))) ∧ Upd (At p) w w' ∧ RfW w' p C (i + 1) 0 a d n := by
  have hl := nmQ_lt hq
  have hQ := hide (named_any p w 0 a d n i C h)
  rw [hq] at hQ
  obtain ⟨t, ht⟩ : ∃ t, C.ts[i]? = some t := ⟨_, List.getElem?_eq_getElem hl⟩
  have hx : txt (C.ts.drop i) = t.text := by rw [drop_cons ht]; rfl
  rw [hx]
  have hsm := h.ok.small
  replace h := hide h
  clear hq hx
  go_enter Tryd.func24, Tryd.ntmps24
  go_wp2_with fail
  refine hQ.out.mono ?_
  rintro r w1 ⟨rfl, hb⟩
  have h1 := h.out.below hb
  have c1 := cell_at h1.heap 1
  have f1 := frozen_at h1.heap 1
  simp at c1
  have h2 := h1.set (i' := i + 1) 1 (.int .i64 (i + 1 : Nat)) (heap_set h1.heap 1 _) hl h1.hd h1.hn
  have hrow := h2.row
  have hh2 := h2.heap
  obtain ⟨A, c, hA, hm⟩ := hrow.slice
  rw [hA] at hrow hh2
  obtain ⟨b, rfl, -, t1, -⟩ := hrow.get ht
  have d0 := cell_at hh2 0
  have d1 := cell_at hh2 1
  simp at d0 d1 t1
  have hz : ((i : Int) + 1 - 1) = (i : Int) := by omega
  have hz2 : IntKind.i64.wrap (i : Int) = (i : Int) := by simp [IntKind.wrap, IntKind.bits, IntKind.signed]; omega
  replace h2 := hide h2
  have u2 := hide ((Upd.of_below (At p) hb).then (Upd.set w1 (F := At p) (a := ⟨p, 1, none⟩) rfl (.int .i64 (i + 1 : Nat))))
  have hl' : (i : Int) < (C.ts.length : Int) := by omega
  generalize C.ts.length = N at *
  clear hrow hh2 hA hm h1 hb ht hQ h hl
  go_wp2_with fail
  go_quiet (fail)
  go_wp2_with fail
  refine bodyPost_ret (v := .string (strB t.text)) (by simp [results, Tryd.results24, go_sem]) rfl ⟨rfl, ?_⟩
  exact ⟨u2.out.then (.of_below _ (below_drewN (Below.refl _ _) _)), h2.out.below (below_drewN (Below.refl _ _) _)⟩
end Go.Proofs.YtiiihpokpfhclaaDoor
/- The document's parser: number; what its functions' calls come to. -/
namespace Go.Proofs.YtiiihpokpfhclaaDoor
open Go Go.RowKit

theorem valL_le {l : List UInt8} {b : List UInt8} : valL l ≤ valL (l ++ b) := by
  unfold valL
  rw [List.foldl_append]
  generalize l.foldl valF 0 = m
  induction b generalizing m with
  | nil => exact Nat.le_refl _
  | cons c r ih => exact Nat.le_trans (by unfold valF; omega) (ih (valF m c))
theorem refVal_snoc (w : List UInt8) (c : UInt8) : valL (w ++ [c]) = 10 * valL w + (c.toNat - 48) := by
  unfold valL
  rw [List.foldl_append]; rfl
set_option maxRecDepth 100000 in
set_option maxHeartbeats 1600000 in
theorem refNum_any (x : List UInt8) (hx : ∀ c ∈ x, digitB c.toNat = true) (hv : valL x ≤ 9223372036854775807) (hl : x.length ≤ 1000000) (w : World) :
    Calls Tryd.prog 99 #[.string (strB x)] w fun e w' => e = .returned (.int .i64 (valL x)) ∧ w = w' := by
  have hsz : (strB x).size = x.length := rfl
  go_enter Tryd.func99, Tryd.ntmps99
  go_wp2_with fail
  go_loop [3, 4] (fun n i => ∃ k : Nat, k ≤ x.length ∧ i = .int .i64 k ∧ n = .int .i64 (valL (x.take k) : Nat)) (fun _ i => x.length - (RowKit.intOf i).toNat)
  case atStart => exact ⟨0, Nat.zero_le _, rfl, rfl⟩
  case round =>
    obtain ⟨k, hk, rfl, rfl⟩ := hrel
    by_cases hlt : k < x.length
    · have hlt' : (k : Int) < (x.length : Int) := by omega
      have hget := str_at (l := x) (i := k) (c := x[k]) (List.getElem?_eq_getElem hlt)
      have hd := hx x[k] (List.getElem_mem hlt)
      have hs : x.take (k + 1) = x.take k ++ [x[k]] := List.take_succ_eq_append_getElem hlt
      have hv1 : valL (x.take (k + 1)) = 10 * valL (x.take k) + (x[k].toNat - 48) := by rw [hs, refVal_snoc]
      have hv2 : valL (x.take (k + 1)) ≤ 9223372036854775807 := Nat.le_trans (by have := @valL_le (x.take (k + 1)) (x.drop (k + 1)); rw [List.take_append_drop] at this; exact this) hv
      generalize x[k] = c at *
      obtain ⟨v1, hve⟩ : ∃ v, v = valL (x.take (k + 1)) := ⟨_, rfl⟩
      rw [← hve] at hv1 hv2
      replace hve := hide hve
      generalize valL (x.take k) = v0 at *
      simp only [digitB, decide_eq_true_eq] at hd
      have w1 : IntKind.u8.wrap ((c.toNat : Int) - 48) = (c.toNat : Int) - 48 := by simp [IntKind.wrap, IntKind.bits, IntKind.signed]; omega
      have w2 : IntKind.i64.wrap ((c.toNat : Int) - 48) = (c.toNat : Int) - 48 := by simp [IntKind.wrap, IntKind.bits, IntKind.signed]; omega
      have w3 : IntKind.i64.wrap (10 * (v0 : Int)) = 10 * (v0 : Int) := by simp [IntKind.wrap, IntKind.bits, IntKind.signed]; omega
      have w4 : IntKind.i64.wrap (10 * (v0 : Int) + ((c.toNat : Int) - 48)) = (v1 : Int) := by simp [IntKind.wrap, IntKind.bits, IntKind.signed]; omega
      replace hs := hide hs
      replace hv1 := hide hv1
      go_wp2_with fail
      go_round
      case rel => exact ⟨k + 1, by omega, by go_num, by rw [← hve.out]⟩
      case measure => simp [RowKit.intOf]; omega
    · obtain rfl : k = x.length := by omega
      have hlt' : ¬ (x.length : Int) < (x.length : Int) := by omega
      have ht : x.take x.length = x := List.take_length
      rw [ht]
      go_wp2_with fail
      go_ret
      exact ⟨rfl, rfl⟩
end Go.Proofs.YtiiihpokpfhclaaDoor
/- The document's parser: what an expression's functions come to; un where it can't read. -/
namespace Go.Proofs.YtiiihpokpfhclaaDoor
open Go Go.RowKit

/-- What a call that reads an expression comes to, from no error: the tree, and the tokens left; or the first error, at its place, and some pointer. -/
def RfG (p : Nat) (C : Cx) (a d n : Nat) (w : World) (X : Rs Ex) (e : Ending) (w' : World) : Prop :=
  Upd (At p) w w' ∧ ∃ v, e = .returned v ∧ match X with
    | .ok x r => (∃ i, C.ts.drop i = r ∧ RfW w' p C i 0 a d n) ∧ ExV w' (w.heap.size ≤ ·) x v
    | .er r k => (∃ q, v = .pointer q) ∧ k ≠ 0 ∧ ∃ i, RfW w' p C i k (atOf C.len r) d n
    | .no => False
/-- From an error: nothing. -/
def RfN (p : Nat) (C : Cx) (i e a d n : Nat) (w : World) (r : Ending) (w' : World) : Prop := r = .returned (.pointer none) ∧ Upd (At p) w w' ∧ RfW w' p C i e a d n
set_option maxRecDepth 100000 in
set_option maxHeartbeats 1600000 in
theorem un_e (p : Nat) (w : World) (e a d n i : Nat) (C : Cx) (h : RfW w p C i e a d n) (he0 : e ≠ 0) :
    Calls Tryd.prog 91 #[.pointer (some ⟨p, 0, none⟩)] w fun r w' => RfN p C i e a d n w r w' := by
  have hF := hide (fun w1 (hb : Below w.heap.size w w1) => fail_e 51 p w1 e a d n i C (h.below hb) he0)
  obtain ⟨A, c, hA, hm⟩ := h.row.slice
  have hh := h.heap
  rw [hA] at hh
  have c0 := cell_at hh 0
  have c1 := cell_at hh 1
  have c3 := cell_at hh 3
  simp at c0 c1 c3
  have he : ((e : Int) == 0) = false := beq_false_of_ne (by omega)
  have he2 : decide ((e : Int) = 0) = false := by simp; omega
  have he3 : ¬ (e : Int) = 0 := by omega
  have he4 : ¬ e = 0 := he0
  replace h := hide h
  generalize C.ts.length = N at *
  clear hA hm hh he0
  go_enter Tryd.func91, Tryd.ntmps91
  go_wp2_with fail
  go_quiet (fail)
  go_wp2_with fail
  have hb := below_drewN (Below.refl w.heap.size w)
  refine (hF.out _ (hb _)).mono ?_
  rintro r w1 ⟨rfl, rfl⟩
  go_wp2_with fail
  go_ret
  exact ⟨rfl, .of_below _ (hb _), h.out.below (hb _)⟩
set_option maxRecDepth 100000 in
set_option maxHeartbeats 1600000 in
theorem un_end (p : Nat) (w : World) (a d n i : Nat) (C : Cx) (h : RfW w p C i 0 a d n) (hl : C.ts.length ≤ i) :
    Calls Tryd.prog 91 #[.pointer (some ⟨p, 0, none⟩)] w fun r w' => r = .returned (.pointer none) ∧ Upd (At p) w w' ∧ RfW w' p C i 51 (atOf C.len (C.ts.drop i)) d n := by
  have hF := hide (fun w1 (hb : Below w.heap.size w w1) => fail_0 51 p w1 a d n i C (h.below hb))
  obtain ⟨A, c, hA, hm⟩ := h.row.slice
  have hh := h.heap
  rw [hA] at hh
  have c0 := cell_at hh 0
  have c1 := cell_at hh 1
  have c3 := cell_at hh 3
  simp at c0 c1 c3
  have hl' : (C.ts.length : Int) ≤ (i : Int) := by omega
  have hdec : decide ((C.ts.length : Int) ≤ (i : Int)) = true := by simp; omega
  replace h := hide h
  generalize C.ts.length = N at *
  clear hA hm hh hl
  go_enter Tryd.func91, Tryd.ntmps91
  go_wp2_with fail
  go_quiet (fail)
  go_wp2_with fail
  have hb := below_drewN (Below.refl w.heap.size w)
  refine (hF.out _ (hb _)).mono ?_
  rintro r w1 ⟨rfl, hu, h1⟩
  replace h1 := hide h1
  replace hu := hide hu
  go_wp2_with fail
  go_ret
  exact ⟨rfl, (Upd.of_below _ (hb _)).then hu.out, h1.out⟩
end Go.Proofs.YtiiihpokpfhclaaDoor
/- The document's parser: un at a number. -/
namespace Go.Proofs.YtiiihpokpfhclaaDoor
open Go Go.RowKit

theorem NodeE.kept0 {B : Nat} {k n : Int} {s : ByteArray} {va vb : Value} : FKept (fun _ => False) (fun v w => NodeE w (B ≤ ·) v k n s va vb) := fun _ _ _ h hu => NodeE.upd h hu fun _ _ => id
theorem isQ_num {C : Cx} {i e : Nat} {x : List UInt8} {t : Tok} (ht : C.ts[i]? = some t) (hk : t.kind = 1) : isQ C i e x = false := by
  unfold isQ
  rw [drop_cons ht]
  simp [isNum, hk]
set_option maxRecDepth 100000 in
set_option maxHeartbeats 3200000 in
theorem un_num (p : Nat) (w : World) (a d n i : Nat) (C : Cx) (h : RfW w p C i 0 a d n) (t : Tok) (ht : C.ts[i]? = some t) (hk1 : t.kind = 1) :
    Calls Tryd.prog 91 #[.pointer (some ⟨p, 0, none⟩)] w fun r w' => RfG p C a d n w (.ok (.num (valL t.text)) (C.ts.drop (i + 1))) r w' := by
  have hB1 := hide (fun w1 (hb : Below w.heap.size w w1) => is_any [45] (by decide) p w1 0 a d n i C (h.below hb))
  have hB2 := hide (fun w1 (hb : Below w.heap.size w w1) => is_any [40] (by decide) p w1 0 a d n i C (h.below hb))
  rw [isQ_num ht hk1] at hB1 hB2
  have hl : i < C.ts.length := (List.getElem?_eq_some_iff.1 ht).1
  have hg := h.ok.good t (List.mem_of_getElem? ht)
  have hnum := hide (refNum_any t.text (hg.num hk1).1 (hg.num hk1).2 hg.len)
  have hsm := h.ok.small
  obtain ⟨A, c, hA, hm⟩ := h.row.slice
  have hh := h.heap
  rw [hA] at hh
  have c0 := cell_at hh 0
  have c1 := cell_at hh 1
  have c3 := cell_at hh 3
  simp at c0 c1 c3
  have hdec : decide ((C.ts.length : Int) ≤ (i : Int)) = false := by simp; omega
  have hnl : ¬ (C.ts.length : Int) ≤ (i : Int) := by omega
  replace h := hide h
  replace hg := hide hg
  generalize hN : C.ts.length = N at *
  replace hN := hide hN
  replace ht := hide ht
  replace hl := hide hl
  clear hm hh
  go_enter Tryd.func91, Tryd.ntmps91
  go_wp2_with fail
  go_quiet (fail)
  go_wp2_with fail
  have hb0 := below_drewN (Below.refl w.heap.size w)
  refine (hB1.out _ (hb0 _)).mono ?_
  rintro r w1 ⟨rfl, hb1'⟩
  have hb1 := hide ((hb0 _).trans (hb1'.mono (hb0 _).size))
  clear hb1' c0 c1 c3
  go_wp2_with fail
  refine (hB2.out _ hb1.out).mono ?_
  rintro r w2 ⟨rfl, hb2'⟩
  have hb2 := hide (hb1.out.trans (hb2'.mono hb1.out.size))
  clear hb2'
  have h2 := h.out.below hb2.out
  have hh := h2.heap
  have hrow := h2.row
  rw [hA] at hh hrow
  obtain ⟨b, rfl, t0, t1, -⟩ := hrow.get ht.out
  have c0 := cell_at hh 0
  have c1 := cell_at hh 1
  simp at c0 c1
  rw [hk1] at t0
  have hli : (i : Int) < (N : Int) := by omega
  replace h2 := hide h2
  clear hh hrow hnl hdec
  have f1 : w2.frozen? ⟨p, 1, none⟩ = false := frozen_at h2.out.heap 1
  have hw1 : IntKind.i64.wrap ((i : Int) + 1) = (i : Int) + 1 := by simp [IntKind.wrap, IntKind.bits, IntKind.signed]; omega
  have hl1 : i + 1 ≤ C.ts.length := by rw [hN.out]; exact hl.out
  have h3 := hide (fun m => RfW.set (h2.out.below (below_drewN (Below.refl _ _) m)) (i' := i + 1) 1 (.int .i64 ((i : Int) + 1)) (heap_set (h2.out.below (below_drewN (Below.refl _ _) m)).heap 1 _) hl1 h2.out.hd h2.out.hn)
  have u3 := hide (fun m => (Upd.of_below (At p) (hb2.out.trans ((below_drewN (Below.refl _ _) m : Below w2.heap.size w2 (w2.drewN m)).mono hb2.out.size))).then (Upd.set (w2.drewN m) (F := At p) (a := ⟨p, 1, none⟩) rfl (.int .i64 ((i : Int) + 1))))
  go_wp2_with fail
  go_quiet (fail)
  go_wp2_with fail
  generalize hw3 : World.setCell (World.drewN w2 _) _ _ = w3
  have h4 : RfW w3 p C (i + 1) 0 a d n := hw3 ▸ h3.out _
  have u4 : Upd (At p) w w3 := hw3 ▸ u3.out _
  have hh := h4.heap
  have hrow := h4.row
  rw [hA] at hh hrow
  obtain ⟨b', hbe, -, t1', -⟩ := hrow.get ht.out
  injection hbe with hbe
  injection hbe with hbe _ _
  subst hbe
  have c0 := cell_at hh 0
  have c1 := cell_at hh 1
  simp at c0 c1
  obtain ⟨tx, hxe⟩ : ∃ tx, tx = t.text := ⟨_, rfl⟩
  obtain ⟨vl, hve⟩ : ∃ vl, vl = valL tx := ⟨_, rfl⟩
  rw [← hxe] at t1' hnum
  rw [← hve] at hnum
  have hB : w.heap.size ≤ w3.heap.size := u4.size
  generalize hBe : w.heap.size = B at hB
  replace t1 := hide t1'
  replace c0 := hide c0
  replace c1 := hide c1
  have hlt := hide hli
  replace hB := hide hB
  replace hBe := hide hBe
  replace hxe := hide hxe
  replace hve := hide hve
  have hws := hide (show IntKind.i64.wrap (i : Int) = (i : Int) by simp [IntKind.wrap, IntKind.bits, IntKind.signed]; omega)
  replace h4 := hide h4
  replace u4 := hide u4
  clear hh hrow t1' h3 u3 hw1 hli t0
  refine wp_region_flow (fun _ => False) (factAt [(fun v _ => v = (.pointer (some ⟨p, 0, none⟩))), (fun v _ => v = (.pointer (some ⟨p, 0, none⟩))), (fun v _ => v = (.pointer (some ⟨p, 0, none⟩))), (fun v _ => v = (.slice (some ⟨b, 0, none⟩) N c)), (fun v _ => v = (.pointer (some ⟨p, 0, none⟩))), (fun v _ => v = (.pointer (some ⟨p, 0, none⟩))), (fun v _ => v = (.pointer (some ⟨p, 1, none⟩))), (fun v _ => v = (.int .i64 ((i : Int) + 1))), (fun v _ => v = (.int .i64 i)), (fun v _ => v = (.pointer (some ⟨b, i * 3, none⟩))), (fun v _ => v = (.pointer (some ⟨b, i * 3 + 1, none⟩))), (fun v _ => v = (.string (strB tx))), (fun v _ => v = (.int .i64 vl)), (fun v _ => v = (.agg #[.int .i64 0, .int .i64 vl, .string ⟨#[]⟩, .pointer none, .pointer none])), (fun v w => NodeE w (B ≤ ·) v 0 (vl : Int) ⟨#[]⟩ (.pointer none) (.pointer none)), (fun v w => NodeE w (B ≤ ·) v 0 (vl : Int) ⟨#[]⟩ (.pointer none) (.pointer none))]) [] (fun _ => True) (by kernel_rfl) (fkept_at ⟨FKept.eq _, FKept.eq _, FKept.eq _, FKept.eq _, FKept.eq _, FKept.eq _, FKept.eq _, FKept.eq _, FKept.eq _, FKept.eq _, FKept.eq _, FKept.eq _, FKept.eq _, FKept.eq _, NodeE.kept0, NodeE.kept0, trivial⟩) (fun _ _ h _ => h) trivial (by kernel_rfl) (by kernel_rfl) (by kernel_rfl) (by kernel_rfl) (Nat.le_of_ble_eq_true (by kernel_rfl)) ?_ ⟨?_, ?_, ?_, ?_, ?_, ?_, ?_, ?_, ?_, ?_, ?_, ?_, ?_, ?_, ?_, ?_, trivial⟩ ?_
  · first | exact trivial | assumption
  · intro T w Q hu hs hv hw hd
    have hx0 : T.getD 0 undef = (.pointer (some ⟨p, 0, none⟩)) := hv 0 (by kernel_rfl)
    refine .inl ⟨wanted_none rfl, ?_⟩
    clear hd hv hu hs hw
    go_simp
    exact ⟨_, rfl, DstOk.some rfl, Below.refl _ _, rfl⟩
  · intro T w Q hu hs hv hw hd
    have hx97 : T.getD 97 undef = (.pointer (some ⟨p, 0, none⟩)) := Deps.at 0 hd (by kernel_rfl)
    refine .inl ⟨wanted_none rfl, ?_⟩
    clear hd hv hu hs hw
    go_simp
    exact ⟨_, rfl, DstOk.some rfl, Below.refl _ _, rfl⟩
  · intro T w Q hu hs hv hw hd
    have hx98 : T.getD 98 undef = (.pointer (some ⟨p, 0, none⟩)) := Deps.at 1 hd (by kernel_rfl)
    refine .inl ⟨wanted_none rfl, ?_⟩
    clear hd hv hu hs hw
    go_simp
    exact ⟨_, rfl, DstOk.some rfl, Below.refl _ _, rfl⟩
  · intro T w Q hu hs hv hw hd
    have hx99 : T.getD 99 undef = (.pointer (some ⟨p, 0, none⟩)) := Deps.at 2 hd (by kernel_rfl)
    refine .inl ⟨wanted_none rfl, ?_⟩
    have hq := hu.cell c0.out id
    clear hd hv hu hs hw
    go_simp
    exact ⟨_, rfl, DstOk.some rfl, Below.refl _ _, rfl⟩
  · intro T w Q hu hs hv hw hd
    have hx0 : T.getD 0 undef = (.pointer (some ⟨p, 0, none⟩)) := hv 0 (by kernel_rfl)
    refine .inl ⟨wanted_none rfl, ?_⟩
    clear hd hv hu hs hw
    go_simp
    exact ⟨_, rfl, DstOk.some rfl, Below.refl _ _, rfl⟩
  · intro T w Q hu hs hv hw hd
    have hx101 : T.getD 101 undef = (.pointer (some ⟨p, 0, none⟩)) := Deps.at 4 hd (by kernel_rfl)
    refine .inl ⟨wanted_none rfl, ?_⟩
    clear hd hv hu hs hw
    go_simp
    exact ⟨_, rfl, DstOk.some rfl, Below.refl _ _, rfl⟩
  · intro T w Q hu hs hv hw hd
    have hx102 : T.getD 102 undef = (.pointer (some ⟨p, 0, none⟩)) := Deps.at 5 hd (by kernel_rfl)
    refine .inl ⟨wanted_none rfl, ?_⟩
    clear hd hv hu hs hw
    go_simp
    exact ⟨_, rfl, DstOk.some rfl, Below.refl _ _, rfl⟩
  · intro T w Q hu hs hv hw hd
    have hx103 : T.getD 103 undef = (.pointer (some ⟨p, 1, none⟩)) := Deps.at 6 hd (by kernel_rfl)
    refine .inl ⟨wanted_none rfl, ?_⟩
    have hq := hu.cell c1.out id
    clear hd hv hu hs hw
    go_simp
    exact ⟨_, rfl, DstOk.some rfl, Below.refl _ _, rfl⟩
  · intro T w Q hu hs hv hw hd
    have hx104 : T.getD 104 undef = (.int .i64 ((i : Int) + 1)) := Deps.at 7 hd (by kernel_rfl)
    refine .inl ⟨wanted_none rfl, ?_⟩
    clear hd hv hu hs hw
    go_simp
    exact ⟨_, rfl, DstOk.some rfl, Below.refl _ _, congrArg (Value.int .i64) hws.out⟩
  · intro T w Q hu hs hv hw hd
    have hx100 : T.getD 100 undef = (.slice (some ⟨b, 0, none⟩) N c) := Deps.at 3 hd (by kernel_rfl)
    have hx105 : T.getD 105 undef = (.int .i64 i) := Deps.at 8 hd (by kernel_rfl)
    refine .inl ⟨wanted_none rfl, ?_⟩
    have a0 := hlt.out
    clear hd hv hu hs hw
    go_simp
    exact ⟨_, rfl, DstOk.some rfl, Below.refl _ _, rfl⟩
  · intro T w Q hu hs hv hw hd
    have hx106 : T.getD 106 undef = (.pointer (some ⟨b, i * 3, none⟩)) := Deps.at 9 hd (by kernel_rfl)
    refine .inl ⟨wanted_none rfl, ?_⟩
    clear hd hv hu hs hw
    go_simp
    exact ⟨_, rfl, DstOk.some rfl, Below.refl _ _, rfl⟩
  · intro T w Q hu hs hv hw hd
    have hx107 : T.getD 107 undef = (.pointer (some ⟨b, i * 3 + 1, none⟩)) := Deps.at 10 hd (by kernel_rfl)
    refine .inl ⟨wanted_none rfl, ?_⟩
    have hq := hu.cell t1.out id
    clear hd hv hu hs hw
    go_simp
    exact ⟨_, rfl, DstOk.some rfl, Below.refl _ _, rfl⟩
  · intro T w Q hu hs hv hw hd
    have hx108 : T.getD 108 undef = (.string (strB tx)) := Deps.at 11 hd (by kernel_rfl)
    refine .inl ⟨wanted_none rfl, ?_⟩
    have hN := hnum.out w
    clear hd hv hu hs hw
    go_simp
    refine hN.mono ?_
    rintro e w5 ⟨rfl, rfl⟩
    exact ⟨_, rfl, DstOk.some rfl, Below.refl _ _, rfl⟩
  · intro T w Q hu hs hv hw hd
    have hx109 : T.getD 109 undef = (.int .i64 vl) := Deps.at 12 hd (by kernel_rfl)
    have hy109 := hx109
    rw [Array.getD_eq_getD_getElem?] at hy109
    refine .inl ⟨wanted_none rfl, ?_⟩
    clear hd hv hu hs hw
    go_simp
    exact ⟨_, rfl, DstOk.some rfl, Below.refl _ _, rfl⟩
  · intro T w Q hu hs hv hw hd
    have hx110 : T.getD 110 undef = (.agg #[.int .i64 0, .int .i64 vl, .string ⟨#[]⟩, .pointer none, .pointer none]) := Deps.at 13 hd (by kernel_rfl)
    refine .inl ⟨wanted_none rfl, ?_⟩
    have hBw := Nat.le_trans hB.out hu.size
    clear hd hv hu hs hw
    go_simp
    exact ⟨_, rfl, DstOk.some rfl, (Below.refl _ w).alloc (Nat.le_refl _) _, ⟨_, rfl, hBw, heap_new w _⟩⟩
  · intro T w Q hu hs hv hw hd
    have f111 : (fun (v : Value) (w : World) => NodeE w (B ≤ ·) v 0 (vl : Int) ⟨#[]⟩ (.pointer none) (.pointer none)) (T.getD 111 undef) w := Deps.at 14 hd (by kernel_rfl)
    generalize hx111 : T.getD 111 undef = x111 at f111
    replace f111 := hide f111
    refine .inl ⟨wanted_none rfl, ?_⟩
    have hF := f111.out
    clear hd hv hu hs hw f111
    go_simp
    exact ⟨_, rfl, DstOk.some rfl, Below.refl _ _, hF⟩
  intro T w hu hs hv hf hcur
  have f15 : (fun (v : Value) (w : World) => NodeE w (B ≤ ·) v 0 (vl : Int) ⟨#[]⟩ (.pointer none) (.pointer none)) (T.getD 2 undef) w := hf 15 (by decide)
  have hT : T = #[T.getD 0 undef, T.getD 1 undef, T.getD 2 undef, T.getD 3 undef, T.getD 4 undef, T.getD 5 undef, T.getD 6 undef, T.getD 7 undef, T.getD 8 undef, T.getD 9 undef, T.getD 10 undef, T.getD 11 undef, T.getD 12 undef, T.getD 13 undef, T.getD 14 undef, T.getD 15 undef, T.getD 16 undef, T.getD 17 undef, T.getD 18 undef, T.getD 19 undef, T.getD 20 undef, T.getD 21 undef, T.getD 22 undef, T.getD 23 undef, T.getD 24 undef, T.getD 25 undef, T.getD 26 undef, T.getD 27 undef, T.getD 28 undef, T.getD 29 undef, T.getD 30 undef, T.getD 31 undef, T.getD 32 undef, T.getD 33 undef, T.getD 34 undef, T.getD 35 undef, T.getD 36 undef, T.getD 37 undef, T.getD 38 undef, T.getD 39 undef, T.getD 40 undef, T.getD 41 undef, T.getD 42 undef, T.getD 43 undef, T.getD 44 undef, T.getD 45 undef, T.getD 46 undef, T.getD 47 undef, T.getD 48 undef, T.getD 49 undef, T.getD 50 undef, T.getD 51 undef, T.getD 52 undef, T.getD 53 undef, T.getD 54 undef, T.getD 55 undef, T.getD 56 undef, T.getD 57 undef, T.getD 58 undef, T.getD 59 undef, T.getD 60 undef, T.getD 61 undef, T.getD 62 undef, T.getD 63 undef, T.getD 64 undef, T.getD 65 undef, T.getD 66 undef, T.getD 67 undef, T.getD 68 undef, T.getD 69 undef, T.getD 70 undef, T.getD 71 undef, T.getD 72 undef, T.getD 73 undef, T.getD 74 undef, T.getD 75 undef, T.getD 76 undef, T.getD 77 undef, T.getD 78 undef, T.getD 79 undef, T.getD 80 undef, T.getD 81 undef, T.getD 82 undef, T.getD 83 undef, T.getD 84 undef, T.getD 85 undef, T.getD 86 undef, T.getD 87 undef, T.getD 88 undef, T.getD 89 undef, T.getD 90 undef, T.getD 91 undef, T.getD 92 undef, T.getD 93 undef, T.getD 94 undef, T.getD 95 undef, T.getD 96 undef, T.getD 97 undef, T.getD 98 undef, T.getD 99 undef, T.getD 100 undef, T.getD 101 undef, T.getD 102 undef, T.getD 103 undef, T.getD 104 undef, T.getD 105 undef, T.getD 106 undef, T.getD 107 undef, T.getD 108 undef, T.getD 109 undef, T.getD 110 undef, T.getD 111 undef, T.getD 112 undef, T.getD 113 undef, T.getD 114 undef, T.getD 115 undef, T.getD 116 undef, T.getD 117 undef, T.getD 118 undef] := expl hs
  rw [hT]
  clear hT
  rw [show T.getD 0 undef = (.pointer (some ⟨p, 0, none⟩)) from hv 0 (by kernel_rfl)]
  rw [hv 1 (by kernel_rfl)]
  rw [hv 3 (by kernel_rfl)]
  rw [hv 4 (by kernel_rfl)]
  rw [hv 5 (by kernel_rfl)]
  rw [hv 6 (by kernel_rfl)]
  rw [hv 7 (by kernel_rfl)]
  rw [hv 8 (by kernel_rfl)]
  rw [hv 9 (by kernel_rfl)]
  rw [hv 10 (by kernel_rfl)]
  rw [hv 11 (by kernel_rfl)]
  rw [hv 12 (by kernel_rfl)]
  rw [hv 13 (by kernel_rfl)]
  rw [hv 14 (by kernel_rfl)]
  rw [hv 15 (by kernel_rfl)]
  rw [hv 16 (by kernel_rfl)]
  rw [hv 17 (by kernel_rfl)]
  rw [hv 18 (by kernel_rfl)]
  rw [hv 19 (by kernel_rfl)]
  rw [hv 20 (by kernel_rfl)]
  rw [hv 21 (by kernel_rfl)]
  rw [hv 22 (by kernel_rfl)]
  rw [hv 23 (by kernel_rfl)]
  rw [hv 24 (by kernel_rfl)]
  rw [hv 25 (by kernel_rfl)]
  rw [hv 26 (by kernel_rfl)]
  rw [hv 27 (by kernel_rfl)]
  rw [hv 28 (by kernel_rfl)]
  rw [hv 29 (by kernel_rfl)]
  rw [hv 30 (by kernel_rfl)]
  rw [hv 31 (by kernel_rfl)]
  rw [hv 32 (by kernel_rfl)]
  rw [hv 33 (by kernel_rfl)]
  rw [hv 34 (by kernel_rfl)]
  rw [hv 35 (by kernel_rfl)]
  rw [hv 36 (by kernel_rfl)]
  rw [hv 37 (by kernel_rfl)]
  rw [hv 38 (by kernel_rfl)]
  rw [hv 39 (by kernel_rfl)]
  rw [hv 40 (by kernel_rfl)]
  rw [hv 41 (by kernel_rfl)]
  rw [hv 42 (by kernel_rfl)]
  rw [hv 43 (by kernel_rfl)]
  rw [hv 44 (by kernel_rfl)]
  rw [hv 45 (by kernel_rfl)]
  rw [hv 46 (by kernel_rfl)]
  rw [hv 47 (by kernel_rfl)]
  rw [hv 48 (by kernel_rfl)]
  rw [hv 49 (by kernel_rfl)]
  rw [hv 50 (by kernel_rfl)]
  rw [hv 51 (by kernel_rfl)]
  rw [hv 52 (by kernel_rfl)]
  rw [hv 53 (by kernel_rfl)]
  rw [hv 54 (by kernel_rfl)]
  rw [hv 55 (by kernel_rfl)]
  rw [hv 56 (by kernel_rfl)]
  rw [hv 57 (by kernel_rfl)]
  rw [hv 58 (by kernel_rfl)]
  rw [hv 59 (by kernel_rfl)]
  rw [hv 60 (by kernel_rfl)]
  rw [hv 61 (by kernel_rfl)]
  rw [hv 62 (by kernel_rfl)]
  rw [hv 63 (by kernel_rfl)]
  rw [hv 64 (by kernel_rfl)]
  rw [hv 65 (by kernel_rfl)]
  rw [hv 66 (by kernel_rfl)]
  rw [hv 67 (by kernel_rfl)]
  rw [hv 68 (by kernel_rfl)]
  rw [hv 69 (by kernel_rfl)]
  rw [hv 70 (by kernel_rfl)]
  rw [hv 71 (by kernel_rfl)]
  rw [hv 72 (by kernel_rfl)]
  rw [hv 73 (by kernel_rfl)]
  rw [hv 74 (by kernel_rfl)]
  rw [hv 75 (by kernel_rfl)]
  rw [hv 76 (by kernel_rfl)]
  rw [hv 77 (by kernel_rfl)]
  rw [hv 78 (by kernel_rfl)]
  rw [hv 79 (by kernel_rfl)]
  rw [hv 80 (by kernel_rfl)]
  rw [hv 81 (by kernel_rfl)]
  rw [hv 82 (by kernel_rfl)]
  rw [hv 83 (by kernel_rfl)]
  rw [hv 84 (by kernel_rfl)]
  rw [hv 85 (by kernel_rfl)]
  rw [hv 86 (by kernel_rfl)]
  rw [hv 87 (by kernel_rfl)]
  rw [hv 88 (by kernel_rfl)]
  rw [hv 89 (by kernel_rfl)]
  rw [hv 90 (by kernel_rfl)]
  rw [hv 91 (by kernel_rfl)]
  rw [hv 92 (by kernel_rfl)]
  rw [hv 93 (by kernel_rfl)]
  rw [hv 94 (by kernel_rfl)]
  rw [hv 95 (by kernel_rfl)]
  rw [hv 96 (by kernel_rfl)]
  rw [show T.getD 97 undef = (.pointer (some ⟨p, 0, none⟩)) from hf 0 (by decide)]
  rw [show T.getD 98 undef = (.pointer (some ⟨p, 0, none⟩)) from hf 1 (by decide)]
  rw [show T.getD 99 undef = (.pointer (some ⟨p, 0, none⟩)) from hf 2 (by decide)]
  rw [show T.getD 100 undef = (.slice (some ⟨b, 0, none⟩) N c) from hf 3 (by decide)]
  rw [show T.getD 101 undef = (.pointer (some ⟨p, 0, none⟩)) from hf 4 (by decide)]
  rw [show T.getD 102 undef = (.pointer (some ⟨p, 0, none⟩)) from hf 5 (by decide)]
  rw [show T.getD 103 undef = (.pointer (some ⟨p, 1, none⟩)) from hf 6 (by decide)]
  rw [show T.getD 104 undef = (.int .i64 ((i : Int) + 1)) from hf 7 (by decide)]
  rw [show T.getD 105 undef = (.int .i64 i) from hf 8 (by decide)]
  rw [show T.getD 106 undef = (.pointer (some ⟨b, i * 3, none⟩)) from hf 9 (by decide)]
  rw [show T.getD 107 undef = (.pointer (some ⟨b, i * 3 + 1, none⟩)) from hf 10 (by decide)]
  rw [show T.getD 108 undef = (.string (strB tx)) from hf 11 (by decide)]
  rw [show T.getD 109 undef = (.int .i64 vl) from hf 12 (by decide)]
  rw [show T.getD 110 undef = (.agg #[.int .i64 0, .int .i64 vl, .string ⟨#[]⟩, .pointer none, .pointer none]) from hf 13 (by decide)]
  rw [hv 112 (by kernel_rfl)]
  rw [hv 113 (by kernel_rfl)]
  rw [hv 114 (by kernel_rfl)]
  rw [hv 115 (by kernel_rfl)]
  rw [hv 116 (by kernel_rfl)]
  rw [hv 117 (by kernel_rfl)]
  rw [hv 118 (by kernel_rfl)]
  clear hf hs hv hcur
  simp only [getD_toArray, List.getD_cons_succ, List.getD_cons_zero]
  generalize T.getD 2 undef = y2 at f15 ⊢
  generalize T.getD 111 undef = y111
  clear T
  have hb9 := hide (hu.below (Nat.le_refl _) fun _ h => h.elim)
  replace f15 := hide f15
  clear hu
  go_wp2_with fail
  go_ret
  refine ⟨u4.out.then (.of_below _ hb9.out), _, rfl, ⟨i + 1, rfl, h4.out.below hb9.out⟩, ?_⟩
  have := f15.out
  rw [hve.out, hxe.out, ← hBe.out] at this
  exact this
end Go.Proofs.YtiiihpokpfhclaaDoor
/- The document's parser: un at a name, and at what fits nowhere. -/
namespace Go.Proofs.YtiiihpokpfhclaaDoor
open Go Go.RowKit

set_option maxRecDepth 100000 in
set_option maxHeartbeats 1600000 in
theorem un_name (p : Nat) (w : World) (a d n i : Nat) (C : Cx) (h : RfW w p C i 0 a d n) (t : Tok) (ht : C.ts[i]? = some t) (hk1 : t.kind ≠ 1) (hq1 : isQ C i 0 [45] = false) (hq2 : isQ C i 0 [40] = false) (hq3 : nmQ C i 0 = true) :
    Calls Tryd.prog 91 #[.pointer (some ⟨p, 0, none⟩)] w fun r w' => RfG p C a d n w (.ok (.var (txt (C.ts.drop i))) (C.ts.drop (i + 1))) r w' := by
  have hB1 := hide (fun w1 (hb : Below w.heap.size w w1) => is_any [45] (by decide) p w1 0 a d n i C (h.below hb))
  have hB2 := hide (fun w1 (hb : Below w.heap.size w w1) => is_any [40] (by decide) p w1 0 a d n i C (h.below hb))
  have hB3 := hide (fun w1 (hb : Below w.heap.size w w1) => named_any p w1 0 a d n i C (h.below hb))
  have hB4 := hide (fun w1 (hb : Below w.heap.size w w1) => name_yes p w1 a d n i C (h.below hb) hq3)
  rw [hq1] at hB1
  rw [hq2] at hB2
  rw [hq3] at hB3
  have hl : i < C.ts.length := (List.getElem?_eq_some_iff.1 ht).1
  obtain ⟨A, c, hA, hm⟩ := h.row.slice
  have hh := h.heap
  rw [hA] at hh
  have c0 := cell_at hh 0
  have c1 := cell_at hh 1
  have c3 := cell_at hh 3
  simp at c0 c1 c3
  have hdec : decide ((C.ts.length : Int) ≤ (i : Int)) = false := by simp; omega
  have hnl : ¬ (C.ts.length : Int) ≤ (i : Int) := by omega
  replace h := hide h
  generalize hN : C.ts.length = N at *
  replace hN := hide hN
  replace ht := hide ht
  replace hl := hide hl
  clear hm hh hq1 hq2 hq3
  go_enter Tryd.func91, Tryd.ntmps91
  go_wp2_with fail
  go_quiet (fail)
  go_wp2_with fail
  have hb0 := below_drewN (Below.refl w.heap.size w)
  refine (hB1.out _ (hb0 _)).mono ?_
  rintro r w1 ⟨rfl, hb1'⟩
  have hb1 := hide ((hb0 _).trans (hb1'.mono (hb0 _).size))
  clear hb1' c0 c1 c3
  go_wp2_with fail
  refine (hB2.out _ hb1.out).mono ?_
  rintro r w2 ⟨rfl, hb2'⟩
  have hb2 := hide (hb1.out.trans (hb2'.mono hb1.out.size))
  clear hb2'
  have h2 := h.out.below hb2.out
  have hh := h2.heap
  have hrow := h2.row
  rw [hA] at hh hrow
  obtain ⟨b, rfl, t0, -, -⟩ := hrow.get ht.out
  have c0 := cell_at hh 0
  have c1 := cell_at hh 1
  simp at c0 c1
  have hkk : ((t.kind : Int) == 1) = false := beq_false_of_ne (by omega)
  have hk2 : ¬ t.kind = 1 := hk1
  have hk3 : ¬ (t.kind : Int) = 1 := by omega
  have hk4 : decide ((t.kind : Int) = 1) = false := by simp; omega
  have hli : (i : Int) < (N : Int) := by have := hl.out; omega
  replace h2 := hide h2
  clear hh hrow hnl hdec hk1
  go_wp2_with fail
  go_quiet (fail)
  go_wp2_with fail
  have hbq := fun m => hb2.out.trans ((below_drewN (Below.refl w2.heap.size w2) m).mono hb2.out.size)
  refine (hB3.out _ (hbq _)).mono ?_
  rintro r w3 ⟨rfl, hb3'⟩
  have hb3 := hide ((hbq _).trans (hb3'.mono (hbq _).size))
  clear hb3' c0 c1 t0 hbq
  go_wp2_with fail
  refine (hB4.out _ hb3.out).mono ?_
  rintro r w4 ⟨rfl, hu4, h4⟩
  have u4 := hide ((Upd.of_below (At p) hb3.out).then hu4)
  replace h4 := hide h4
  clear hu4
  go_wp2_with fail
  go_ret
  exact ⟨u4.out.then (.alloc _ _ _), _, rfl, ⟨i + 1, rfl, h4.out.alloc _⟩, ⟨_, rfl, u4.out.size, heap_new w4 _⟩⟩
end Go.Proofs.YtiiihpokpfhclaaDoor
/- The document's parser: un at what fits nowhere. -/
namespace Go.Proofs.YtiiihpokpfhclaaDoor
open Go Go.RowKit

set_option maxRecDepth 100000 in
set_option maxHeartbeats 1600000 in
theorem un_no (p : Nat) (w : World) (a d n i : Nat) (C : Cx) (h : RfW w p C i 0 a d n) (t : Tok) (ht : C.ts[i]? = some t) (hk1 : t.kind ≠ 1) (hq1 : isQ C i 0 [45] = false) (hq2 : isQ C i 0 [40] = false) (hq3 : nmQ C i 0 = false) :
    Calls Tryd.prog 91 #[.pointer (some ⟨p, 0, none⟩)] w fun r w' => RfG p C a d n w (.er (C.ts.drop i) 51) r w' := by
  have hB1 := hide (fun w1 (hb : Below w.heap.size w w1) => is_any [45] (by decide) p w1 0 a d n i C (h.below hb))
  have hB2 := hide (fun w1 (hb : Below w.heap.size w w1) => is_any [40] (by decide) p w1 0 a d n i C (h.below hb))
  have hB3 := hide (fun w1 (hb : Below w.heap.size w w1) => named_any p w1 0 a d n i C (h.below hb))
  have hB4 := hide (fun w1 (hb : Below w.heap.size w w1) => fail_0 51 p w1 a d n i C (h.below hb))
  rw [hq1] at hB1
  rw [hq2] at hB2
  rw [hq3] at hB3
  have hl : i < C.ts.length := (List.getElem?_eq_some_iff.1 ht).1
  obtain ⟨A, c, hA, hm⟩ := h.row.slice
  have hh := h.heap
  rw [hA] at hh
  have c0 := cell_at hh 0
  have c1 := cell_at hh 1
  have c3 := cell_at hh 3
  simp at c0 c1 c3
  have hdec : decide ((C.ts.length : Int) ≤ (i : Int)) = false := by simp; omega
  have hnl : ¬ (C.ts.length : Int) ≤ (i : Int) := by omega
  replace h := hide h
  generalize hN : C.ts.length = N at *
  replace hN := hide hN
  replace ht := hide ht
  replace hl := hide hl
  clear hm hh hq1 hq2 hq3
  go_enter Tryd.func91, Tryd.ntmps91
  go_wp2_with fail
  go_quiet (fail)
  go_wp2_with fail
  have hb0 := below_drewN (Below.refl w.heap.size w)
  refine (hB1.out _ (hb0 _)).mono ?_
  rintro r w1 ⟨rfl, hb1'⟩
  have hb1 := hide ((hb0 _).trans (hb1'.mono (hb0 _).size))
  clear hb1' c0 c1 c3
  go_wp2_with fail
  refine (hB2.out _ hb1.out).mono ?_
  rintro r w2 ⟨rfl, hb2'⟩
  have hb2 := hide (hb1.out.trans (hb2'.mono hb1.out.size))
  clear hb2'
  have h2 := h.out.below hb2.out
  have hh := h2.heap
  have hrow := h2.row
  rw [hA] at hh hrow
  obtain ⟨b, rfl, t0, -, -⟩ := hrow.get ht.out
  have c0 := cell_at hh 0
  have c1 := cell_at hh 1
  simp at c0 c1
  have hkk : ((t.kind : Int) == 1) = false := beq_false_of_ne (by omega)
  have hk2 : ¬ t.kind = 1 := hk1
  have hk3 : ¬ (t.kind : Int) = 1 := by omega
  have hk4 : decide ((t.kind : Int) = 1) = false := by simp; omega
  have hli : (i : Int) < (N : Int) := by have := hl.out; omega
  replace h2 := hide h2
  clear hh hrow hnl hdec hk1
  go_wp2_with fail
  go_quiet (fail)
  go_wp2_with fail
  have hbq := fun m => hb2.out.trans ((below_drewN (Below.refl w2.heap.size w2) m).mono hb2.out.size)
  refine (hB3.out _ (hbq _)).mono ?_
  rintro r w3 ⟨rfl, hb3'⟩
  have hb3 := hide ((hbq _).trans (hb3'.mono (hbq _).size))
  clear hb3' c0 c1 t0 hbq
  go_wp2_with fail
  refine (hB4.out _ hb3.out).mono ?_
  rintro r w4 ⟨rfl, hu4, h4⟩
  have u4 := hide ((Upd.of_below (At p) hb3.out).then hu4)
  replace h4 := hide h4
  clear hu4
  go_wp2_with fail
  go_ret
  exact ⟨u4.out, _, rfl, ⟨_, rfl⟩, by decide, i, h4.out⟩
end Go.Proofs.YtiiihpokpfhclaaDoor
