/- Part 9 of the walks (merged): PsH, PsI, PsJ. -/
import Derived.Test.YteplkhgaoaphhaaGreatDoorM8
/- Lists of the call's own, of elements of several cells; statements in memory. -/
namespace Go.Proofs.YteplkhgaoaphhaaGreatDoor
open Go Go.RowKit Go.Lib

def All2 {α β : Type} (R : α → β → Prop) : List α → List β → Prop
  | [], [] => True
  | a :: l, b :: m => R a b ∧ All2 R l m
  | _, _ => False
section
variable {α β : Type} {R R' : α → β → Prop}
theorem All2.mono (h : ∀ a b, R a b → R' a b) : ∀ {l : List α} {m : List β}, All2 R l m → All2 R' l m
  | [], [], _ => trivial
  | _ :: _, _ :: _, ⟨h1, h2⟩ => ⟨h _ _ h1, All2.mono h h2⟩
theorem All2.snoc {a : α} {b : β} (hab : R a b) : ∀ {l : List α} {m : List β}, All2 R l m → All2 R (l ++ [a]) (m ++ [b])
  | [], [], _ => ⟨hab, trivial⟩
  | _ :: _, _ :: _, ⟨h1, h2⟩ => ⟨h1, All2.snoc hab h2⟩
theorem All2.len : ∀ {l : List α} {m : List β}, All2 R l m → l.length = m.length
  | [], [], _ => rfl
  | _ :: _, _ :: _, ⟨_, h2⟩ => by simp [All2.len h2]
end
/-- A family of readings: kept where its blocks are kept. -/
structure Fam {α : Type} (P : World → (Nat → Prop) → α → List Value → Prop) : Prop where
  upd : ∀ {w w' : World} {S F : Nat → Prop} {a : α} {us : List Value}, Upd F w w' → (∀ b, S b → ¬ F b) → P w S a us → P w' S a us
  mono : ∀ {w : World} {S S' : Nat → Prop} {a : α} {us : List Value}, (∀ b, b < w.heap.size → S b → S' b) → P w S a us → P w S' a us
  one : ∀ {w : World} {S : Nat → Prop} {a : α} {us : List Value}, P w S a us → ∀ u ∈ us, u.oneCell' = true
/-- A list of the call's own, whose elements reach blocks from B on, but not the list's own. -/
def RowS {α : Type} (w : World) (B : Nat) (e : TypeId) (sz : Nat) (P : World → (Nat → Prop) → α → List Value → Prop) (l : List α) (v : Value) : Prop :=
  ∃ uss : List (List Value), w.ownsRow B e sz v l.length uss.flatten ∧ All2 (fun a us => us.length = sz ∧ P w (fun b => B ≤ b ∧ v.ownBlock ≠ some b) a us) l uss
section
variable {α : Type} {P : World → (Nat → Prop) → α → List Value → Prop} {w w' : World} {B : Nat} {e : TypeId} {sz : Nat} {l : List α} {v : Value}
theorem RowS.nil_ (w : World) (B : Nat) (e : TypeId) (sz : Nat) (P : World → (Nat → Prop) → α → List Value → Prop) : RowS w B e sz P [] (.slice none 0 0) := ⟨[], World.ownsRow_nil _ _ _ _, trivial⟩
theorem RowS.one_ (_ : Fam P) {g : Nat} {us : List Value} {a : α} {t : TypeId} (h : w.heap[g]? = some (.cells us.toArray t (0, 0))) (hg : B ≤ g) (hl : us.length = sz) (hPa : P w (fun b => B ≤ b ∧ (Value.slice (some ⟨g, 0, none⟩) 1 1).ownBlock ≠ some b) a us) : RowS w B t sz P [a] (.slice (some ⟨g, 0, none⟩) 1 1) := by
  refine ⟨[us], ⟨by simp [hl], .inr ⟨g, 1, us.toArray, rfl, hg, h, Nat.le_refl _, by unfold maxLen; omega, by simp [hl], by rw [← hl]; simp⟩⟩, ⟨⟨hl, hPa⟩, trivial⟩⟩
theorem RowS.own (h : RowS w B e sz P l v) : ∀ k, v.ownBlock = some k → B ≤ k ∧ k < w.heap.size := by
  obtain ⟨uss, h1, -⟩ := h
  intro k hk
  exact h1.lt k hk
theorem RowS.slice (h : RowS w B e sz P l v) : ∃ A c, v = .slice A l.length c := by
  obtain ⟨uss, h1, -⟩ := h
  exact own_slice h1
theorem RowS.upd {F : Nat → Prop} (hP : Fam P) (h : RowS w B e sz P l v) (hu : Upd F w w') (hF : ∀ b, B ≤ b → ¬ F b) : RowS w' B e sz P l v := by
  have ho := h.own
  obtain ⟨uss, h1, h2⟩ := h
  exact ⟨uss, hu.own h1 (fun k hk => hF k (ho k hk).1), h2.mono fun a us ⟨h3, h4⟩ => ⟨h3, hP.upd hu (fun b hb => hF b hb.1) h4⟩⟩
theorem RowS.push (hP : Fam P) (h : RowS w B e sz P l v) {a : α} {us : List Value} (hl : us.length = sz) (hPa : P w (fun b => B ≤ b ∧ v.ownBlock ≠ some b) a us) {v' : Value}
    (hg : w.grownBy w' v.ownBlock) (hm : ∀ k, v'.ownBlock = some k → v.ownBlock = some k ∨ w.heap.size ≤ k) (uss : List (List Value)) (h2 : All2 (fun a us => us.length = sz ∧ P w (fun b => B ≤ b ∧ v.ownBlock ≠ some b) a us) l uss) (hown : w'.ownsRow B e sz v' (l.length + 1) (uss.flatten ++ us)) :
    RowS w' B e sz P (l ++ [a]) v' := by
  refine ⟨uss ++ [us], by simpa using hown, ?_⟩
  have hu : Upd (fun k => v.ownBlock = some k) w w' := Upd.grown hg fun k hk => hk
  have key : ∀ (a : α) (us : List Value), P w (fun b => B ≤ b ∧ v.ownBlock ≠ some b) a us → P w' (fun b => B ≤ b ∧ v'.ownBlock ≠ some b) a us := by
    intro a us h
    have h3 : P w (fun b => B ≤ b ∧ v.ownBlock ≠ some b ∧ v'.ownBlock ≠ some b) a us := hP.mono (fun b hb ⟨h1, h2⟩ => ⟨h1, h2, fun e => by
      rcases hm b e with h | h
      · exact h2 h
      · omega⟩) h
    have h4 := hP.upd hu (fun b hb e => hb.2.1 e) h3
    exact hP.mono (fun b _ hb => ⟨hb.1, hb.2.2⟩) h4
  exact All2.snoc ⟨hl, key _ _ hPa⟩ (h2.mono fun a us ⟨h3, h4⟩ => ⟨h3, key a us h4⟩)
end

section
variable {α : Type} {P : World → (Nat → Prop) → α → List Value → Prop} {w : World} {ops : Array Oper} {rest : List Oper} {o : Oper} {a : Act} {Q : Exit → Act → World → Prop}
/-- The walk's law: one element more in such a list. -/
theorem wp_row (hP : Fam P) (t e : TypeId) (z : Value) (sz bytes : Nat) (ht : Tryz.prog.underlying t = some (.slice e)) (hinfo : (Tryz.prog.info? e).map (fun i => (i.zero, i.size, i.bytes)) = some (some z, sz, bytes)) (hzs : z.cells.size = sz) (hsz : 0 < sz) (hby : bytes ≤ 200)
    (hgd : o.guard = none) (s x : Operand) (ho : o.op = .call { callee := .builtin .append, args := #[s, x], argTypes := #[t, t] })
    (B : Nat) (v : Value) (l : List α) (hs : a.eval s = v) (hrow : RowS w B e sz P l v) (g c : Nat) (hx : a.eval x = .slice (some ⟨g, 0, none⟩) 1 c) (el : α) (us : List Value) (hl : us.length = sz)
    (hcell : ∀ j u, us[j]? = some u → w.cell? ⟨g, j, none⟩ = some u) (hPa : P w (fun b => B ≤ b ∧ v.ownBlock ≠ some b) el us) (hlen : l.length ≤ 1000000) (hbase : B ≤ w.heap.size)
    (h : ∀ v' w', RowS w' B e sz P (l ++ [el]) v' → Upd (fun k => v.ownBlock = some k) w w' → wpList Tryz.prog ops Q rest (a.put o.dst v') w') : wpList Tryz.prog ops Q (o :: rest) a w := by
  obtain ⟨i0, hi, hz0, hz1, hz2⟩ := info_parts hinfo
  have hrow0 := hrow
  obtain ⟨uss, hown, hall⟩ := hrow
  refine wpList_plain hgd fun K hK => ?_
  have hb2 : (l.length + 1) * bytes ≤ 140737488355328 := Nat.le_trans (Nat.mul_le_mul (Nat.succ_le_succ hlen) hby) (by decide)
  obtain ⟨v', w', hr, h2, h3, h4⟩ := run_append_moved (P := Tryz.prog) w B t o.type e i0 z sz bytes ht hi hz0 hz1 hz2 hzs hsz v l.length uss.flatten hown ⟨g, 0, none⟩ 1 c us (by rw [Nat.one_mul]; exact hl) (fun j u hj => by rw [Go.WideShapes.add_plain, Nat.zero_add]; exact hcell j u hj) (hP.one hPa) (by unfold maxLen; omega) hb2 hbase
  unfold Oper.wp execOp
  simp only [ho, resolve, invoke, builtin, Sem.run_bind, Sem.run_pure, Result.andThen_ok, List.map_toArray, List.map_cons, List.map_nil, hs, hx, hr]
  exact hK _ _ (h v' w' (RowS.push hP hrow0 hl hPa h3 h4 uss hall h2) (Upd.grown h3 fun k hk => hk))
end

def OptE (w : World) (S : Nat → Prop) : Option Ex → Value → Prop
  | none, v => v = .pointer none
  | some e, v => ExV w S e v
def OptC (w : World) (S : Nat → Prop) : Option Cn → Value → Prop
  | none, v => v = .pointer none
  | some e, v => CnV w S e v
/-- A slice of so many elements, whose cells are told. -/
def SlcV (w : World) (S : Nat → Prop) (n : Nat) (uss : List (List Value)) (v : Value) : Prop :=
  ∃ A c, v = .slice A n c ∧ n ≤ c ∧ c ≤ maxLen ∧ (n = 0 ∨ ∃ g, A = some ⟨g, 0, none⟩ ∧ S g ∧ ∀ j u, uss.flatten[j]? = some u → w.cell? ⟨g, j, none⟩ = some u)
def ArgP (w : World) (S : Nat → Prop) (e : Ex) (us : List Value) : Prop := ∃ v, us = [.bool false, .string ⟨#[]⟩, v] ∧ ExV w S e v
def ListV {α : Type} (w : World) (S : Nat → Prop) (P : World → (Nat → Prop) → α → List Value → Prop) (sz : Nat) (l : List α) (v : Value) : Prop := ∃ uss, SlcV w S l.length uss v ∧ All2 (fun a us => us.length = sz ∧ P w S a us) l uss
mutual
def SmV (w : World) (S : Nat → Prop) : Sm → List Value → Prop
  | .mk k x y e f c args t e2 a, us => ∃ ve vf vc va vt vl ut ul, us = [.int .i64 k, .string (strB x), .string (strB y), ve, vf, vc, va, vt, vl, .int .i64 a] ∧ OptE w S e ve ∧ OptE w S f vf ∧ OptC w S c vc ∧
      ListV w S ArgP 3 args va ∧ SlcV w S t.length ut vt ∧ SmsV w S t ut ∧ SlcV w S e2.length ul vl ∧ SmsV w S e2 ul
def SmsV (w : World) (S : Nat → Prop) : List Sm → List (List Value) → Prop
  | [], uss => uss = []
  | s :: l, uss => ∃ us rest, uss = us :: rest ∧ SmV w S s us ∧ SmsV w S l rest
end
section
variable {w w' : World} {S S' F : Nat → Prop}
theorem OptE.upd (hu : Upd F w w') (hS : ∀ b, S b → ¬ F b) : ∀ {e : Option Ex} {v : Value}, OptE w S e v → OptE w' S e v
  | none, _, h => h
  | some _, _, h => ExV.upd hu hS _ _ h
theorem OptE.mono (hS : ∀ b, b < w.heap.size → S b → S' b) : ∀ {e : Option Ex} {v : Value}, OptE w S e v → OptE w S' e v
  | none, _, h => h
  | some _, _, h => ExV.mono hS _ _ h
theorem OptC.upd (hu : Upd F w w') (hS : ∀ b, S b → ¬ F b) : ∀ {e : Option Cn} {v : Value}, OptC w S e v → OptC w' S e v
  | none, _, h => h
  | some _, _, h => CnV.upd hu hS _ _ h
theorem OptC.mono (hS : ∀ b, b < w.heap.size → S b → S' b) : ∀ {e : Option Cn} {v : Value}, OptC w S e v → OptC w S' e v
  | none, _, h => h
  | some _, _, h => CnV.mono hS _ _ h
theorem SlcV.upd (hu : Upd F w w') (hS : ∀ b, S b → ¬ F b) {n : Nat} {uss : List (List Value)} {v : Value} (h : SlcV w S n uss v) : SlcV w' S n uss v := by
  obtain ⟨A, c, h1, h2, h3, h4⟩ := h
  refine ⟨A, c, h1, h2, h3, ?_⟩
  rcases h4 with h4 | ⟨g, h4, h5, h6⟩
  · exact .inl h4
  · exact .inr ⟨g, h4, h5, fun j u hj => hu.cell (h6 j u hj) (hS g h5)⟩
theorem SlcV.mono (hS : ∀ b, b < w.heap.size → S b → S' b) {n : Nat} {uss : List (List Value)} {v : Value} (h : SlcV w S n uss v) (hne : n ≠ 0 → uss.flatten ≠ []) : SlcV w S' n uss v := by
  obtain ⟨A, c, h1, h2, h3, h4⟩ := h
  refine ⟨A, c, h1, h2, h3, ?_⟩
  rcases h4 with h4 | ⟨g, h4, h5, h6⟩
  · exact .inl h4
  · by_cases h0 : n = 0
    · exact .inl h0
    · obtain ⟨u, r, hur⟩ := List.exists_cons_of_ne_nil (hne h0)
      exact .inr ⟨g, h4, hS g (World.block_lt_of_cell? w _ (h6 0 u (by rw [hur]; rfl))) h5, h6⟩
theorem argFam : Fam ArgP where
  upd := fun hu hS ⟨v, h1, h2⟩ => ⟨v, h1, ExV.upd hu hS _ _ h2⟩
  mono := fun hS ⟨v, h1, h2⟩ => ⟨v, h1, ExV.mono hS _ _ h2⟩
  one := fun ⟨v, h1, h2⟩ u hu => by
    obtain ⟨g, rfl⟩ := h2.ptr
    subst h1
    simp only [List.mem_cons, List.not_mem_nil, or_false] at hu
    rcases hu with rfl | rfl | rfl <;> rfl
theorem all_ne {α : Type} {R : α → List Value → Prop} {sz : Nat} (hsz : 0 < sz) : ∀ {l : List α} {uss : List (List Value)}, All2 (fun a us => us.length = sz ∧ R a us) l uss → l.length ≠ 0 → uss.flatten ≠ []
  | [], _, _, h => absurd rfl h
  | _ :: _, us :: r, ⟨⟨h1, _⟩, _⟩, _ => fun e => by
    rw [List.flatten_cons, List.append_eq_nil_iff] at e
    rw [e.1] at h1
    simp at h1
    omega
theorem ListV.upd {α : Type} {P : World → (Nat → Prop) → α → List Value → Prop} (hP : Fam P) (hu : Upd F w w') (hS : ∀ b, S b → ¬ F b) {sz : Nat} {l : List α} {v : Value} (h : ListV w S P sz l v) : ListV w' S P sz l v := by
  obtain ⟨uss, h1, h2⟩ := h
  exact ⟨uss, h1.upd hu hS, h2.mono fun a us ⟨h3, h4⟩ => ⟨h3, hP.upd hu hS h4⟩⟩
theorem ListV.mono {α : Type} {P : World → (Nat → Prop) → α → List Value → Prop} (hP : Fam P) (hS : ∀ b, b < w.heap.size → S b → S' b) {sz : Nat} (hsz : 0 < sz) {l : List α} {v : Value} (h : ListV w S P sz l v) : ListV w S' P sz l v := by
  obtain ⟨uss, h1, h2⟩ := h
  exact ⟨uss, h1.mono hS (all_ne hsz h2), h2.mono fun a us ⟨h3, h4⟩ => ⟨h3, hP.mono hS h4⟩⟩
theorem sms_ne : ∀ {l : List Sm} {uss : List (List Value)}, SmsV w S l uss → l.length ≠ 0 → uss.flatten ≠ []
  | [], _, _, h => absurd rfl h
  | .mk .. :: _, _, h, _ => by
    unfold SmsV at h
    obtain ⟨us, rest, rfl, h1, -⟩ := h
    unfold SmV at h1
    obtain ⟨ve, vf, vc, va, vt, vl, ut, ul, rfl, -⟩ := h1
    simp
mutual
theorem SmV.upd (hu : Upd F w w') (hS : ∀ b, S b → ¬ F b) : ∀ (s : Sm) (us : List Value), SmV w S s us → SmV w' S s us
  | .mk k x y e f c args t e2 a, us, h => by
    unfold SmV at h ⊢
    obtain ⟨ve, vf, vc, va, vt, vl, ut, ul, h1, h2, h3, h4, h5, h6, h7, h8, h9⟩ := h
    exact ⟨ve, vf, vc, va, vt, vl, ut, ul, h1, h2.upd hu hS, h3.upd hu hS, h4.upd hu hS, h5.upd argFam hu hS, h6.upd hu hS, SmsV.upd hu hS t ut h7, h8.upd hu hS, SmsV.upd hu hS e2 ul h9⟩
theorem SmsV.upd (hu : Upd F w w') (hS : ∀ b, S b → ¬ F b) : ∀ (l : List Sm) (uss : List (List Value)), SmsV w S l uss → SmsV w' S l uss
  | [], _, h => by unfold SmsV at h ⊢; exact h
  | s :: l, _, h => by
    unfold SmsV at h ⊢
    obtain ⟨us, rest, h1, h2, h3⟩ := h
    exact ⟨us, rest, h1, SmV.upd hu hS s us h2, SmsV.upd hu hS l rest h3⟩
end
mutual
theorem SmV.mono (hS : ∀ b, b < w.heap.size → S b → S' b) : ∀ (s : Sm) (us : List Value), SmV w S s us → SmV w S' s us
  | .mk k x y e f c args t e2 a, us, h => by
    unfold SmV at h ⊢
    obtain ⟨ve, vf, vc, va, vt, vl, ut, ul, h1, h2, h3, h4, h5, h6, h7, h8, h9⟩ := h
    exact ⟨ve, vf, vc, va, vt, vl, ut, ul, h1, h2.mono hS, h3.mono hS, h4.mono hS, h5.mono argFam hS (by decide), h6.mono hS (sms_ne h7), SmsV.mono hS t ut h7, h8.mono hS (sms_ne h9), SmsV.mono hS e2 ul h9⟩
theorem SmsV.mono (hS : ∀ b, b < w.heap.size → S b → S' b) : ∀ (l : List Sm) (uss : List (List Value)), SmsV w S l uss → SmsV w S' l uss
  | [], _, h => by unfold SmsV at h ⊢; exact h
  | s :: l, _, h => by
    unfold SmsV at h ⊢
    obtain ⟨us, rest, h1, h2, h3⟩ := h
    exact ⟨us, rest, h1, SmV.mono hS s us h2, SmsV.mono hS l rest h3⟩
end
end
end Go.Proofs.YteplkhgaoaphhaaGreatDoor
/- Lists that are done; walks of index, test, args. Written by mklist.py. -/
namespace Go.Proofs.YteplkhgaoaphhaaGreatDoor
open Go Go.RowKit Go.Lib

section
variable {w w' : World} {S S' F : Nat → Prop}
theorem OptE.ptr : ∀ {e : Option Ex} {v : Value}, OptE w S e v → ∃ a, v = .pointer a
  | none, _, h => ⟨_, h⟩
  | some _, _, h => by
    obtain ⟨g, rfl⟩ := ExV.ptr h
    exact ⟨_, rfl⟩
theorem OptC.ptr : ∀ {e : Option Cn} {v : Value}, OptC w S e v → ∃ a, v = .pointer a
  | none, _, h => ⟨_, h⟩
  | some _, _, h => by
    obtain ⟨g, rfl⟩ := CnV.ptr h
    exact ⟨_, rfl⟩
theorem SlcV.slc {n : Nat} {uss : List (List Value)} {v : Value} (h : SlcV w S n uss v) : ∃ A m c, v = .slice A m c := by
  obtain ⟨A, c, h1, -⟩ := h
  exact ⟨A, n, c, h1⟩
theorem ListV.slc {α : Type} {P : World → (Nat → Prop) → α → List Value → Prop} {sz : Nat} {l : List α} {v : Value} (h : ListV w S P sz l v) : ∃ A m c, v = .slice A m c := by
  obtain ⟨uss, h1, -⟩ := h
  exact h1.slc
theorem smFam : Fam SmV where
  upd := fun hu hS h => SmV.upd hu hS _ _ h
  mono := fun hS h => SmV.mono hS _ _ h
  one := fun {w S a us} h u hu => by
    cases a with
    | mk k x y e f c args t e2 a =>
      unfold SmV at h
      obtain ⟨ve, vf, vc, va, vt, vl, ut, ul, rfl, h2, h3, h4, h5, h6, -, h8, -⟩ := h
      obtain ⟨pe, rfl⟩ := h2.ptr
      obtain ⟨pf, rfl⟩ := h3.ptr
      obtain ⟨pc, rfl⟩ := h4.ptr
      obtain ⟨_, _, _, rfl⟩ := h5.slc
      obtain ⟨_, _, _, rfl⟩ := h6.slc
      obtain ⟨_, _, _, rfl⟩ := h8.slc
      simp only [List.mem_cons, List.not_mem_nil, or_false] at hu
      rcases hu with rfl | rfl | rfl | rfl | rfl | rfl | rfl | rfl | rfl | rfl <;> rfl
theorem own_slc {B : Nat} {e : TypeId} {sz n : Nat} {v : Value} {uss : List (List Value)} (h : w.ownsRow B e sz v n uss.flatten) : SlcV w (B ≤ ·) n uss v := by
  rcases h.2 with ⟨rfl, rfl⟩ | ⟨g, cap, cur, rfl, hb, hg, h1, h2, h3⟩
  · exact ⟨_, _, rfl, Nat.le_refl _, Nat.zero_le _, .inl rfl⟩
  · refine ⟨_, cap, rfl, h1, h2, .inr ⟨g, rfl, hb, fun j u hj => ?_⟩⟩
    have := World.ownsRow.cells (g := g) h rfl j u hj
    rw [Go.WideShapes.add_plain, Nat.zero_add] at this
    exact this
theorem RowS.list {α : Type} {P : World → (Nat → Prop) → α → List Value → Prop} (hP : Fam P) {B : Nat} {e : TypeId} {sz : Nat} {l : List α} {v : Value} (h : RowS w B e sz P l v) : ListV w (B ≤ ·) P sz l v := by
  obtain ⟨uss, h1, h2⟩ := h
  exact ⟨uss, own_slc h1, h2.mono fun a us ⟨h3, h4⟩ => ⟨h3, hP.mono (fun b _ hb => hb.1) h4⟩⟩
theorem sms_of : ∀ {l : List Sm} {uss : List (List Value)}, All2 (fun a us => us.length = 10 ∧ SmV w S a us) l uss → SmsV w S l uss
  | [], [], _ => by unfold SmsV; rfl
  | _ :: _, us :: r, ⟨⟨_, h1⟩, h2⟩ => by
    unfold SmsV
    exact ⟨us, r, rfl, h1, sms_of h2⟩
theorem RowS.sms {B : Nat} {e : TypeId} {l : List Sm} {v : Value} (h : RowS w B e 10 SmV l v) : ∃ uss, SlcV w (B ≤ ·) l.length uss v ∧ SmsV w (B ≤ ·) l uss := by
  obtain ⟨uss, h1, h2⟩ := h
  exact ⟨uss, own_slc h1, sms_of (h2.mono fun a us ⟨h3, h4⟩ => ⟨h3, smFam.mono (fun b _ hb => hb.1) h4⟩)⟩
theorem PsW.tokLt {w : World} {p : Nat} {C : Cx} {d n : Nat} {r : List Tok} (h : PsW w p C d n r) : ∀ k, C.vt.ownBlock = some k → k < w.heap.size := fun k hk => (h.row.lt k hk).2
/-- A row of the call's own has turned. -/
theorem PsW.row_ {w w' : World} {p B : Nat} {C : Cx} {d n : Nat} {r : List Tok} {v : Value} (h : PsW w p C d n r) (hu : Upd (fun k => v.ownBlock = some k) w w') (hB : ∀ k, v.ownBlock = some k → B ≤ k) (hp : p < B) (ht : ∀ k, C.vt.ownBlock = some k → k < B) : PsW w' p C d n r :=
  h.upd hu (fun e => by have := hB p e; omega) fun k hk e => by have := hB k e; have := ht k hk; omega
theorem Upd.row_ {W w w' : World} {F : Nat → Prop} {v : Value} (h : Upd F W w) (hu : Upd (fun k => v.ownBlock = some k) w w') (hB : ∀ k, v.ownBlock = some k → W.heap.size ≤ k) : Upd F W w' := h.trans hu fun k hk e => by have := hB k e; omega
end
theorem condP_ok (f : Nat) (p : Nat) (C : Cx) (d n : Nat) (r : List Tok) (w : World) (h : PsW w p C d n r) : condP f d r ≠ .no →
    Calls Tryz.prog 129 #[.pointer (some ⟨p, 0, none⟩)] w fun e w' => Got p C w (CnR p C d n w.heap.size) (condP f d r) e w' := fun hno => cond_ok f p C d n r w h hno
theorem arg_info : (Tryz.prog.info? 122).map (fun i => (i.zero, i.size, i.bytes)) = some (some (.agg #[.bool false, .string .empty, .pointer none]), 3, 32) := by kernel_rfl
/-- A list of arguments is told. -/
def ArgsR (p : Nat) (C : Cx) (d n : Nat) (B : Nat) (v : Value) (w : World) (a : List Ex) (r : List Tok) : Prop := ListV w (B ≤ ·) ArgP 3 a v ∧ PsW w p C d n r

def IndexOK (f : Nat) : Prop := ∀ (p : Nat) (C : Cx) (d n : Nat) (r : List Tok) (w : World), PsW w p C d n r → indexP f d r ≠ .no →
  Calls Tryz.prog 118 #[.pointer (some ⟨p, 0, none⟩)] w fun e w' => Got p C w (ExR p C d n w.heap.size) (indexP f d r) e w'

set_option maxRecDepth 100000 in
set_option maxHeartbeats 1600000 in
theorem index_ok : ∀ f, IndexOK f := by
  intro f p C d n r w h hno
  generalize hX : indexP f d r = X at hno ⊢
  unfold indexP at hX
  have hlt := h.lt
  have hu := hide (Upd.refl (At p) w)
  have hs := hide h
  replace hX := hide hX
  replace hno := hide hno
  clear h
  go_enter Tryz.func118, Tryz.ntmps118
  go_wp2_with fail
  have hG := expect_any [91] (by decide) p C d n r _ hs.out
  cases hr : want [91] r with
  | no =>
    have hX2 := hX.out
    rw [hr] at hX2
    try simp only [bind_no] at hX2
    exact absurd hX2.symm hno.out
  | er r9 k9 =>
    rw [hr] at hG
    have hX2 := hX.out
    rw [hr] at hX2
    try simp only [bind_er] at hX2
    replace hX := hide hX2
    refine (hG).mono ?_
    rintro e wq1 ⟨hU, rfl⟩
    replace hu := hide (hu.out.then hU)
    clear hr hG hU hX2
    go_wp2_with fail
    refine ⟨rfl, ?_⟩
    exact Got.er hu.out hX.out.symm
  | ok a1 r1 =>
    rw [hr] at hG
    have hX2 := hX.out
    rw [hr] at hX2
    try simp only [bind_ok] at hX2
    replace hX := hide hX2
    refine (hG).mono ?_
    rintro e wq1 ⟨hU, v1, rfl, rfl, h1⟩
    have hsz := hu.out.size
    replace hs := hide h1
    replace hu := hide (hu.out.then hU)
    clear hr hG hU h1 hX2 hsz
    go_wp2_with fail
    have hG := sumP_ok f p C d n r1 _ hs.out
    cases hr : sumP f d r1 with
    | no =>
      have hX2 := hX.out
      rw [hr] at hX2
      try simp only [bind_no] at hX2
      exact absurd hX2.symm hno.out
    | er r9 k9 =>
      rw [hr] at hG
      have hX2 := hX.out
      rw [hr] at hX2
      try simp only [bind_er] at hX2
      replace hX := hide hX2
      refine (hG (fun e => by cases e)).mono ?_
      rintro e wq2 ⟨hU, rfl⟩
      replace hu := hide (hu.out.then hU)
      clear hr hG hU hX2
      go_wp2_with fail
      refine ⟨rfl, ?_⟩
      exact Got.er hu.out hX.out.symm
    | ok a2 r2 =>
      rw [hr] at hG
      have hX2 := hX.out
      rw [hr] at hX2
      try simp only [bind_ok] at hX2
      replace hX := hide hX2
      refine (hG (fun e => by cases e)).mono ?_
      rintro e wq2 ⟨hU, v2, rfl, hv, h1⟩
      have hsz := hu.out.size
      have hva := hide (ExV.mono (S' := (w.heap.size ≤ ·)) (fun b _ hb => Nat.le_trans hsz hb) _ _ hv)
      clear hv
      obtain ⟨gv2, rfl⟩ := hva.out.ptr
      replace hs := hide h1
      replace hu := hide (hu.out.then hU)
      clear hr hG hU h1 hX2 hsz
      go_wp2_with fail
      have hG := expect_any [93] (by decide) p C d n r2 _ hs.out
      cases hr : want [93] r2 with
      | no =>
        have hX2 := hX.out
        rw [hr] at hX2
        try simp only [bind_no] at hX2
        exact absurd hX2.symm hno.out
      | er r9 k9 =>
        rw [hr] at hG
        have hX2 := hX.out
        rw [hr] at hX2
        try simp only [bind_er] at hX2
        replace hX := hide hX2
        refine (hG).mono ?_
        rintro e wq3 ⟨hU, rfl⟩
        replace hu := hide (hu.out.then hU)
        clear hr hG hU hX2
        go_wp2_with fail
        refine ⟨rfl, ?_⟩
        exact Got.er hu.out hX.out.symm
      | ok a3 r3 =>
        rw [hr] at hG
        have hX2 := hX.out
        rw [hr] at hX2
        try simp only [bind_ok] at hX2
        replace hX := hide hX2
        refine (hG).mono ?_
        rintro e wq3 ⟨hU, v3, rfl, rfl, h1⟩
        have hsz := hu.out.size
        replace hva := hide (ExV.upd (hU) (above_not hlt) _ _ hva.out)
        replace hs := hide h1
        replace hu := hide (hu.out.then hU)
        clear hr hG hU h1 hX2 hsz
        go_wp2_with fail
        go_ret
        exact Got.ok hu.out hX.out.symm ⟨hva.out, hs.out⟩

def TestOK (f : Nat) : Prop := ∀ (p : Nat) (C : Cx) (d n : Nat) (r : List Tok) (w : World), PsW w p C d n r → testP f d r ≠ .no →
  Calls Tryz.prog 116 #[.pointer (some ⟨p, 0, none⟩)] w fun e w' => Got p C w (CnR p C d n w.heap.size) (testP f d r) e w'

set_option maxRecDepth 100000 in
set_option maxHeartbeats 1600000 in
theorem test_ok : ∀ f, TestOK f := by
  intro f p C d n r w h hno
  generalize hX : testP f d r = X at hno ⊢
  unfold testP at hX
  have hlt := h.lt
  have hu := hide (Upd.refl (At p) w)
  have hs := hide h
  replace hX := hide hX
  replace hno := hide hno
  clear h
  go_enter Tryz.func116, Tryz.ntmps116
  go_wp2_with fail
  have hG := expect_any [40] (by decide) p C d n r _ hs.out
  cases hr : want [40] r with
  | no =>
    have hX2 := hX.out
    rw [hr] at hX2
    try simp only [bind_no] at hX2
    exact absurd hX2.symm hno.out
  | er r9 k9 =>
    rw [hr] at hG
    have hX2 := hX.out
    rw [hr] at hX2
    try simp only [bind_er] at hX2
    replace hX := hide hX2
    refine (hG).mono ?_
    rintro e wq1 ⟨hU, rfl⟩
    replace hu := hide (hu.out.then hU)
    clear hr hG hU hX2
    go_wp2_with fail
    refine ⟨rfl, ?_⟩
    exact Got.er hu.out hX.out.symm
  | ok a1 r1 =>
    rw [hr] at hG
    have hX2 := hX.out
    rw [hr] at hX2
    try simp only [bind_ok] at hX2
    replace hX := hide hX2
    refine (hG).mono ?_
    rintro e wq1 ⟨hU, v1, rfl, rfl, h1⟩
    have hsz := hu.out.size
    replace hs := hide h1
    replace hu := hide (hu.out.then hU)
    clear hr hG hU h1 hX2 hsz
    go_wp2_with fail
    have hG := condP_ok f p C d n r1 _ hs.out
    cases hr : condP f d r1 with
    | no =>
      have hX2 := hX.out
      rw [hr] at hX2
      try simp only [bind_no] at hX2
      exact absurd hX2.symm hno.out
    | er r9 k9 =>
      rw [hr] at hG
      have hX2 := hX.out
      rw [hr] at hX2
      try simp only [bind_er] at hX2
      replace hX := hide hX2
      refine (hG (fun e => by cases e)).mono ?_
      rintro e wq2 ⟨hU, rfl⟩
      replace hu := hide (hu.out.then hU)
      clear hr hG hU hX2
      go_wp2_with fail
      refine ⟨rfl, ?_⟩
      exact Got.er hu.out hX.out.symm
    | ok a2 r2 =>
      rw [hr] at hG
      have hX2 := hX.out
      rw [hr] at hX2
      try simp only [bind_ok] at hX2
      replace hX := hide hX2
      refine (hG (fun e => by cases e)).mono ?_
      rintro e wq2 ⟨hU, v2, rfl, hv, h1⟩
      have hsz := hu.out.size
      have hva := hide (CnV.mono (S' := (w.heap.size ≤ ·)) (fun b _ hb => Nat.le_trans hsz hb) _ _ hv)
      clear hv
      obtain ⟨gv2, rfl⟩ := hva.out.ptr
      replace hs := hide h1
      replace hu := hide (hu.out.then hU)
      clear hr hG hU h1 hX2 hsz
      go_wp2_with fail
      have hG := expect_any [41] (by decide) p C d n r2 _ hs.out
      cases hr : want [41] r2 with
      | no =>
        have hX2 := hX.out
        rw [hr] at hX2
        try simp only [bind_no] at hX2
        exact absurd hX2.symm hno.out
      | er r9 k9 =>
        rw [hr] at hG
        have hX2 := hX.out
        rw [hr] at hX2
        try simp only [bind_er] at hX2
        replace hX := hide hX2
        refine (hG).mono ?_
        rintro e wq3 ⟨hU, rfl⟩
        replace hu := hide (hu.out.then hU)
        clear hr hG hU hX2
        go_wp2_with fail
        refine ⟨rfl, ?_⟩
        exact Got.er hu.out hX.out.symm
      | ok a3 r3 =>
        rw [hr] at hG
        have hX2 := hX.out
        rw [hr] at hX2
        try simp only [bind_ok] at hX2
        replace hX := hide hX2
        refine (hG).mono ?_
        rintro e wq3 ⟨hU, v3, rfl, rfl, h1⟩
        have hsz := hu.out.size
        replace hva := hide (CnV.upd (hU) (above_not hlt) _ _ hva.out)
        replace hs := hide h1
        replace hu := hide (hu.out.then hU)
        clear hr hG hU h1 hX2 hsz
        go_wp2_with fail
        go_ret
        exact Got.ok hu.out hX.out.symm ⟨hva.out, hs.out⟩

theorem many_none {α : Type} {u : Nat → List Tok → Rs α} {g : Nat} {l : List α} {r : List Tok} (h : nx r [44] = false) : many u (g + 1) l r = .ok l r := by
  conv => lhs; unfold many
  rw [if_neg (by rw [h]; exact Bool.false_ne_true)]
theorem many_some {α : Type} {u : Nat → List Tok → Rs α} {g : Nat} {l : List α} {r : List Tok} (h : nx r [44] = true) : many u (g + 1) l r = (u l.length r.tail).bind fun a r => many u g (l ++ [a]) r := by
  conv => lhs; unfold many
  rw [if_pos h]

def ArgsOK (f : Nat) : Prop := ∀ (p : Nat) (C : Cx) (d n : Nat) (r : List Tok) (w : World), PsW w p C d n r → argsP f d r ≠ .no →
  Calls Tryz.prog 130 #[.pointer (some ⟨p, 0, none⟩)] w fun e w' => Got p C w (ArgsR p C d n w.heap.size) (argsP f d r) e w'

set_option maxRecDepth 100000 in
set_option maxHeartbeats 1600000 in
theorem args_ok(f : Nat) (hf : f ≤ 1000000) : ArgsOK f := by
  intro p C d n r w h hno
  generalize hX : argsP f d r = X at hno ⊢
  unfold argsP at hX
  have hlt := h.lt
  have hu := hide (Upd.refl (At p) w)
  have hs := hide h
  replace hX := hide hX
  replace hno := hide hno
  have htk := hide h.tokLt
  clear h
  go_enter Tryz.func130, Tryz.ntmps130
  go_wp2_with fail
  have hG := expect_any [40] (by decide) p C d n r _ hs.out
  cases hr : want [40] r with
  | no =>
    have hX2 := hX.out
    rw [hr] at hX2
    try simp only [bind_no] at hX2
    exact absurd hX2.symm hno.out
  | er r9 k9 =>
    rw [hr] at hG
    have hX2 := hX.out
    rw [hr] at hX2
    try simp only [bind_er] at hX2
    replace hX := hide hX2
    refine (hG).mono ?_
    rintro e wq1 ⟨hU, rfl⟩
    replace hu := hide (hu.out.then hU)
    clear hr hG hU hX2
    go_wp2_with fail
    refine ⟨rfl, ?_⟩
    exact Got.er hu.out hX.out.symm
  | ok a1 r1 =>
    rw [hr] at hG
    have hX2 := hX.out
    rw [hr] at hX2
    try simp only [bind_ok] at hX2
    replace hX := hide hX2
    refine (hG).mono ?_
    rintro e wq1 ⟨hU, v1, rfl, rfl, h1⟩
    have hsz := hu.out.size
    replace hs := hide h1
    replace hu := hide (hu.out.then hU)
    clear hr hG hU h1 hX2 hsz
    go_wp2_with fail
    by_cases hx1 : nx r1 [41] = true
    · have hne := hide (nx_ne hx1 (by decide))
      have hX2 := hX.out
      rw [if_pos hx1] at hX2
      replace hX := hide hX2
      clear hX2
      refine (accept_yes [41] (by decide) p C d n r1 _ hs.out hx1).mono ?_
      rintro e wq2 ⟨rfl, hU, h1⟩
      replace hx1 := hide hx1
      replace hs := hide h1
      replace hu := hide (hu.out.then hU)
      clear hU h1
      go_wp2_with fail
      go_ret
      exact Got.ok hu.out hX.out.symm ⟨(RowS.nil_ _ w.heap.size 122 3 ArgP).list argFam, hs.out⟩
    · have hx1 : nx r1 [41] = false := by simpa using hx1
      have hX2 := hX.out
      rw [if_neg (by rw [hx1]; exact Bool.false_ne_true)] at hX2
      replace hX := hide hX2
      clear hX2
      refine (accept_no [41] p C d n r1 _ hs.out hx1).mono ?_
      rintro e wq2 ⟨rfl, hU, h1⟩
      replace hx1 := hide hx1
      replace hs := hide h1
      replace hu := hide (hu.out.then hU)
      clear hU h1
      go_wp2_with fail
      have hG := sumP_ok f p C d n r1 _ hs.out
      cases hr : sumP f d r1 with
      | no =>
        have hX2 := hX.out
        rw [hr] at hX2
        try simp only [bind_no] at hX2
        exact absurd hX2.symm hno.out
      | er r9 k9 =>
        rw [hr] at hG
        have hX2 := hX.out
        rw [hr] at hX2
        try simp only [bind_er] at hX2
        replace hX := hide hX2
        refine (hG (fun e => by cases e)).mono ?_
        rintro e wq3 ⟨hU, rfl⟩
        replace hu := hide (hu.out.then hU)
        clear hr hG hU hX2
        go_wp2_with fail
        refine ⟨rfl, ?_⟩
        exact Got.er hu.out hX.out.symm
      | ok a3 r3 =>
        rw [hr] at hG
        have hX2 := hX.out
        rw [hr] at hX2
        try simp only [bind_ok] at hX2
        replace hX := hide hX2
        refine (hG (fun e => by cases e)).mono ?_
        rintro e wq3 ⟨hU, v3, rfl, hv, h1⟩
        have hsz := hu.out.size
        have hva := hide (ExV.mono (S' := (w.heap.size ≤ ·)) (fun b _ hb => Nat.le_trans hsz hb) _ _ hv)
        clear hv
        obtain ⟨gv3, rfl⟩ := hva.out.ptr
        replace hs := hide h1
        replace hu := hide (hu.out.then hU)
        clear hr hG hU h1 hX2 hsz
        have hnew := hide (heap_new wq3 (.cells #[.bool false, .string ⟨#[]⟩, .pointer (some ⟨gv3, 0, none⟩)] 122))
        have hg1 := hu.out.size
        replace hva := hide (ExV.mono (S' := fun b => w.heap.size ≤ b ∧ b ≠ wq3.heap.size) (fun b hb h => ⟨h, Nat.ne_of_lt hb⟩) _ _ hva.out)
        replace hva := hide (ExV.upd (Upd.alloc (fun _ => False) _ (.cells #[.bool false, .string ⟨#[]⟩, .pointer (some ⟨gv3, 0, none⟩)] 122)) (fun _ _ => id) _ _ hva.out)
        replace hs := hide (hs.out.alloc (.cells #[.bool false, .string ⟨#[]⟩, .pointer (some ⟨gv3, 0, none⟩)] 122))
        replace hu := hide (hu.out.then (Upd.alloc (At p) _ (.cells #[.bool false, .string ⟨#[]⟩, .pointer (some ⟨gv3, 0, none⟩)] 122)))
        have hrow : Hid (RowS (wq3.alloc (.cells #[.bool false, .string ⟨#[]⟩, .pointer (some ⟨gv3, 0, none⟩)] 122)) w.heap.size 122 3 ArgP [a3] (.slice (some ⟨wq3.heap.size, 0, none⟩) 1 1)) := hide (RowS.one_ argFam hnew.out hg1 rfl ⟨_, rfl, ExV.mono (fun b _ hb => ⟨hb.1, fun e => hb.2 (by injection e with e; exact e.symm)⟩) _ _ hva.out⟩)
        clear hnew hg1 hva
        go_wp2_with fail
        go_loopg [3] f (fun k v wr => ∃ (l : List Ex) (r : List Tok), Upd (At p) w wr ∧ RowS wr w.heap.size 122 3 ArgP l v ∧ PsW wr p C d n r ∧ l.length + k ≤ f + 1 ∧ ((many (fun _ => sumP f d) k l r).bind fun l r => (want [41] r).bind fun _ r => .ok l r) = X)
        case atStart => exact ⟨[a3], r3, hu.out, hrow.out, hs.out, by simp; omega, hX.out⟩
        case round =>
          clear hu hrow hs hX
          obtain ⟨l, r, hu, hrow, hs, hlk, hX⟩ := hrel
          cases gk with
          | zero => exact absurd hX.symm hno.out
          | succ g =>
            obtain ⟨A1, c1, rfl⟩ := hrow.slice
            replace hu := hide hu
            replace hrow := hide hrow
            replace hs := hide hs
            have hlk2 : l.length ≤ 1000000 := by omega
            replace hlk := hide hlk
            replace hX := hide hX
            go_wp2_with fail
            by_cases hx40 : nx r [44] = true
            · have hne := hide (nx_ne hx40 (by decide))
              refine (accept_yes [44] (by decide) p C d n r _ hs.out hx40).mono ?_
              rintro e wq41 ⟨rfl, hU, h1⟩
              replace hx40 := hide hx40
              replace hrow := hide (hrow.out.upd argFam (hU) (above_not hlt))
              replace hs := hide h1
              replace hu := hide (hu.out.then hU)
              clear hU h1
              go_wp2_with fail
              have hX2 := hX.out
              rw [many_some hx40.out] at hX2
              replace hX := hide hX2
              clear hX2
              have hG := sumP_ok f p C d n r.tail _ hs.out
              cases hr : sumP f d r.tail with
              | no =>
                have hX2 := hX.out
                rw [hr] at hX2
                try simp only [bind_no] at hX2
                exact absurd hX2.symm hno.out
              | er r9 k9 =>
                rw [hr] at hG
                have hX2 := hX.out
                rw [hr] at hX2
                try simp only [bind_er] at hX2
                replace hX := hide hX2
                refine (hG (fun e => by cases e)).mono ?_
                rintro e wq42 ⟨hU, rfl⟩
                replace hu := hide (hu.out.then hU)
                clear hr hG hU hX2
                go_wp2_with fail
                refine ⟨rfl, ?_⟩
                exact Got.er hu.out hX.out.symm
              | ok a42 r42 =>
                rw [hr] at hG
                have hX2 := hX.out
                rw [hr] at hX2
                try simp only [bind_ok] at hX2
                replace hX := hide hX2
                refine (hG (fun e => by cases e)).mono ?_
                rintro e wq42 ⟨hU, v42, rfl, hv, h1⟩
                have hsz := hu.out.size
                have hold := fun k hk => (hrow.out.own k hk).2
                replace hrow := hide (hrow.out.upd argFam (hU) (above_not hlt))
                have hvb := hide (ExV.mono (S' := (fun b => w.heap.size ≤ b ∧ (Value.slice A1 l.length c1).ownBlock ≠ some b)) (fun b _ hb => ⟨Nat.le_trans hsz hb, fun e => Nat.lt_irrefl _ (Nat.lt_of_lt_of_le (hold b e) hb)⟩) _ _ hv)
                clear hv
                obtain ⟨gv42, rfl⟩ := hvb.out.ptr
                replace hs := hide h1
                replace hu := hide (hu.out.then hU)
                clear hr hG hU h1 hX2 hsz hold
                have hnew := hide (heap_new wq42 (.cells #[.bool false, .string ⟨#[]⟩, .pointer (some ⟨gv42, 0, none⟩)] 122))
                have hbs := hide hu.out.size
                replace hs := hide (hs.out.alloc (.cells #[.bool false, .string ⟨#[]⟩, .pointer (some ⟨gv42, 0, none⟩)] 122))
                replace hrow := hide (hrow.out.upd argFam (Upd.alloc (fun _ => False) wq42 (.cells #[.bool false, .string ⟨#[]⟩, .pointer (some ⟨gv42, 0, none⟩)] 122)) fun _ _ => id)
                replace hu := hide (hu.out.then (Upd.alloc (At p) wq42 (.cells #[.bool false, .string ⟨#[]⟩, .pointer (some ⟨gv42, 0, none⟩)] 122)))
                have hel : Hid (ArgP (wq42.alloc (.cells #[.bool false, .string ⟨#[]⟩, .pointer (some ⟨gv42, 0, none⟩)] 122)) (fun b => w.heap.size ≤ b ∧ (Value.slice A1 l.length c1).ownBlock ≠ some b) a42 [.bool false, .string ⟨#[]⟩, .pointer (some ⟨gv42, 0, none⟩)]) := hide (⟨_, rfl, ExV.upd (Upd.alloc (fun _ => False) _ _) (fun _ _ => id) _ _ (ExV.mono (fun b hb h => ⟨h.1, fun e => h.2 e⟩) _ _ hvb.out)⟩)
                have hown := hrow.out.own
                replace hown := hide hown
                go_wp2_with (
                  at_builtin
                  refine wp_row argFam 56 122 (.agg #[.bool false, .string .empty, .pointer none]) 3 32 Tryz.underlying56 arg_info rfl (by decide) (by decide) rfl (.tmp 20) (.tmp 24) rfl w.heap.size (.slice A1 l.length c1) _ rfl hrow.out wq42.heap.size 1 rfl (a42) [.bool false, .string ⟨#[]⟩, .pointer (some ⟨gv42, 0, none⟩)] rfl ?_ hel.out ?_ ?_ ?_
                  · intro j u hj
                    rw [cell_at hnew.out]
                    simpa using hj
                  · exact hlk2
                  · exact hu.out.size
                  intro v9 w9 hrow9 hu9)
                replace hs := hide (hs.out.row_ hu9 (fun k hk => (hown.out k hk).1) hlt htk.out)
                replace hu := hide (hu.out.row_ hu9 fun k hk => (hown.out k hk).1)
                replace hrow9 := hide hrow9
                clear hu9 hel hnew hown hbs
                go_wp2_with fail
                go_roundg g
                case measure => omega
                case rel => exact ⟨l ++ [a42], r42, hu.out, hrow9.out, hs.out, by have := hlk.out; simp; omega, hX.out⟩
            · have hx40 : nx r [44] = false := by simpa using hx40
              refine (accept_no [44] p C d n r _ hs.out hx40).mono ?_
              rintro e wq41 ⟨rfl, hU, h1⟩
              replace hx40 := hide hx40
              replace hrow := hide (hrow.out.upd argFam (hU) (above_not hlt))
              replace hs := hide h1
              replace hu := hide (hu.out.then hU)
              clear hU h1
              go_wp2_with fail
              have hX2 := hX.out
              rw [many_none hx40.out] at hX2
              simp only [bind_ok] at hX2
              replace hX := hide hX2
              clear hX2
              have hG := expect_any [41] (by decide) p C d n r _ hs.out
              cases hr : want [41] r with
              | no =>
                have hX2 := hX.out
                rw [hr] at hX2
                try simp only [bind_no] at hX2
                exact absurd hX2.symm hno.out
              | er r9 k9 =>
                rw [hr] at hG
                have hX2 := hX.out
                rw [hr] at hX2
                try simp only [bind_er] at hX2
                replace hX := hide hX2
                refine (hG).mono ?_
                rintro e wq42 ⟨hU, rfl⟩
                replace hu := hide (hu.out.then hU)
                clear hr hG hU hX2
                go_wp2_with fail
                refine ⟨rfl, ?_⟩
                exact Got.er hu.out hX.out.symm
              | ok a42 r42 =>
                rw [hr] at hG
                have hX2 := hX.out
                rw [hr] at hX2
                try simp only [bind_ok] at hX2
                replace hX := hide hX2
                refine (hG).mono ?_
                rintro e wq42 ⟨hU, v42, rfl, rfl, h1⟩
                have hsz := hu.out.size
                replace hrow := hide (hrow.out.upd argFam (hU) (above_not hlt))
                replace hs := hide h1
                replace hu := hide (hu.out.then hU)
                clear hr hG hU h1 hX2 hsz
                go_wp2_with fail
                go_ret
                exact Got.ok hu.out hX.out.symm ⟨hrow.out.list argFam, hs.out⟩
end Go.Proofs.YteplkhgaoaphhaaGreatDoor
/- What a statement's method tells; the call's own variables. -/
namespace Go.Proofs.YteplkhgaoaphhaaGreatDoor
open Go Go.RowKit Go.Lib

/-- A statement is told, but for its number. -/
def SmR (p : Nat) (C : Cx) (d n : Nat) (B a : Nat) (v : Value) (w : World) (s : Sm) (r : List Tok) : Prop :=
  (∃ (k : Nat) (x y : ByteArray) (pe pf pc a1 : Option Addr) (n1 c1 : Nat) (a2 : Option Addr) (n2 c2 : Nat) (a3 : Option Addr) (n3 c3 : Nat), v = .agg #[.int .i64 k, .string x, .string y, .pointer pe, .pointer pf, .pointer pc, .slice a1 n1 c1, .slice a2 n2 c2, .slice a3 n3 c3, .int .i64 0] ∧ SmV w (B ≤ ·) s [.int .i64 k, .string x, .string y, .pointer pe, .pointer pf, .pointer pc, .slice a1 n1 c1, .slice a2 n2 c2, .slice a3 n3 c3, .int .i64 a]) ∧ PsW w p C d n r
/-- A statement is told, but for its number and what it changes. -/
def SmX (p : Nat) (C : Cx) (d n : Nat) (B : Nat) (x : List UInt8) (a : Nat) (v : Value) (w : World) (s : Sm) (r : List Tok) : Prop :=
  (∃ (k : Nat) (y : ByteArray) (pe pf pc a1 : Option Addr) (n1 c1 : Nat) (a2 : Option Addr) (n2 c2 : Nat) (a3 : Option Addr) (n3 c3 : Nat), v = .agg #[.int .i64 k, .string ⟨#[]⟩, .string y, .pointer pe, .pointer pf, .pointer pc, .slice a1 n1 c1, .slice a2 n2 c2, .slice a3 n3 c3, .int .i64 0] ∧ SmV w (B ≤ ·) s [.int .i64 k, .string (strB x), .string y, .pointer pe, .pointer pf, .pointer pc, .slice a1 n1 c1, .slice a2 n2 c2, .slice a3 n3 c3, .int .i64 a]) ∧ PsW w p C d n r
section
variable {w w' W : World} {p g : Nat} {C : Cx} {d n : Nat} {r : List Tok} {F : Nat → Prop}
theorem Upd.setNew (h : Upd F W w) (hg : W.heap.size ≤ g) (o : Nat) (u : Value) : Upd F W (w.setCell ⟨g, o, none⟩ u) :=
  h.trans (Upd.set w (F := At g) (a := ⟨g, o, none⟩) rfl u) fun k hk e => by simp only [At] at e; omega
theorem PsW.setNew (h : PsW w p C d n r) {B : Nat} (hp : p < B) (ht : ∀ k, C.vt.ownBlock = some k → k < B) (hg : B ≤ g) (o : Nat) (u : Value) : PsW (w.setCell ⟨g, o, none⟩ u) p C d n r :=
  h.upd (Upd.set w (F := At g) (a := ⟨g, o, none⟩) rfl u) (fun e => by simp only [At] at e; omega) fun k hk e => by have := ht k hk; simp only [At] at e; omega
theorem set_upd (w : World) (g o : Nat) (u : Value) : Upd (At g) w (w.setCell ⟨g, o, none⟩ u) := Upd.set w (F := At g) (a := ⟨g, o, none⟩) rfl u
end
theorem Upd.setOn {W w : World} {g : Nat} (h : Upd (At g) W w) (o : Nat) (u : Value) : Upd (At g) W (w.setCell ⟨g, o, none⟩ u) := h.then (set_upd w g o u)
/-- The result's own block, the first that the call has laid, is written at the end. -/
theorem fin_got {w cur fin : World} {p : Nat} {C : Cx} {d n : Nat} {r : List Tok} (hfin : Upd (At w.heap.size) cur fin) (huw : Upd (At p) w cur) (hlt : p < w.heap.size) (htk : ∀ k, C.vt.ownBlock = some k → k < w.heap.size) (hs : PsW cur p C d n r)
    {S : Nat → Prop} (hS : ∀ b, S b → w.heap.size < b) {s : Sm} {us : List Value} (hv : SmV cur S s us) : Upd (At p) w fin ∧ PsW fin p C d n r ∧ SmV fin (w.heap.size ≤ ·) s us := by
  refine ⟨huw.trans hfin fun k hk e => by simp only [At] at e; omega, hs.upd hfin (fun e => by simp only [At] at e; omega) fun k hk e => by have := htk k hk; simp only [At] at e; omega, ?_⟩
  exact SmV.mono (fun b _ hb => Nat.le_of_lt (hS b hb)) _ _ (SmV.upd hfin (fun b hb e => by have := hS b hb; simp only [At] at e; omega) _ _ hv)
theorem slc_nil (w : World) (S : Nat → Prop) : SlcV w S 0 [] (.slice none 0 0) := ⟨none, 0, rfl, Nat.le_refl _, Nat.zero_le _, .inl rfl⟩
theorem list_nil (w : World) (S : Nat → Prop) : ListV w S ArgP 3 [] (.slice none 0 0) := ⟨[], slc_nil w S, trivial⟩
/-- A statement without blocks. -/
theorem sm_flat {w : World} {S : Nat → Prop} {k : Nat} {x y : List UInt8} {e f : Option Ex} {c : Option Cn} {args : List Ex} {a : Nat} {ve vf vc va : Value} (he : OptE w S e ve) (hf : OptE w S f vf) (hc : OptC w S c vc) (ha : ListV w S ArgP 3 args va) :
    SmV w S (.mk k x y e f c args [] [] a) [.int .i64 k, .string (strB x), .string (strB y), ve, vf, vc, va, .slice none 0 0, .slice none 0 0, .int .i64 a] := by
  unfold SmV
  refine ⟨ve, vf, vc, va, _, _, [], [], rfl, he, hf, hc, ha, slc_nil w S, ?_, slc_nil w S, ?_⟩
  · unfold SmsV; rfl
  · unfold SmsV; rfl
end Go.Proofs.YteplkhgaoaphhaaGreatDoor
