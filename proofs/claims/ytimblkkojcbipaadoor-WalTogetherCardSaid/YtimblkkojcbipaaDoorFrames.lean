/- Frames: written. -/
import Derived.Test.YtimblkkojcbipaaDoorNum
import Derived.Test.YtimblkkojcbipaaDoorDisk
import Derived.Test.YtimblkkojcbipaaDoorWalkA
namespace Go.Proofs.YtimblkkojcbipaaDoor
open Go Go.RowKit
open Sums (crc)
theorem byte_size : (Tryd.prog.info? 5).map (·.size) = some 1 := by kernel_rfl
def frame (r : List UInt8) : List UInt8 := num4 r.length ++ num4 (crc [num4 r.length, r]) ++ r
def frames (rs : List (List UInt8)) : List UInt8 := (rs.map frame).flatten
theorem frame_len (r : List UInt8) : (frame r).length = 8 + r.length := by simp [frame, num_len]; omega
theorem frames_nil : frames [] = [] := rfl
theorem frames_cons (r : List UInt8) (rs : List (List UInt8)) : frames (r :: rs) = frame r ++ frames rs := by simp [frames]
theorem frames_append (a b : List (List UInt8)) : frames (a ++ b) = frames a ++ frames b := by simp [frames]

/-- A slice that isn't nil. -/
def NonNil (v : Value) : Prop := ∃ a n c, v = .slice (some a) n c
theorem ArgV.bytes {w : World} {S : Nat → Prop} {v : Value} {l : List UInt8} (h : ArgV w S v (bv l)) : BytesV w w.heap.size v l := by
  obtain ⟨A, c, rfl, h2, h3, h4⟩ := h
  rw [bv_len] at h2
  refine ⟨A, c, by rw [bv_len], h2, h3, ?_⟩
  rcases h4 with h4 | ⟨b, o, rfl, _, hc⟩
  · exact .inl h4
  · cases l with
    | nil => exact .inl rfl
    | cons x l => exact .inr ⟨b, o, rfl, World.block_lt_of_cell? w _ (hc 0 _ rfl), hc⟩
theorem RowB.nonNil {w : World} {B : Nat} {v : Value} {l : List UInt8} (h : RowB w B v l) (hl : 0 < l.length) : NonNil v := by
  obtain ⟨h1, h2⟩ := h
  rcases h2 with ⟨rfl, h0⟩ | ⟨g, cap, cur, rfl, _⟩
  · omega
  · exact ⟨_, _, _, rfl⟩
section
variable {w : World} {ops : Array Oper} {rest : List Oper} {o : Oper} {a : Act} {Q : Exit → Act → World → Prop}
/-- The walk's law: bytes behind a row of the call's own. -/
theorem wp_cat (hgd : o.guard = none) (s x : Operand) (ho : o.op = .call { callee := .builtin .append, args := #[s, x], argTypes := #[34, 34] })
    (B : Nat) (v : Value) (l : List UInt8) (hs : a.eval s = v) (hown : RowB w B v l) (S : Nat → Prop) (u : Value) (m : List UInt8) (hx : a.eval x = u) (hu : ArgV w S u (bv m)) (hnn : NonNil u)
    (hlen : l.length + m.length ≤ 70368744177664) (hbase : B ≤ w.heap.size)
    (h : ∀ v' w', RowB w' B v' (l ++ m) → Mv w (Own v) w' (Own v') → wpList Tryd.prog ops Q rest (a.put o.dst v') w') : wpList Tryd.prog ops Q (o :: rest) a w := by
  obtain ⟨ad, n, c, rfl⟩ := hnn
  obtain ⟨A, c', h1, h2, h3, h4⟩ := hu
  injection h1 with e1 e2 e3
  subst e1 e2 e3
  refine wp_bytes hgd s x ho B v l hs hown ad (bv m).length c m hx (bv_len m) ?_ hlen hbase ?_
  · intro j u hj
    rcases h4 with h4 | ⟨b, o', hA, _, hc⟩
    · rw [h4] at hj; simp at hj
    · obtain rfl := Option.some.inj hA
      rw [Go.WideShapes.add_plain]
      exact hc j u hj
  · intro v' w' g1 g2 g3
    exact h v' w' g1 ⟨.grown g2 fun _ hk => hk, g3⟩
end

theorem checksum_any {w : World} {S1 S2 : Nat → Prop} {v1 v2 : Value} {l1 l2 : List UInt8} (h1 : ArgV w S1 v1 (bv l1)) (h2 : ArgV w S2 v2 (bv l2)) (hT : Tab w) (h0 : 0 < w.heap.size) :
    Calls Tryd.prog 72 #[v1, v2] w fun e w' => e = .returned (.int .i64 (crc [l1, l2] : Nat)) ∧ Below w.heap.size w w' := by
  have hc : (crc [l1, l2] : Nat) < 4294967296 := Sums.crc_lt _
  have b1 := h1.bytes
  have b2 := h2.bytes
  have hcr : Calls Tryd.prog 83 #[.slice (some ⟨w.heap.size, 0, none⟩) 2 2] (w.alloc (.cells #[v1, v2] 34)) fun e w' => e = .returned (.int .u32 (crc [l1, l2] : Nat)) ∧ w.alloc (.cells #[v1, v2] 34) = w' :=
    crc_any _ _ _ (w.heap.size + 1) (RowsV.two w l1 l2 v1 v2 34 (0, 0) w.heap.size (w.heap.size + 1) rfl (Nat.lt_succ_self _) b1 b2) (fun i x hx => ((Below.refl w.heap.size w).alloc (Nat.le_refl _) _).cell (by exact h0) |>.trans (hT i x hx))
  obtain ⟨A1, k1, rfl, -⟩ := h1
  obtain ⟨A2, k2, rfl, -⟩ := h2
  clear b1 b2
  go_enter Tryd.func72, Tryd.ntmps72
  go_wp2_with fail
  refine hcr.mono ?_
  rintro e w' ⟨rfl, rfl⟩
  go_wp2_with fail
  go_ret
  exact ⟨rfl, (Below.refl w.heap.size w).alloc (Nat.le_refl _) _⟩
theorem ArgV.mono' {w w' : World} {S : Nat → Prop} {v : Value} {xs : List Value} (h : ArgV w' S v xs) (h' : ArgV w S v xs) : ArgV w' (fun k => S k ∧ k < w.heap.size) v xs := by
  obtain ⟨A, c, rfl, h2, h3, h4⟩ := h
  obtain ⟨A', c', e, _, _, h5⟩ := h'
  injection e with e _ _
  subst e
  refine ⟨A, c, rfl, h2, h3, ?_⟩
  rcases h4 with h4 | ⟨b, o, rfl, hb, hc⟩
  · exact .inl h4
  · rcases h5 with h5 | ⟨b', o', e, _, hc'⟩
    · exact .inl h5
    · injection e with e
      injection e with e1 e2
      subst e1 e2
      cases xs with
      | nil => exact .inl rfl
      | cons x xs => exact .inr ⟨b, o, rfl, ⟨hb, World.block_lt_of_cell? w _ (hc' 0 x rfl)⟩, hc⟩
theorem Tab.upd {w w' : World} {F : Nat → Prop} (h : Tab w) (hu : Upd F w w') (h0 : ¬ F 0) : Tab w' := fun i x hx => hu.cell (h i x hx) h0
theorem RowB.own_ge {w : World} {B : Nat} {v : Value} {l : List UInt8} (h : RowB w B v l) {k : Nat} (hk : Own v k) : B ≤ k ∧ k < w.heap.size := by
  rcases h.2 with ⟨rfl, h0⟩ | ⟨g, cap, cur, rfl, hb, hg, _⟩
  · cases hk
  · have : g = k := by simpa [Own, Value.ownBlock] using hk
    subst this
    exact ⟨hb, (Array.getElem?_eq_some_iff.1 hg).1⟩
theorem ArgV.mv {w w' : World} {S O O' : Nat → Prop} {v : Value} {xs : List Value} (h : ArgV w S v xs) (hm : Mv w O w' O') (hS : ∀ k, S k → ¬ O k) : ∃ S', ArgV w' S' v xs ∧ (∀ k, S' k → ¬ O' k) ∧ ∀ k, S' k → S k ∧ k < w.heap.size :=
  ⟨fun k => S k ∧ k < w.heap.size, (h.upd hm.1 hS).mono' h, fun k hk ho => (hm.2 k ho).elim (hS k hk.1) (fun h => by have := hk.2; omega), fun _ h => h⟩
set_option maxRecDepth 100000 in
theorem appendFrame_any {w : World} {B : Nat} {v : Value} {l : List UInt8} (h : RowB w B v l) (hB : B ≤ w.heap.size) {S : Nat → Prop} {u : Value} {r : List UInt8} (hr : ArgV w S u (bv r)) (hnn : NonNil u) (hd : ∀ k, S k → ¬ Own v k) (hT : Tab w) (h0 : 0 < B)
    (hl : l.length ≤ 35184372088832) (hrl : r.length < 4294967296) :
    Calls Tryd.prog 74 #[v, u] w fun e w' => ∃ v', e = .returned v' ∧ RowB w' B v' (l ++ frame r) ∧ Mv w (Own v) w' (Own v') := by
  have hn1 := appendNumber_any (RowB.nil_ w w.heap.size) (by simp) (Nat.le_refl _) r.length hrl
  obtain ⟨ad, n, c, rfl⟩ := id hnn
  obtain rfl : n = r.length := by obtain ⟨A, c', h1, _⟩ := hr; injection h1 with _ h1; rw [h1, bv_len]
  obtain ⟨Av, nv, cv, rfl⟩ := h.slice
  replace h := hide h
  replace hr := hide hr
  replace hnn := hide hnn
  replace hd := hide hd
  replace hT := hide hT
  go_enter Tryd.func74, Tryd.ntmps74
  go_wp2_with fail
  refine hn1.mono ?_
  rintro e w1 ⟨vL, rfl, hL, hm1⟩
  have hu1 : Upd (fun _ => False) w w1 := hm1.1.mono fun k _ h => by cases h
  have hLn := hL.nonNil (by simp [num_len])
  have hw1 := hu1.size
  have hv1 : RowB w1 B (.slice Av nv cv) l := h.out.upd hu1 fun _ _ => id
  have hr1 := hr.out.upd hu1 fun _ _ => id
  have hT1 := hT.out.upd hu1 id
  have hLa := hL.arg
  have hLd : ∀ k, w.heap.size ≤ k → ¬ Own (.slice Av nv cv) k := fun k hk ho => by have := (h.out.own_ge ho).2; omega
  obtain ⟨AL, nL, cL, rfl⟩ := hL.slice
  rw [List.nil_append] at hLa
  clear hn1 hm1 hL
  replace hu1 := hide hu1
  replace hLn := hide hLn
  replace hv1 := hide hv1
  replace hr1 := hide hr1
  replace hT1 := hide hT1
  replace hLa := hide hLa
  replace hLd := hide hLd
  go_wp2_with (at_builtin; refine wp_cat rfl (.tmp 9) (.tmp 10) rfl B _ l rfl hv1.out _ _ (num4 r.length) rfl hLa.out hLn.out ?_ ?_ ?_)
  · rw [num_len]; omega
  · omega
  intro v2 w2 h2 m2
  obtain ⟨SL, hL2, dL2, sL2⟩ := hLa.out.mv m2 hLd.out
  obtain ⟨Sr, hr2, dr2, sr2⟩ := hr1.out.mv m2 hd.out
  have hT2 := hT1.out.upd m2.1 (fun h => by have := (hv1.out.own_ge h).1; omega)
  have hw2 := m2.1.size
  obtain ⟨A2, n2, c2, rfl⟩ := h2.slice
  replace h2 := hide h2
  replace m2 := hide m2
  replace dL2 := hide dL2
  replace dr2 := hide dr2
  replace hL2 := hide hL2
  replace hr2 := hide hr2
  replace hT2 := hide hT2
  clear hLa hLd hr1 hT1 sL2 sr2
  go_wp2_with fail
  refine (checksum_any hL2.out hr2.out hT2.out (by omega)).mono ?_
  rintro e w3 ⟨rfl, hb3⟩
  have hu3 : Upd (fun _ => False) w2 w3 := .of_below _ hb3
  have hv3 := h2.out.upd hu3 fun _ _ => id
  have hw3 := hu3.size
  obtain ⟨Sr3, hr3, dr3, sr3⟩ := hr2.out.mv (⟨hu3, fun k => .inl⟩ : Mv w2 _ w3 _) (fun _ _ => id)
  have dr3' := fun k hk => dr2.out k (sr3 k hk).1
  replace hu3 := hide hu3
  replace hv3 := hide hv3
  replace hr3 := hide hr3
  replace dr3' := hide dr3'
  clear hb3 dr3 sr3
  go_wp2_with fail
  refine (appendNumber_any hv3.out ?_ (by omega) _ (Sums.crc_lt _)).mono ?_
  · simp only [List.length_append, num_len]; omega
  rintro e w4 ⟨v4, rfl, h4, m4⟩
  obtain ⟨Sr4, hr4, dr4, sr4⟩ := hr3.out.mv m4 dr3'.out
  have hw4 := m4.1.size
  obtain ⟨A4, n4, c4, rfl⟩ := h4.slice
  replace h4 := hide h4
  replace m4 := hide m4
  replace hr4 := hide hr4
  replace dr4 := hide dr4
  clear sr4
  go_wp2_with (at_builtin; refine wp_cat rfl (.tmp 17) (.tmp 18) rfl B _ (l ++ num4 r.length ++ num4 (crc [num4 r.length, r])) rfl h4.out _ _ r rfl hr4.out hnn.out ?_ ?_ ?_)
  · simp only [List.length_append, num_len]; omega
  · omega
  intro v5 w5 h5 m5
  replace h5 := hide h5
  replace m5 := hide m5
  go_wp2_with fail
  go_ret
  refine ⟨_, rfl, by have := h5.out; simpa [frame] using this, ?_⟩
  have hu31 : Upd (fun k => Own (.slice A2 n2 c2) k) w2 w3 := hu3.out.mono fun _ _ h => h.elim
  have hu11 : Upd (fun k => Own (.slice Av nv cv) k) w w1 := hu1.out.mono fun _ _ h => h.elim
  exact (((Mv.trans ⟨hu11, fun k => .inl⟩ m2.out).trans ⟨hu31, fun k => .inl⟩).trans m4.out).trans m5.out
end Go.Proofs.YtimblkkojcbipaaDoor
