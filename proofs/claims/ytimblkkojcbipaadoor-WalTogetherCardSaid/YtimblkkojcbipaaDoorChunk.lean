/- slices.Chunk: its pieces, one after another. -/
import Derived.RangeFuncNested
import Derived.RangeFuncBound
import Derived.RangeFuncCalls
import Derived.RangeFuncLeaves
import Derived.RangeFuncWrites
import Derived.WalkKit
import Derived.OwnWalkIn
import Derived.TacticsInMore
import Derived.LoopNIn
import Derived.LoopIn
import Derived.Test.YtimblkkojcbipaaDoorTake
namespace Go.Proofs.YtimblkkojcbipaaDoor
open Go Go.RowKit
attribute [local go_sem] Oper.semAt_some
/-- l in pieces of n. -/
def chunkL (n : Nat) (l : List UInt8) : List (List UInt8) := if _h : l = [] ∨ n = 0 then [] else l.take n :: chunkL n (l.drop n)
termination_by l.length
decreasing_by
  rw [List.length_drop]
  have : 0 < l.length := List.length_pos_iff.2 fun e => _h (.inl e)
  have : n ≠ 0 := fun e => _h (.inr e)
  omega
theorem chunkL_nil (n : Nat) : chunkL n [] = [] := by rw [chunkL]; simp
theorem chunkL_cons {n : Nat} {l : List UInt8} (hn : 1 ≤ n) (hl : 0 < l.length) : chunkL n l = l.take n :: chunkL n (l.drop n) := by
  rw [chunkL, dif_neg]
  rintro (h | h)
  · rw [h] at hl; simp at hl
  · omega
abbrev Piece (wB : World) (SB : Nat → Prop) (sz : Nat) := { x : Value × List UInt8 // ArgV wB SB x.1 (bv x.2) ∧ x.2.length ≤ sz ∧ NonNil x.1 }
def KpB (b1 b2 : Nat) (A B : World) : Prop := B.heap[b1]? = A.heap[b1]? ∧ B.heap[b2]? = A.heap[b2]?
set_option maxRecDepth 100000 in
set_option maxHeartbeats 1000000 in
theorem chunk_in (m l b1 b2 : Nat) (hm : 1 ≤ m) (wB : World) (SB : Nat → Prop) (sz : Nat) (hsz : 1 ≤ sz) (hsz2 : sz ≤ 4096) (A : Option Addr) (cap : Nat) (l0 : List UInt8) (h0 : ArgV wB SB (.slice A l0.length cap) (bv l0)) (hl0 : l0.length ≤ 70368744177664)
    (J Jx : List (Piece wB SB sz) → World → Prop) (W : World) (hJa : AbidesFrom W.heap.size J)
    (hY : ∀ pre x W1, J pre W1 → pre.length < (chunkL sz l0).length → YieldAt Fence.wide (m - 1) Tryd.prog l #[x.1.1] W1 fun e W' =>
      (e = .returned (.bool true) ∧ J (pre ++ [x]) W' ∧ KpB b1 b2 W1 W') ∨ (e = .returned (.bool false) ∧ Jx (pre ++ [x]) W'))
    (c1 : W.heap[b1]? = some (.cells #[.slice A l0.length cap] 34)) (c2 : W.heap[b2]? = some (.cells #[.int .i64 sz] 3)) (hJ0 : J [] W) :
    CallsIn Fence.wide m Tryd.prog 85 #[.func (.yield l) #[] #[], .pointer (some ⟨b1, 0, none⟩), .pointer (some ⟨b2, 0, none⟩)] W fun e W' => (∃ v, e = .returned v) ∧
      ((∃ xs : List (Piece wB SB sz), xs.map (·.1.2) = chunkL sz l0 ∧ J xs W') ∨ (∃ pre, True ∧ Jx pre W')) := by
  obtain ⟨A0, cc, he, hlc, hcm, hcells⟩ := id h0
  injection he with e1 e2 e3
  subst e1 e3
  clear e2
  rw [bv_len] at hlc
  have hcm' : cap ≤ 9223372036854775807 := by unfold maxLen at hcm; exact hcm
  clear hcells
  replace h0 := hide h0
  replace hJa := hide hJa
  refine callsIn_of_wp Tryd.func85 rfl trivial ?_ rfl
  simp only [Tryd.ntmps85, List.size_toArray, List.length_cons, List.length_nil, Nat.reduceAdd, Nat.reduceSub, Array.replicate_succ, Array.replicate_zero, List.push_toArray, List.append_toArray, List.nil_append, List.cons_append]
  gi_wp2
  gi_loopw [4] (fun p wr => ∃ (i : Nat) (pre : List (Piece wB SB sz)), p = .int .i64 i ∧ i ≤ l0.length + sz ∧ pre.map (·.1.2) ++ chunkL sz (l0.drop i) = chunkL sz l0 ∧ J pre wr ∧ wr.heap[b1]? = some (.cells #[.slice A l0.length cap] 34) ∧ wr.heap[b2]? = some (.cells #[.int .i64 sz] 3)) (fun p _ => l0.length + sz - (intOf p).toNat)
  case atStart => exact ⟨0, [], rfl, Nat.zero_le _, by simp, hJ0, c1, c2⟩
  case round =>
    obtain ⟨i, pre, rfl, hi, hE, hJ, c1', c2'⟩ := hrel
    clear c1 c2
    have d1 : wr.cell? ⟨b1, 0, none⟩ = some (.slice A l0.length cap) := by rw [cell_at c1']; rfl
    have d2 : wr.cell? ⟨b2, 0, none⟩ = some (.int .i64 sz) := by rw [cell_at c2']; rfl
    replace hE := hide hE
    by_cases hlt : i < l0.length
    · have hic : ¬ cap = i := by omega
      obtain ⟨b, o, rfl⟩ : ∃ b o, A = some ⟨b, o, none⟩ := by
        obtain ⟨A9, c9, q1, q2, q3, q4⟩ := h0.out
        injection q1 with r1 r2 r3
        rcases q4 with q4 | ⟨b', o', q5, q6, q7⟩
        · have := congrArg List.length q4
          rw [bv_len] at this
          simp only [List.length_nil] at this
          omega
        · exact ⟨b', o', r1.trans q5⟩
      obtain ⟨e, he⟩ : ∃ e, e = min sz (l0.length - i) := ⟨_, rfl⟩
      have he1 : 1 ≤ e := by omega
      have he2 : e ≤ sz := by omega
      have he3 : i + e ≤ l0.length := by omega
      have hdl : (l0.drop i).length = l0.length - i := List.length_drop
      have hte : (l0.drop i).take sz = (l0.drop i).take e := by
        rcases Nat.le_total sz (l0.length - i) with h | h
        · rw [show e = sz by omega]
        · rw [List.take_of_length_le (by omega), List.take_of_length_le (by omega)]
      have hcc := chunkL_cons hsz (l := l0.drop i) (by omega)
      rw [hte, List.drop_drop] at hcc
      have hE2 := hE.out
      rw [hcc] at hE2
      have hpa : ArgV wB SB (.slice (some ⟨b, o + i, none⟩) e e) (bv ((l0.drop i).take e)) := by
        have h1 := h0.out.cut' i (by omega)
        have h2 := h1.take' e (by omega)
        obtain ⟨A9, c9, q1, q2, q3, q4⟩ := h2
        injection q1 with r1 r2 r3
        have hle : (bv ((l0.drop i).take e)).length = e := by rw [bv_len, List.length_take]; omega
        refine ⟨some ⟨b, o + i, none⟩, e, by rw [hle], by rw [hle]; exact Nat.le_refl _, by unfold maxLen; omega, ?_⟩
        rcases q4 with q4 | ⟨b', o', q5, q6, q7⟩
        · exact .inl q4
        · rw [← r1] at q5
          rw [Option.map_some, Go.WideShapes.add_plain] at q5
          exact .inr ⟨b', o', q5, q6, q7⟩
      obtain ⟨xp, hxp⟩ : ∃ xp : Piece wB SB sz, xp.1 = (.slice (some ⟨b, o + i, none⟩) e e, (l0.drop i).take e) := ⟨⟨(.slice (some ⟨b, o + i, none⟩) e e, (l0.drop i).take e), hpa, by rw [List.length_take]; omega, ⟨_, _, _, rfl⟩⟩, rfl⟩
      obtain ⟨fn, tmps, assign, body, hy, hR⟩ := hY pre xp wr.drew (hJa.out pre wr wr.drew none hJ ⟨rfl, rfl, rfl, Nat.le_refl _, fun _ _ _ => rfl⟩ (fun r h => by cases h)) (by
        have := congrArg List.length hE2
        simp only [List.length_append, List.length_map, List.length_cons] at this
        omega)
      rw [hxp] at hy
      dsimp only at hy
      have hxl : xp.1.2 = (l0.drop i).take e := by rw [hxp]
      replace hxl := hide hxl
      clear hxp
      replace hE2 := hide hE2
      replace hpa := hide hpa
      replace hte := hide hte
      replace hcc := hide hcc
      have hmin : (if l0.length - i < sz then ((l0.length - i : Nat) : Int) else (sz : Int)) = (e : Int) := by split <;> omega
      subst he
      gi_wp2
      gi_region
      all_goals
        gi_wp2
        refine hR.mono ?_
        rintro e' W3 (⟨rfl, hJ3, hk3⟩ | ⟨rfl, hJx3⟩)
        · have c3 := hk3.1.trans c1'
          have c4 := hk3.2.trans c2'
          have d3 : W3.cell? ⟨b2, 0, none⟩ = some (.int .i64 sz) := by rw [cell_at c4]; rfl
          gi_wp2
          go_roundw
          case rel =>
            refine ⟨i + sz, pre ++ [xp], by go_num, by omega, ?_, hJ3, c3, c4⟩
            rw [← hE2.out, List.map_append, List.append_assoc]
            simp [hxl.out]
          case measure => simp [intOf]; omega
        · gi_wp2
          refine bodyPost_ret (results_none rfl _ _ _) rfl ?_
          exact ⟨⟨_, rfl⟩, .inr ⟨_, trivial, hJx3⟩⟩
    · have hend : l0.drop i = [] := List.drop_eq_nil_of_le (by omega)
      have hE2 := hE.out
      rw [hend, chunkL_nil, List.append_nil] at hE2
      replace hE2 := hide hE2
      clear hend
      gi_wp2
      go_end0
      exact ⟨⟨_, rfl⟩, .inl ⟨pre, hE2.out, hJ⟩⟩
theorem chunk_stops (m b1 b2 : Nat) (hm : 1 ≤ m) (wB w : World) (SB : Nat → Prop) (sz : Nat) (hsz : 1 ≤ sz) (hsz2 : sz ≤ 4096) (A : Option Addr) (cap : Nat) (l0 : List UInt8) (h0 : ArgV wB SB (.slice A l0.length cap) (bv l0)) (hl0 : l0.length ≤ 70368744177664)
    (c1 : w.heap[b1]? = some (.cells #[.slice A l0.length cap] 34)) (c2 : w.heap[b2]? = some (.cells #[.int .i64 sz] 3)) :
    SeqStopsK Fence.wide m Tryd.prog 85 #[.pointer (some ⟨b1, 0, none⟩), .pointer (some ⟨b2, 0, none⟩)] (fun x : Piece wB SB sz => #[x.1.1]) (KpB b1 b2) (fun xs => xs.map (·.1.2) = chunkL sz l0) (fun _ => True) (chunkL sz l0).length w := by
  intro l J Jx W hW hJ _ hY hJ0
  have l1 := (Array.getElem?_eq_some_iff.1 c1).1
  have l2 := (Array.getElem?_eq_some_iff.1 c2).1
  exact chunk_in m l b1 b2 hm wB SB sz hsz hsz2 A cap l0 h0 hl0 J Jx W hJ hY ((hW.block b1 l1).trans c1) ((hW.block b2 l2).trans c2) hJ0
theorem chunkOf_any {w : World} (A : Option Addr) (n cap sz : Nat) (hsz : 1 ≤ sz) : Calls Tryd.prog 77 #[.slice A n cap, .int .i64 sz] w fun e w' => e = .returned (.func (.func 85) #[] #[.pointer (some ⟨w.heap.size, 0, none⟩), .pointer (some ⟨w.heap.size + 1, 0, none⟩)]) ∧ w' = (w.alloc (.cells #[.slice A n cap] 34)).alloc (.cells #[.int .i64 sz] 3) := by
  have hmf : ∀ (fn : Fn) (first cap : Array Value) (w : World), (Instr.makeFunc fn first cap).run Tryd.prog w = .ok (.func fn first cap) w := fun _ _ _ _ => rfl
  have hc : ((w.alloc (.cells #[.slice A n cap] 34)).alloc (.cells #[.int .i64 sz] 3)).cell? ⟨w.heap.size + 1, 0, none⟩ = some (.int .i64 sz) := by
    have := heap_new (w.alloc (.cells #[.slice A n cap] 34)) (.cells #[.int .i64 sz] 3)
    rw [World.size_alloc] at this
    rw [cell_at this]; rfl
  go_enter Tryd.func77, Tryd.ntmps77
  go_wp2_with fail
  go_ret
  exact ⟨rfl, rfl⟩
end Go.Proofs.YtimblkkojcbipaaDoor
