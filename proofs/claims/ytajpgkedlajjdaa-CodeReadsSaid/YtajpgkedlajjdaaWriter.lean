/- Walks of the writer. -/
import Derived.Test.YtajpgkedlajjdaaRows
import Derived.Test.YtajpgkedlajjdaaOwn
import Derived.Test.YtajpgkedlajjdaaCode
import Derived.WalkSpells
import Derived.WalkLawsBesides
import Derived.Handy
import Derived.Lib.AppendStr
namespace Go.Proofs.Ytajpgkedlajjdaa
open Go.RowKit

/-- The writer at block p holds the bytes l. -/
def Wr (w : World) (B p : Nat) (l : List UInt8) (v : Value) : Prop := B ≤ p ∧ w.heap[p]? = some (.cells #[v] 75) ∧ RowB w B v l
def Fp (p : Nat) (v : Value) (k : Nat) : Prop := k = p ∨ v.ownBlock = some k
/-- A step of the writer at p. -/
def WStep (B p : Nat) (w : World) (v : Value) (w' : World) (l' : List UInt8) (v' : Value) : Prop :=
  Wr w' B p l' v' ∧ Upd (Fp p v) w w' ∧ ∀ k, v'.ownBlock = some k → v.ownBlock = some k ∨ w.heap.size ≤ k
theorem WStep.refl {B p : Nat} {w : World} {v : Value} {l : List UInt8} (h : Wr w B p l v) : WStep B p w v w l v := ⟨h, .refl _ _, fun _ h => .inl h⟩
theorem WStep.trans {B p : Nat} {w w' w'' : World} {v v' v'' : Value} {l' l'' : List UInt8} (h : WStep B p w v w' l' v') (g : WStep B p w' v' w'' l'' v'') : WStep B p w v w'' l'' v'' := by
  refine ⟨g.1, h.2.1.trans g.2.1 ?_, ?_⟩
  · rintro k hk (rfl | hv)
    · exact .inl rfl
    · rcases h.2.2 k hv with h1 | h1
      · exact .inr h1
      · omega
  · intro k hk
    have hs := h.2.1.size
    rcases g.2.2 k hk with h1 | h1
    · exact h.2.2 k h1
    · right; omega
theorem WStep.alloc {B p : Nat} {w w' : World} {v v' : Value} {l' : List UInt8} (h : WStep B p w v w' l' v') (o : Obj) : WStep B p w v (w'.alloc o) l' v' :=
  ⟨⟨h.1.1, heap_old h.1.2.1 o, h.1.2.2.alloc o⟩, h.2.1.then (.alloc _ _ _), h.2.2⟩
theorem WStep.arg {B p : Nat} {w w' : World} {v v' : Value} {l' : List UInt8} {x : Value} {xs : List Value} (h : WStep B p w v w' l' v') (hx : ArgV w (fun k => ¬ Fp p v k) x xs) : ArgV w' (fun k => ¬ Fp p v k) x xs := hx.upd h.2.1 fun _ hk => hk
section
variable {w : World} {B p : Nat} {l : List UInt8} {v : Value}
theorem Wr.cell (h : Wr w B p l v) : w.cell? ⟨p, 0, none⟩ = some v := by rw [cell_at h.2.1]; rfl
theorem Wr.frozen (h : Wr w B p l v) : w.frozen? ⟨p, 0, none⟩ = false := frozen_at h.2.1 0
theorem Wr.lt (h : Wr w B p l v) : p < w.heap.size := (Array.getElem?_eq_some_iff.1 h.2.1).1
theorem Wr.own (h : Wr w B p l v) : w.ownsRow B 5 1 v l.length (bv l) := h.2.2
theorem Wr.base (h : Wr w B p l v) : B ≤ w.heap.size := Nat.le_trans h.1 (Nat.le_of_lt h.lt)
theorem Fp.lt (h : Wr w B p l v) {k : Nat} (hk : Fp p v k) : k < w.heap.size := by
  rcases hk with rfl | hk
  · exact h.lt
  · exact (h.2.2.lt k hk).2
theorem Wr.ne (h : Wr w B p l v) : v.ownBlock ≠ some p := fun e => absurd (own_type h.2.2 e h.2.1) (by decide)
theorem Wr.upd {w' : World} {F : Nat → Prop} (h : Wr w B p l v) (hu : Upd F w w') (hF : ∀ k, Fp p v k → ¬ F k) : Wr w' B p l v :=
  ⟨h.1, hu.heap h.2.1 (hF p (.inl rfl)), hu.own h.2.2 fun k hk => hF k (.inr hk)⟩
theorem Wr.alloc (h : Wr w B p l v) (o : Obj) : Wr (w.alloc o) B p l v := h.upd (F := fun _ => False) (.alloc _ _ _) fun _ _ hf => hf
/-- What a walk meets behind an append to the writer's row. -/
theorem Wr.grown {w1 : World} (h : Wr w B p l v) (hg : w.grownBy w1 v.ownBlock) : w1.heap[p]? = some (.cells #[v] 75) := by
  rw [hg.block p h.lt (fun e => h.ne e.symm)]; exact h.2.1
theorem Wr.put {w1 : World} {v' : Value} {m : List UInt8} (h : Wr w B p l v) (hg : w.grownBy w1 v.ownBlock) (ho : RowB w1 B v' (l ++ m)) (hm : ∀ k, v'.ownBlock = some k → v.ownBlock = some k ∨ w.heap.size ≤ k) : WStep B p w v (w1.setCell ⟨p, 0, none⟩ v') (l ++ m) v' := by
  have hp := h.grown hg
  have hne : v'.ownBlock ≠ some p := fun e => absurd (own_type ho e hp) (by decide)
  have hu : Upd (Fp p v) w (w1.setCell ⟨p, 0, none⟩ v') := (Upd.grown (F := Fp p v) hg fun k hk => .inr hk).then (.set _ (.inl rfl) _)
  exact ⟨⟨h.1, heap_set hp 0 v', (Upd.set (F := fun k => k = p) w1 (a := ⟨p, 0, none⟩) rfl v').own ho fun k hk e => hne (e ▸ hk)⟩, hu, hm⟩
end

theorem nums_snoc (ns : List Nat) (k : Nat) (h : k < ns.length) : nums (ns.take (k + 1)) = nums (ns.take k) ++ num ns[k] := by
  unfold nums; rw [List.take_succ_eq_append_getElem h, List.map_append, List.flatten_append]; simp

theorem nums_take_len (ns : List Nat) (k : Nat) (hn : ∀ n ∈ ns, n < 18446744073709551616) : (nums (ns.take k)).length ≤ 10 * k := by
  induction k with
  | zero => simp [nums]
  | succ k ih =>
    by_cases h : k < ns.length
    · rw [nums_snoc ns k h, List.length_append]
      have := num_len10 (hn _ (List.getElem_mem h))
      omega
    · rw [List.take_of_length_le (by omega)]
      rw [List.take_of_length_le (by omega)] at ih
      omega
theorem more_pack (m : Nat) (hge : 128 ≤ m) : ∃ c : UInt8, c.toNat = m % 128 + 128 ∧ bits .or .u8 ((m : Int) % 256) 128 = (c.toNat : Int) ∧ num m = c :: num (m / 128) := by
  have e : (UInt8.ofNat (m % 128 + 128)).toNat = m % 128 + 128 := by rw [UInt8.toNat_ofNat_of_lt' (by simp [UInt8.size]; omega)]
  refine ⟨_, e, ?_, num_great hge⟩
  rw [e]
  exact u8_more m
theorem last_pack (m : Nat) (h : m < 128) : ∃ c : UInt8, c.toNat = m ∧ num m = [c] :=
  ⟨_, by rw [UInt8.toNat_ofNat_of_lt' (by simp [UInt8.size]; omega)], num_small h⟩

theorem num_pos (n : Nat) : 0 < (num n).length := by
  by_cases h : n < 128
  · rw [num_small h]; simp
  · rw [num_great (by omega)]; simp
theorem pre_len {pre : List UInt8} {m n : Nat} (h : pre ++ num m = num n) (hn : n < 18446744073709551616) : pre.length + 1 ≤ 10 := by
  have h1 := congrArg List.length h
  rw [List.length_append] at h1
  have := num_len10 hn
  have := num_pos m
  omega

theorem one_byte {w : World} {g : Nat} {c : UInt8} {u : Value} (h : w.cell? ⟨g, 0, none⟩ = some u) (hu : u = .int .u8 c.toNat) : ∀ j x, (bv [c])[j]? = some x → w.cell? ((⟨g, 0, none⟩ : Addr).add j) = some x := by
  intro j x hj
  match j, hj with
  | 0, hj =>
    have e : u = x := by rw [hu]; simpa [bv] using hj
    subst e
    exact h

set_option maxRecDepth 100000 in
set_option maxHeartbeats 1600000 in
theorem wNum_any (B p : Nat) (l : List UInt8) (v : Value) (ns : List Nat) (x : Value) (w : World) (hW : Wr w B p l v) (hx : ArgV w (fun k => ¬ Fp p v k) x (ns.map fun n : Nat => .int .u64 n)) (hn : ∀ n ∈ ns, n < 18446744073709551616)
    (hlen : l.length + 10 * ns.length ≤ 70368744177664) :
    Calls Try.prog 13 #[.pointer (some ⟨p, 0, none⟩), x] w fun e w' => e = .returned (.tuple #[]) ∧ ∃ v', WStep B p w v w' (l ++ nums ns) v' := by
  have hx0 := hide hx
  have hS0 := hide (WStep.refl hW)
  replace hW := hide hW
  replace hn := hide hn
  replace hlen := hide hlen
  obtain ⟨A, c, rfl, hlc, hcm, -⟩ := hx
  rw [List.length_map] at *
  unfold maxLen at hcm
  go_enter Try.func13, Try.ntmps13
  go_wp2_with fail
  go_loopw [8] (fun i wr => ∃ (k : Nat) (v' : Value), k ≤ ns.length ∧ i = .int .i64 k ∧ WStep B p w v wr (l ++ nums (ns.take k)) v') (fun i _ => ns.length - (intOf i).toNat)
  case atStart => exact ⟨0, v, Nat.zero_le _, rfl, by simpa [nums] using hS0.out⟩
  case round =>
    obtain ⟨k, v', hk, rfl, hS⟩ := hrel
    have hx1 := hS.arg hx0.out
    replace hS := hide hS
    by_cases hlt : k < ns.length
    · obtain ⟨b, o, rfl, hb, hcell⟩ := hx1.get (i := k) (u := .int .u64 ns[k]) (by simp [hlt])
      have hm := hn.out _ (List.getElem_mem hlt)
      have hsn := hide (nums_snoc ns k hlt)
      generalize ns[k] = n0 at *
      clear hx1
      go_wp2_with fail
      go_loopw [5] (fun z wi => ∃ (m : Nat) (pre : List UInt8) (v2 : Value), z = .int .u64 m ∧ m < 18446744073709551616 ∧ pre ++ num m = num n0 ∧ WStep B p w v wi (l ++ nums (ns.take k) ++ pre) v2) (fun z _ => (intOf z).toNat)
      case atStart => exact ⟨n0, [], v', rfl, hm, rfl, by rw [List.append_nil]; exact hS.out⟩
      case round =>
        clear hS
        obtain ⟨m, pre, v2, rfl, hm2, hpre, hS⟩ := hrel
        have hpl := pre_len hpre hm
        replace hpre := hide hpre
        replace hS := hide hS
        have hc0 := hS.out.1.cell
        have hf0 := hS.out.1.frozen
        by_cases hge : 128 ≤ m
        · obtain ⟨c1, hc1, hb1, hp1⟩ := more_pack m hge
          replace hp1 := hide hp1
          replace hc1 := hide hc1
          go_wp2_with (
            at_builtin
            refine wp_bytes rfl (.tmp 18) (.tmp 22) rfl B v2 (l ++ nums (ns.take k) ++ pre) rfl ?_ ⟨wr.heap.size, 0, none⟩ 1 1 [c1] rfl rfl ?_ ?_ ?_ ?_
            · exact (hS.out.1.alloc _).2.2
            · exact one_byte (by simp [go_sem]; done) rfl
            · have := hlen.out; have := nums_take_len ns k hn.out; simp only [List.length_append, List.length_singleton]; omega
            · exact (hS.out.1.alloc _).base
            intro v3 w3 h3 hg3 hm3
            have hp3 := (hS.out.1.alloc _).grown hg3
            have hc3 := cell_at hp3 0
            have hf3 := frozen_at hp3 0
            replace hp3 := hide hp3
            obtain ⟨A3, n3, k3, rfl⟩ := h3.slice)
          go_roundw
          case rel =>
            refine ⟨m / 128, pre ++ [c1], .slice A3 n3 k3, by go_num, by omega, ?_, ?_⟩
            · rw [← hpre.out, hp1.out, List.append_assoc]; rfl
            · rw [← List.append_assoc]
              exact hS.out.trans (((WStep.refl hS.out.1).alloc _).trans ((hS.out.1.alloc _).put hg3 h3 hm3))
          case measure => simp [intOf]; omega
        · obtain ⟨c1, hc1, hp1⟩ := last_pack m (by omega)
          replace hp1 := hide hp1
          go_wp2_with (
            at_builtin
            refine wp_bytes rfl (.tmp 32) (.tmp 35) rfl B v2 (l ++ nums (ns.take k) ++ pre) rfl ?_ ⟨wr.heap.size, 0, none⟩ 1 1 [c1] rfl rfl ?_ ?_ ?_ ?_
            · exact (hS.out.1.alloc _).2.2
            · exact one_byte (u := .int .u8 m) (by simp [go_sem]; done) (by rw [hc1])
            · have := hlen.out; have := nums_take_len ns k hn.out; simp only [List.length_append, List.length_singleton]; omega
            · exact (hS.out.1.alloc _).base
            intro v3 w3 h3 hg3 hm3
            have hp3 := (hS.out.1.alloc _).grown hg3
            have hc3 := cell_at hp3 0
            have hf3 := frozen_at hp3 0
            replace hp3 := hide hp3
            obtain ⟨A3, n3, k3, rfl⟩ := h3.slice)
          go_roundw
          case rel =>
            refine ⟨k + 1, .slice A3 n3 k3, by omega, by go_num, ?_⟩
            rw [hsn.out, ← hpre.out, hp1.out, ← List.append_assoc, ← List.append_assoc]
            exact hS.out.trans (((WStep.refl hS.out.1).alloc _).trans ((hS.out.1.alloc _).put hg3 h3 hm3))
          case measure => simp [intOf]; omega
    · obtain rfl : k = ns.length := by omega
      go_wp2_with fail
      go_end0
      refine ⟨rfl, v', ?_⟩
      have := hS.out
      rwa [List.take_length] at this
end Go.Proofs.Ytajpgkedlajjdaa
