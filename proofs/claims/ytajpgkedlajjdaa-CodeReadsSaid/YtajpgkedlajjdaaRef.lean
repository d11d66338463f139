/- Walks of the document's writer: rows that bytes are appended to. -/
import Derived.Test.YtajpgkedlajjdaaTogether
namespace Go.Proofs.Ytajpgkedlajjdaa
open Go.RowKit

/-- A slice without room. -/
def Full (w : World) (v : Value) (l : List UInt8) : Prop := ∃ A B, v = .slice A l.length l.length ∧ Sl w B A (bv l)
/-- What may be appended to: a row of the call's own, in a block of F; or a slice without room. -/
def AppIn (w : World) (B : Nat) (F : Nat → Prop) (v : Value) (l : List UInt8) : Prop := (RowB w B v l ∧ ∀ k, v.ownBlock = some k → F k) ∨ Full w v l
/-- What an append comes to. -/
def RRow (w : World) (F : Nat → Prop) (w' : World) (B : Nat) (v : Value) (l : List UInt8) : Prop := RowB w' B v l ∧ Upd F w w' ∧ ∀ k, v.ownBlock = some k → F k ∨ w.heap.size ≤ k
theorem RRow.trans {w w' w'' : World} {F : Nat → Prop} {B : Nat} {v v' : Value} {l l' : List UInt8} (h : RRow w F w' B v l) (g : RRow w' (fun k => v.ownBlock = some k) w'' B v' l') : RRow w F w'' B v' l' :=
  ⟨g.1, h.2.1.trans g.2.1 fun k hk hv => by
    rcases h.2.2 k hv with h1 | h1
    · exact h1
    · omega, fun k hk => by
    have := h.2.1.size
    rcases g.2.2 k hk with h1 | h1
    · exact h.2.2 k h1
    · right; omega⟩
theorem RRow.app {w w' : World} {F : Nat → Prop} {B : Nat} {v : Value} {l : List UInt8} (h : RRow w F w' B v l) : AppIn w' B (fun k => v.ownBlock = some k) v l := .inl ⟨h.1, fun _ h => h⟩
theorem RRow.alloc {w w' : World} {F : Nat → Prop} {B : Nat} {v : Value} {l : List UInt8} (h : RRow w F w' B v l) (o : Obj) : RRow w F (w'.alloc o) B v l := ⟨World.ownsRow.alloc h.1 o, h.2.1.then (.alloc _ _ _), h.2.2⟩
theorem RRow.of_below {w w1 w' : World} {F : Nat → Prop} {B : Nat} {v : Value} {l : List UInt8} (hb : Below w.heap.size w w1) (h : RRow w1 F w' B v l) : RRow w F w' B v l :=
  ⟨h.1, (Upd.of_below F hb).then h.2.1, fun k hk => by
    have := hb.size
    rcases h.2.2 k hk with h1 | h1
    · exact .inl h1
    · right; omega⟩
theorem AppIn.below {w w' : World} {F : Nat → Prop} {B : Nat} {v : Value} {l : List UInt8} (h : AppIn w B F v l) (hb : Below w.heap.size w w') : AppIn w' B F v l := by
  rcases h with ⟨h1, h2⟩ | ⟨A, B', h1, h2⟩
  · exact .inl ⟨(Upd.of_below (fun _ => False) hb).own h1 fun _ _ => id, h2⟩
  · refine .inr ⟨A, B', h1, ?_⟩
    rcases h2 with h2 | ⟨b, o, h2, h3, h4⟩
    · exact .inl h2
    · exact .inr ⟨b, o, h2, h3, fun i u hu => (Upd.of_below (fun _ => False) hb).cell (h4 i u hu) id⟩
theorem AppIn.alloc {w : World} {F : Nat → Prop} {B : Nat} {v : Value} {l : List UInt8} (h : AppIn w B F v l) (o : Obj) : AppIn (w.alloc o) B F v l := h.below ((Below.refl _ _).alloc (Nat.le_refl _) o)
theorem AppIn.slice {w : World} {F : Nat → Prop} {B : Nat} {v : Value} {l : List UInt8} (h : AppIn w B F v l) : ∃ A n c, v = .slice A n c := by
  rcases h with ⟨h1, _⟩ | ⟨A, B', h1, _⟩
  · exact h1.slice
  · exact ⟨A, _, _, h1⟩
/-- The walk's law. -/
theorem wp_bytes_app {w : World} {ops : Array Oper} {rest : List Oper} {o : Oper} {a : Act} {Q : Exit → Act → World → Prop} (hgd : o.guard = none) (s x : Operand) (ho : o.op = .call { callee := .builtin .append, args := #[s, x], argTypes := #[27, 27] })
    (B : Nat) (F : Nat → Prop) (v : Value) (l : List UInt8) (hs : a.eval s = v) (hown : AppIn w B F v l) (ad : Addr) (m c : Nat) (news : List UInt8) (hx : a.eval x = .slice (some ad) m c) (hm : m = news.length) (hpos : 0 < news.length)
    (hnews : ∀ j u, (bv news)[j]? = some u → w.cell? (ad.add j) = some u) (hlen : l.length + news.length ≤ 70368744177664) (hbase : B ≤ w.heap.size)
    (h : ∀ v' w', RRow w F w' B v' (l ++ news) → wpList Try.prog ops Q rest (a.put o.dst v') w') : wpList Try.prog ops Q (o :: rest) a w := by
  rcases hown with ⟨h1, h2⟩ | ⟨A, B', h1, h2⟩
  · refine wp_bytes hgd s x ho B v l hs h1 ad m c news hx hm hnews hlen hbase fun v' w' h3 h4 h5 => h v' w' ⟨h3, .grown h4 h2, fun k hk => ?_⟩
    rcases h5 k hk with h6 | h6
    · exact .inl (h2 k h6)
    · exact .inr h6
  · subst h1
    refine wp_bytes_full hgd s x ho B' A l hs h2 ad m c news hx hm hpos hnews hlen fun v' w' h3 h4 => h v' w' ⟨RowB.base h3 hbase, .of_below F h4, fun k hk => .inr (World.ownsRow.lt h3 k hk).1⟩

set_option maxRecDepth 100000 in
set_option maxHeartbeats 1600000 in
theorem refNum_any (B : Nat) (F : Nat → Prop) (l : List UInt8) (v : Value) (n : Nat) (w : World) (hA : AppIn w B F v l) (hn : n < 18446744073709551616) (hB : B ≤ w.heap.size) (hlen : l.length + 10 ≤ 70368744177664) :
    Calls Try.prog 38 #[v, .int .u64 n] w fun e w' => ∃ v', e = .returned v' ∧ RRow w F w' B v' (l ++ num n) := by
  obtain ⟨A, n0, c, rfl⟩ := hA.slice
  replace hA := hide hA
  replace hB := hide hB
  replace hlen := hide hlen
  have hn0 := hide hn
  go_enter Try.func38, Try.ntmps38
  go_wp2_with fail
  go_loopw [0, 1] (fun x z wr => ∃ (m : Nat) (pre : List UInt8), z = .int .u64 m ∧ m < 18446744073709551616 ∧ pre ++ num m = num n ∧ (∃ A n0 c, x = .slice A n0 c) ∧ ((pre = [] ∧ x = .slice A n0 c ∧ wr = w) ∨ RRow w F wr B x (l ++ pre))) (fun _ z _ => (intOf z).toNat)
  case atStart => exact ⟨n, [], rfl, hn, rfl, ⟨_, _, _, rfl⟩, .inl ⟨rfl, rfl, rfl⟩⟩
  case round =>
    obtain ⟨m, pre, rfl, hm2, hpre, ⟨A1, n1, c1, rfl⟩, hR⟩ := hrel
    have hpl := hide (pre_len hpre hn0.out)
    have hgo : ∃ G : Nat → Prop, AppIn wr B G (.slice A1 n1 c1) (l ++ pre) ∧ B ≤ wr.heap.size ∧ ∀ w' v' l', RRow wr G w' B v' l' → RRow w F w' B v' l' := by
      rcases hR with ⟨rfl, hx, rfl⟩ | hR
      · rw [List.append_nil, hx]
        exact ⟨F, hA.out, hB.out, fun _ _ _ h => h⟩
      · exact ⟨_, hR.app, Nat.le_trans hB.out hR.2.1.size, fun _ _ _ h => hR.trans h⟩
    obtain ⟨G, hG, hBr, hback⟩ := hgo
    replace hpre := hide hpre
    replace hG := hide hG
    replace hback := hide hback
    clear hR
    by_cases hge : 128 ≤ m
    · obtain ⟨c2, hc2, hb2, hp2⟩ := more_pack m hge
      replace hp2 := hide hp2
      replace hc2 := hide hc2
      go_wp2_with (
        at_builtin
        refine wp_bytes_app rfl (.tmp 7) (.tmp 11) rfl B G (.slice A1 n1 c1) (l ++ pre) rfl (hG.out.alloc _) ⟨wr.heap.size, 0, none⟩ 1 1 [c2] rfl rfl Nat.one_pos ?_ ?_ ?_ ?_
        · exact one_byte (by simp [go_sem]; done) rfl
        · have := hlen.out; have := hpl.out; simp only [List.length_append, List.length_singleton]; omega
        · exact Nat.le_trans hBr (by simp)
        intro v3 w3 h3
        obtain ⟨A3, n3, k3, rfl⟩ := h3.1.slice)
      go_roundw
      case rel =>
        refine ⟨m / 128, pre ++ [c2], by go_num, by omega, ?_, ⟨_, _, _, rfl⟩, .inr ?_⟩
        · rw [← hpre.out, hp2.out, List.append_assoc]; rfl
        · rw [← List.append_assoc]
          exact hback.out _ _ _ (h3.of_below ((Below.refl _ _).alloc (Nat.le_refl _) _))
      case measure => simp [intOf]; omega
    · obtain ⟨c2, hc2, hp2⟩ := last_pack m (by omega)
      replace hp2 := hide hp2
      go_wp2_with (
        at_builtin
        refine wp_bytes_app rfl (.tmp 15) (.tmp 18) rfl B G (.slice A1 n1 c1) (l ++ pre) rfl (hG.out.alloc _) ⟨wr.heap.size, 0, none⟩ 1 1 [c2] rfl rfl Nat.one_pos ?_ ?_ ?_ ?_
        · exact one_byte (u := .int .u8 m) (by simp [go_sem]; done) (by rw [hc2])
        · have := hlen.out; have := hpl.out; simp only [List.length_append, List.length_singleton]; omega
        · exact Nat.le_trans hBr (by simp)
        intro v3 w3 h3
        obtain ⟨A3, n3, k3, rfl⟩ := h3.1.slice)
      go_ret
      refine ⟨_, rfl, ?_⟩
      rw [← hpre.out, hp2.out, ← List.append_assoc]
      exact hback.out _ _ _ (h3.of_below ((Below.refl _ _).alloc (Nat.le_refl _) _))

set_option maxRecDepth 100000 in
theorem refInt_any (B : Nat) (F : Nat → Prop) (l : List UInt8) (v : Value) (n : Int) (w : World) (hA : AppIn w B F v l) (h1 : -9223372036854775808 ≤ n) (h2 : n ≤ 9223372036854775807) (hB : B ≤ w.heap.size) (hlen : l.length + 10 ≤ 70368744177664) :
    Calls Try.prog 39 #[v, .int .i64 n] w fun e w' => ∃ v', e = .returned v' ∧ RRow w F w' B v' (l ++ num (zig n)) := by
  obtain ⟨A, n0, c, rfl⟩ := hA.slice
  have hN := hide (refNum_any B F l _ (zig n) w hA (zig_lt h1 h2) hB hlen)
  replace hA := hide hA
  replace hB := hide hB
  replace hlen := hide hlen
  by_cases hn : n < 0
  · have hz := hide (zig_neg hn)
    obtain ⟨x, hx⟩ : ∃ x : Nat, n = -1 - (x : Int) := ⟨(-1 - n).toNat, by omega⟩
    subst hx
    rw [show (-1 - (-1 - (x : Int))).toNat = x by omega] at hz
    have he : (-(-1 - (x : Int) + 1) * 2 + 1) = ((x * 2 + 1 : Nat) : Int) := by push_cast; omega
    replace he := hide he
    go_enter Try.func39, Try.ntmps39
    go_wp2_with fail
    rw [he.out, ← hz.out]
    refine hN.out.mono ?_
    rintro e w' ⟨v', rfl, h⟩
    go_wp2_with fail
    go_ret
    exact ⟨_, rfl, h⟩
  · have hz := hide (zig_pos hn)
    obtain ⟨x, rfl⟩ := Int.eq_ofNat_of_zero_le (Int.not_lt.1 hn)
    have he : ((x : Int) * 2) = ((x * 2 : Nat) : Int) := by push_cast; rfl
    replace he := hide he
    go_enter Try.func39, Try.ntmps39
    go_wp2_with fail
    rw [he.out, show x * 2 = zig (x : Int) from hz.out.symm]
    refine hN.out.mono ?_
    rintro e w' ⟨v', rfl, h⟩
    go_wp2_with fail
    go_ret
    exact ⟨_, rfl, h⟩

set_option maxRecDepth 100000 in
theorem refText_any (B : Nat) (F : Nat → Prop) (l : List UInt8) (v : Value) (s : ByteArray) (w : World) (hA : AppIn w B F v l) (hB : B ≤ w.heap.size) (hlen : l.length + s.size + 10 ≤ 70368744177664) :
    Calls Try.prog 19 #[v, .string s] w fun e w' => ∃ v', e = .returned v' ∧ RRow w F w' B v' (l ++ text s) := by
  have hN := hide (refNum_any B F l _ s.size w hA (by omega) hB (by omega))
  have hsz : s.size < 70368744177664 := by omega
  have hnl := hide (num_len10 (n := s.size) (by omega))
  obtain ⟨A, n0, c, rfl⟩ := hA.slice
  replace hA := hide hA
  replace hB := hide hB
  replace hlen := hide hlen
  go_enter Try.func19, Try.ntmps19
  go_wp2_with fail
  refine hN.out.mono ?_
  rintro e w1 ⟨v1, rfl, h1⟩
  replace h1 := hide h1
  obtain ⟨A1, n1, k1, rfl⟩ := h1.out.1.slice
  go_wp2_with (
    at_builtin
    refine wp_bytes_string rfl (.tmp 9) (.tmp 10) rfl B (.slice A1 n1 k1) (l ++ num s.size) rfl h1.out.1 s rfl ?_ ?_ ?_
    · have := hlen.out; have := hnl.out; simp only [List.length_append]; omega
    · exact Nat.le_trans hB.out h1.out.2.1.size
    intro v3 w3 h3 hg3 hm3
    obtain ⟨A3, n3, k3, rfl⟩ := h3.slice)
  go_ret
  refine ⟨_, rfl, h1.out.trans ⟨?_, .grown hg3 fun _ h => h, hm3⟩⟩
  unfold text
  rw [← List.append_assoc]
  exact h3

set_option maxRecDepth 100000 in
theorem refBool_any (B : Nat) (F : Nat → Prop) (l : List UInt8) (v : Value) (b : Bool) (w : World) (hA : AppIn w B F v l) (hB : B ≤ w.heap.size) (hlen : l.length + 1 ≤ 70368744177664) :
    Calls Try.prog 40 #[v, .bool b] w fun e w' => ∃ v', e = .returned v' ∧ RRow w F w' B v' (l ++ [bit b]) := by
  obtain ⟨A, n0, c, rfl⟩ := hA.slice
  replace hA := hide hA
  replace hB := hide hB
  replace hlen := hide hlen
  cases b
  · go_enter Try.func40, Try.ntmps40
    go_wp2_with (
      at_builtin
      refine wp_bytes_app rfl (.tmp 9) (.tmp 10) rfl B F (.slice A n0 c) l rfl (hA.out.alloc _) ⟨w.heap.size, 0, none⟩ 1 1 [bit false] rfl rfl Nat.one_pos ?_ ?_ ?_ ?_
      · exact one_byte (u := .int .u8 0) (by simp [go_sem]; done) rfl
      · have := hlen.out; simp only [List.length_singleton]; omega
      · exact Nat.le_trans hB.out (by simp)
      intro v3 w3 h3
      obtain ⟨A3, n3, k3, rfl⟩ := h3.1.slice)
    go_ret
    exact ⟨_, rfl, h3.of_below ((Below.refl _ _).alloc (Nat.le_refl _) _)⟩
  · go_enter Try.func40, Try.ntmps40
    go_wp2_with (
      at_builtin
      refine wp_bytes_app rfl (.tmp 6) (.tmp 7) rfl B F (.slice A n0 c) l rfl (hA.out.alloc _) ⟨w.heap.size, 0, none⟩ 1 1 [bit true] rfl rfl Nat.one_pos ?_ ?_ ?_ ?_
      · exact one_byte (u := .int .u8 1) (by simp [go_sem]; done) rfl
      · have := hlen.out; simp only [List.length_singleton]; omega
      · exact Nat.le_trans hB.out (by simp)
      intro v3 w3 h3
      obtain ⟨A3, n3, k3, rfl⟩ := h3.1.slice)
    go_ret
    exact ⟨_, rfl, h3.of_below ((Below.refl _ _).alloc (Nat.le_refl _) _)⟩
end Go.Proofs.Ytajpgkedlajjdaa
