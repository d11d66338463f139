/- Part 21 of the walks (merged): Pairs, Batch5, Qds. -/
import Derived.Test.YtpnboihbifhigaaGreatDoorM20
import Derived.Test.YtpnboihbifhigaaGreatDoorM5
import Derived.Test.YtpnboihbifhigaaGreatDoorM9
import Derived.Test.YtpnboihbifhigaaGreatDoorM1
/- The laws' pairs. -/
namespace Go.Proofs.YtpnboihbifhigaaGreatDoor
open Go Go.RowKit
structure QD where
  kk : Nat
  nn : Nat
  gg : Bool
def qCells (q : QD) : List Value := [.int .u8 q.kk, .int .u8 q.nn, .bool q.gg]
def QD.ok (q : QD) : Prop := q.kk < 256 ∧ q.nn < 256
def pairQ (i : Nat) (q : QD) : PairD := ⟨keyS q.kk, valS i q.nn, q.gg⟩
def pairsL (i : Nat) : List QD → List PairD
  | [] => []
  | q :: qs => pairQ i q :: pairsL (i + 1) qs
theorem pairsL_snoc : ∀ (i : Nat) (qs : List QD) (q : QD), pairsL i (qs ++ [q]) = pairsL i qs ++ [pairQ (i + qs.length) q]
  | i, [], q => rfl
  | i, p :: qs, q => by
    have := pairsL_snoc (i + 1) qs q
    simp only [List.cons_append, pairsL, this, List.length_cons]
    rw [show i + 1 + qs.length = i + (qs.length + 1) by omega]
theorem pairsL_len : ∀ (i : Nat) (qs : List QD), (pairsL i qs).length = qs.length
  | _, [] => rfl
  | i, q :: qs => by simp [pairsL, pairsL_len (i + 1) qs]
/-- A box of one pair, from block B on. -/
def PBoxF (B : Nat) (p : PairD) (v : Value) (w : World) : Prop := ∃ b, v = .pointer (some ⟨b, 0, none⟩) ∧ B ≤ b ∧ w.heap[b]? = some (.cells #[.string p.key, .string p.val, .bool p.gone] 66)
theorem PBoxF.kept {B : Nat} {p : PairD} : Kept (PBoxF B p) := fun _ _ _ ⟨b, h1, h2, h3⟩ hb => ⟨b, h1, h2, (Upd.of_below (fun _ => False) hb).heap h3 id⟩
theorem PBoxF.store {w : World} {b : Nat} {x y z : Value} (h : w.heap[b]? = some (.cells #[x, y, z] 66)) (k u : ByteArray) (g : Bool) : (((w.setCell ⟨b, 0, none⟩ (.string k)).setCell ⟨b, 1, none⟩ (.string u)).setCell ⟨b, 2, none⟩ (.bool g)).heap[b]? = some (.cells #[.string k, .string u, .bool g] 66) := by
  have h1 : (w.setCell ⟨b, 0, none⟩ (.string k)).heap[b]? = some (.cells #[.string k, y, z] 66) := by rw [heap_set h]; rfl
  have h2 : ((w.setCell ⟨b, 0, none⟩ (.string k)).setCell ⟨b, 1, none⟩ (.string u)).heap[b]? = some (.cells #[.string k, .string u, z] 66) := by rw [heap_set h1]; rfl
  rw [heap_set h2]; rfl
theorem pair_info : (Tryz.prog.info? 66).map (fun i => (i.zero, i.size, i.bytes)) = some (some (.agg #[.string ⟨#[]⟩, .string ⟨#[]⟩, .bool false]), 3, 40) := by kernel_rfl
/-- Its own pairs. -/
def PrO (w : World) (B : Nat) (v : Value) (ps : List PairD) : Prop := w.ownsRow B 66 3 v ps.length (ps.map pairCells).flatten
theorem threeCells {w : World} {g : Nat} {x y z : Value} (h : w.cell? ⟨g, 0, none⟩ = some x) (h2 : w.cell? ⟨g, 1, none⟩ = some y) (h3 : w.cell? ⟨g, 2, none⟩ = some z) : ∀ j u, [x, y, z][j]? = some u → w.cell? ((⟨g, 0, none⟩ : Addr).add j) = some u := by
  intro j u hj
  rcases j with _ | _ | _ | j
  · injection hj with hj; rw [← hj]; exact h
  · injection hj with hj; rw [← hj]; exact h2
  · injection hj with hj; rw [← hj]; exact h3
  · simp at hj
theorem wp_pair {w : World} {ops : Array Oper} {rest : List Oper} {o : Oper} {a : Act} {Q : Exit → Act → World → Prop} (hgd : o.guard = none) (s x : Operand) (ho : o.op = .call { callee := .builtin .append, args := #[s, x], argTypes := #[37, 37] })
    (B : Nat) (v : Value) (ps : List PairD) (hs : a.eval s = v) (hown : PrO w B v ps) (g : Nat) (hx : a.eval x = .slice (some ⟨g, 0, none⟩) 1 1) (p : PairD)
    (h0 : w.cell? ⟨g, 0, none⟩ = some (.string p.key)) (h1 : w.cell? ⟨g, 1, none⟩ = some (.string p.val)) (h2 : w.cell? ⟨g, 2, none⟩ = some (.bool p.gone)) (hlen : ps.length ≤ 1000000) (hbase : B ≤ w.heap.size)
    (h : ∀ v' w', PrO w' B v' (ps ++ [p]) → w.grownBy w' v.ownBlock → wpList Tryz.prog ops Q rest (a.put o.dst v') w') : wpList Tryz.prog ops Q (o :: rest) a w := by
  obtain ⟨i0, hi, hz0, hz1, hz2⟩ := info_parts pair_info
  refine wpList_append_own w hgd s x 37 ho B 66 i0 (.agg #[.string ⟨#[]⟩, .string ⟨#[]⟩, .bool false]) 3 40 Tryz.underlying37 hi hz0 hz1 hz2 rfl (by decide) v ps.length ((ps.map pairCells).flatten) hs hown ⟨g, 0, none⟩ 1 1 (pairCells p) hx rfl (threeCells h0 h1 h2) ?_ ?_ ?_ hbase ?_
  · simp [pairCells, Value.oneCell']
  · unfold maxLen; omega
  · omega
  · intro v' w' h3 h4 _
    refine h v' w' ?_ h4
    unfold PrO
    rw [List.length_append, List.map_append, List.flatten_append]
    simpa using h3
set_option maxRecDepth 100000 in
set_option maxHeartbeats 4000000 in
theorem pairs_any {W : World} {S : Nat → Prop} {v : Value} {qs : List QD} {mp n i : Nat} {M : Tbl} (hq : SegV W S v qs.length (qs.map qCells).flatten) (hS : ∀ k, S k → k < W.heap.size ∧ k ≠ mp) (hok : ∀ q ∈ qs, q.ok) (hl : qs.length ≤ 100) (hi : i ≤ 100) (hm : MsV W mp n M) (hn : n ≤ 100000) :
    Calls Tryz.prog 15 #[.int .i64 i, v, .map (some mp)] W fun e w' => ∃ v', e = .returned v' ∧ PrO w' W.heap.size v' (pairsL i qs) ∧ MsV w' mp (n + qs.length) (M.chs (pairsL i qs)) ∧ Upd (fun k => k = mp) W w' := by
  obtain ⟨i0, hi0, hz0, hz1, hz2⟩ := info_parts pair_info
  obtain ⟨A, c, rfl, hc1, hc2, -⟩ := id hq
  have hc3 : c ≤ 9223372036854775807 := by unfold maxLen at hc2; exact hc2
  have hml := hm.lt
  replace hq := hide hq
  replace hok := hide hok
  replace hS := hide hS
  replace hm := hide hm
  replace hi0 := hide hi0
  replace hz0 := hide hz0
  replace hz1 := hide hz1
  replace hz2 := hide hz2
  clear hc2
  go_enter Tryz.func15, Tryz.ntmps15
  go_wp2_with fail
  go_loopw [7, 8] (fun z j wr => ∃ k : Nat, k ≤ qs.length ∧ j = .int .i64 k ∧ PrO wr W.heap.size z (pairsL i (qs.take k)) ∧ MsV wr mp (n + k) (M.chs (pairsL i (qs.take k))) ∧ Upd (fun k => k = mp) W wr) (fun _ j _ => qs.length - (intOf j).toNat)
  case atStart => exact ⟨0, Nat.zero_le _, rfl, World.ownsRow_nil _ _ _ _, by simpa [Tbl.chs, pairsL] using hm.out, .refl _ _⟩
  case round =>
    obtain ⟨k, hk, rfl, hP, hM, hU⟩ := hrel
    have hWr := hU.size
    have hsl : ∃ a n c, u7 = .slice a n c := by
      rcases hP.2 with ⟨rfl, _⟩ | ⟨g, cap, cur, rfl, _⟩
      · exact ⟨_, _, _, rfl⟩
      · exact ⟨_, _, _, rfl⟩
    obtain ⟨A2, n2, c2, rfl⟩ := hsl
    rcases Nat.lt_or_ge k qs.length with hlt | hge
    · have hq2 := hq.out.upd hU fun k hk e => (hS.out k hk).2 e
      obtain ⟨g, o, rfl, hSg, hcell⟩ := SegV.get (k := 3) (f := qCells) (fun _ => rfl) (by decide) hq2 hlt
      have c0 := hcell 0 (.int .u8 qs[k].kk) (by decide) rfl
      have c1 := hcell 1 (.int .u8 qs[k].nn) (by decide) rfl
      have c2' := hcell 2 (.bool qs[k].gg) (by decide) rfl
      rw [show o + (3 * k + 0) = o + k * 3 by omega] at c0
      rw [show o + (3 * k + 1) = o + k * 3 + 1 by omega] at c1
      rw [show o + (3 * k + 2) = o + k * 3 + 2 by omega] at c2'
      have hgl := (hS.out g hSg).1
      obtain ⟨hpk, hpn⟩ := hok.out _ (List.getElem_mem hlt)
      have hsn : pairsL i (qs.take (k + 1)) = pairsL i (qs.take k) ++ [pairQ (i + k) qs[k]] := by
        rw [List.take_succ_eq_append_getElem hlt, pairsL_snoc, List.length_take, Nat.min_eq_left hk]
      generalize qs[k] = q at *
      obtain ⟨pk, pn, pg⟩ := q
      simp only [pairQ] at hpk hpn c0 c1 c2' hsn
      obtain ⟨im, him0⟩ : ∃ im, im = i + k := ⟨_, rfl⟩
      rw [← him0] at hsn
      have him : im ≤ 1000 := by omega
      have hws := hide (show IntKind.i64.wrap ((i : Int) + (k : Int)) = (im : Int) by simp [IntKind.wrap, IntKind.bits, IntKind.signed]; omega)
      have hkl := hide (show (k : Int) < (qs.length : Int) by omega)
      have hk00 := hide (show (0 : Int) ≤ (k : Int) by omega)
      have hwp := hide (show IntKind.i64.wrap (pn : Int) = (pn : Int) by simp [IntKind.wrap, IntKind.bits, IntKind.signed]; omega)
      obtain ⟨zr, hzr⟩ : ∃ zr, zr = wr.heap.size := ⟨_, rfl⟩
      replace hzr := hide hzr
      replace him0 := hide him0
      replace hsn := hide hsn
      replace hP := hide hP
      replace hM := hide hM
      replace hU := hide hU
      clear hq2 hcell
      go_wp2_with fail
      refine wp_region_flowS (fun i => bif i == 23 then 22 else i) (fun k => zr ≤ k) (factAt [(fun v _ => v = (.slice (some ⟨g, o, none⟩) qs.length c)), (fun v _ => v = (.int .i64 k)), (fun v _ => v = (.pointer (some ⟨g, o + k * 3, none⟩))), (fun v _ => v = (.pointer (some ⟨g, o + k * 3, none⟩))), (fun v _ => v = (.int .u8 pk)), (fun v _ => v = (.string (keyS pk))), (fun v _ => v = (.int .i64 i)), (fun v _ => v = (.int .i64 k)), (fun v _ => v = (.int .i64 im)), (fun v _ => v = (.slice (some ⟨g, o, none⟩) qs.length c)), (fun v _ => v = (.int .i64 k)), (fun v _ => v = (.pointer (some ⟨g, o + k * 3, none⟩))), (fun v _ => v = (.pointer (some ⟨g, o + k * 3 + 1, none⟩))), (fun v _ => v = (.int .u8 pn)), (fun v _ => v = (.int .i64 pn)), (fun v _ => v = (.string (valS im pn))), (fun v _ => v = (.slice (some ⟨g, o, none⟩) qs.length c)), (fun v _ => v = (.int .i64 k)), (fun v _ => v = (.pointer (some ⟨g, o + k * 3, none⟩))), (fun v _ => v = (.pointer (some ⟨g, o + k * 3 + 2, none⟩))), (fun v _ => v = (.bool pg)), (fun v _ => v = (.agg #[.string (keyS pk), .string (valS im pn), .bool pg])), (fun v w => PtrF v), (fun _ _ => True)]) [none, none, none, none, none, none, none, none, none, none, none, none, none, none, none, none, none, none, none, none, none, none, some (fun v w => PBoxF zr ⟨⟨#[]⟩, ⟨#[]⟩, false⟩ v w), some (fun v w => PBoxF zr ⟨keyS pk, valS im pn, pg⟩ v w)] (fun _ => True) (by kernel_rfl) (fkept_at ⟨FKept.eq _, FKept.eq _, FKept.eq _, FKept.eq _, FKept.eq _, FKept.eq _, FKept.eq _, FKept.eq _, FKept.eq _, FKept.eq _, FKept.eq _, FKept.eq _, FKept.eq _, FKept.eq _, FKept.eq _, FKept.eq _, FKept.eq _, FKept.eq _, FKept.eq _, FKept.eq _, FKept.eq _, FKept.eq _, PtrF.kept, FKept.triv, trivial⟩) (fun _ _ h _ => h) ⟨PBoxF.kept, PBoxF.kept, trivial⟩ (by kernel_rfl) (by kernel_rfl) (by kernel_rfl) (by kernel_rfl) (Nat.le_of_ble_eq_true (by kernel_rfl)) (by kernel_rfl) ?_ ⟨?_, ?_, ?_, ?_, ?_, ?_, ?_, ?_, ?_, ?_, ?_, ?_, ?_, ?_, ?_, ?_, ?_, ?_, ?_, ?_, ?_, ?_, ?_, ?_, trivial⟩ ?_
      · first | exact trivial | assumption
      · intro T w Q hu hs hv hw hd
        have hx1 : T.getD 1 undef = (.slice (some ⟨g, o, none⟩) qs.length c) := hv 1 (by kernel_rfl)
        refine .inl ⟨wanted_none rfl, ?_⟩
        clear hd hv hu hs hw
        go_simp
        exact ⟨_, rfl, DstOk.some rfl, Below.refl _ _, rfl⟩
      · intro T w Q hu hs hv hw hd
        have hx8 : T.getD 8 undef = (.int .i64 k) := hv 8 (by kernel_rfl)
        refine .inl ⟨wanted_none rfl, ?_⟩
        clear hd hv hu hs hw
        go_simp
        exact ⟨_, rfl, DstOk.some rfl, Below.refl _ _, rfl⟩
      · intro T w Q hu hs hv hw hd
        have hx16 : T.getD 16 undef = (.slice (some ⟨g, o, none⟩) qs.length c) := Deps.at 0 hd (by kernel_rfl)
        have hx17 : T.getD 17 undef = (.int .i64 k) := Deps.at 1 hd (by kernel_rfl)
        refine .inl ⟨wanted_none rfl, ?_⟩
        have a0 := hkl.out
        have a1 := hk00.out
        clear hd hv hu hs hw
        go_simp
        exact ⟨_, rfl, DstOk.some rfl, Below.refl _ _, rfl⟩
      · intro T w Q hu hs hv hw hd
        have hx18 : T.getD 18 undef = (.pointer (some ⟨g, o + k * 3, none⟩)) := Deps.at 2 hd (by kernel_rfl)
        refine .inl ⟨wanted_none rfl, ?_⟩
        clear hd hv hu hs hw
        go_simp
        exact ⟨_, rfl, DstOk.some rfl, Below.refl _ _, rfl⟩
      · intro T w Q hu hs hv hw hd
        have hx19 : T.getD 19 undef = (.pointer (some ⟨g, o + k * 3, none⟩)) := Deps.at 3 hd (by kernel_rfl)
        refine .inl ⟨wanted_none rfl, ?_⟩
        have hq := hu.cell c0 (by have := hzr.out; omega)
        clear hd hv hu hs hw
        go_simp
        exact ⟨_, rfl, DstOk.some rfl, Below.refl _ _, rfl⟩
      · intro T w Q hu hs hv hw hd
        have hx20 : T.getD 20 undef = (.int .u8 pk) := Deps.at 4 hd (by kernel_rfl)
        refine .inl ⟨wanted_none rfl, ?_⟩
        have hN := key_any w pk hpk
        clear hd hv hu hs hw
        go_simp
        refine hN.mono ?_
        rintro e w5 ⟨rfl, hb⟩
        exact ⟨_, rfl, DstOk.some rfl, hb, rfl⟩
      · intro T w Q hu hs hv hw hd
        have hx0 : T.getD 0 undef = (.int .i64 i) := hv 0 (by kernel_rfl)
        refine .inl ⟨wanted_none rfl, ?_⟩
        clear hd hv hu hs hw
        go_simp
        exact ⟨_, rfl, DstOk.some rfl, Below.refl _ _, rfl⟩
      · intro T w Q hu hs hv hw hd
        have hx8 : T.getD 8 undef = (.int .i64 k) := hv 8 (by kernel_rfl)
        refine .inl ⟨wanted_none rfl, ?_⟩
        clear hd hv hu hs hw
        go_simp
        exact ⟨_, rfl, DstOk.some rfl, Below.refl _ _, rfl⟩
      · intro T w Q hu hs hv hw hd
        have hx22 : T.getD 22 undef = (.int .i64 i) := Deps.at 6 hd (by kernel_rfl)
        have hx23 : T.getD 23 undef = (.int .i64 k) := Deps.at 7 hd (by kernel_rfl)
        refine .inl ⟨wanted_none rfl, ?_⟩
        clear hd hv hu hs hw
        go_simp
        exact ⟨_, rfl, DstOk.some rfl, Below.refl _ _, congrArg (Value.int .i64) hws.out⟩
      · intro T w Q hu hs hv hw hd
        have hx1 : T.getD 1 undef = (.slice (some ⟨g, o, none⟩) qs.length c) := hv 1 (by kernel_rfl)
        refine .inl ⟨wanted_none rfl, ?_⟩
        clear hd hv hu hs hw
        go_simp
        exact ⟨_, rfl, DstOk.some rfl, Below.refl _ _, rfl⟩
      · intro T w Q hu hs hv hw hd
        have hx8 : T.getD 8 undef = (.int .i64 k) := hv 8 (by kernel_rfl)
        refine .inl ⟨wanted_none rfl, ?_⟩
        clear hd hv hu hs hw
        go_simp
        exact ⟨_, rfl, DstOk.some rfl, Below.refl _ _, rfl⟩
      · intro T w Q hu hs hv hw hd
        have hx25 : T.getD 25 undef = (.slice (some ⟨g, o, none⟩) qs.length c) := Deps.at 9 hd (by kernel_rfl)
        have hx26 : T.getD 26 undef = (.int .i64 k) := Deps.at 10 hd (by kernel_rfl)
        refine .inl ⟨wanted_none rfl, ?_⟩
        have a0 := hkl.out
        have a1 := hk00.out
        clear hd hv hu hs hw
        go_simp
        exact ⟨_, rfl, DstOk.some rfl, Below.refl _ _, rfl⟩
      · intro T w Q hu hs hv hw hd
        have hx27 : T.getD 27 undef = (.pointer (some ⟨g, o + k * 3, none⟩)) := Deps.at 11 hd (by kernel_rfl)
        refine .inl ⟨wanted_none rfl, ?_⟩
        clear hd hv hu hs hw
        go_simp
        exact ⟨_, rfl, DstOk.some rfl, Below.refl _ _, rfl⟩
      · intro T w Q hu hs hv hw hd
        have hx28 : T.getD 28 undef = (.pointer (some ⟨g, o + k * 3 + 1, none⟩)) := Deps.at 12 hd (by kernel_rfl)
        refine .inl ⟨wanted_none rfl, ?_⟩
        have hq := hu.cell c1 (by have := hzr.out; omega)
        clear hd hv hu hs hw
        go_simp
        exact ⟨_, rfl, DstOk.some rfl, Below.refl _ _, rfl⟩
      · intro T w Q hu hs hv hw hd
        have hx29 : T.getD 29 undef = (.int .u8 pn) := Deps.at 13 hd (by kernel_rfl)
        refine .inl ⟨wanted_none rfl, ?_⟩
        clear hd hv hu hs hw
        go_simp
        exact ⟨_, rfl, DstOk.some rfl, Below.refl _ _, congrArg (Value.int .i64) hwp.out⟩
      · intro T w Q hu hs hv hw hd
        have hx24 : T.getD 24 undef = (.int .i64 im) := Deps.at 8 hd (by kernel_rfl)
        have hx30 : T.getD 30 undef = (.int .i64 pn) := Deps.at 14 hd (by kernel_rfl)
        refine .inl ⟨wanted_none rfl, ?_⟩
        have hN := value_any w im pn him hpn
        clear hd hv hu hs hw
        go_simp
        refine hN.mono ?_
        rintro e w5 ⟨rfl, hb⟩
        exact ⟨_, rfl, DstOk.some rfl, hb, rfl⟩
      · intro T w Q hu hs hv hw hd
        have hx1 : T.getD 1 undef = (.slice (some ⟨g, o, none⟩) qs.length c) := hv 1 (by kernel_rfl)
        refine .inl ⟨wanted_none rfl, ?_⟩
        clear hd hv hu hs hw
        go_simp
        exact ⟨_, rfl, DstOk.some rfl, Below.refl _ _, rfl⟩
      · intro T w Q hu hs hv hw hd
        have hx8 : T.getD 8 undef = (.int .i64 k) := hv 8 (by kernel_rfl)
        refine .inl ⟨wanted_none rfl, ?_⟩
        clear hd hv hu hs hw
        go_simp
        exact ⟨_, rfl, DstOk.some rfl, Below.refl _ _, rfl⟩
      · intro T w Q hu hs hv hw hd
        have hx32 : T.getD 32 undef = (.slice (some ⟨g, o, none⟩) qs.length c) := Deps.at 16 hd (by kernel_rfl)
        have hx33 : T.getD 33 undef = (.int .i64 k) := Deps.at 17 hd (by kernel_rfl)
        refine .inl ⟨wanted_none rfl, ?_⟩
        have a0 := hkl.out
        have a1 := hk00.out
        clear hd hv hu hs hw
        go_simp
        exact ⟨_, rfl, DstOk.some rfl, Below.refl _ _, rfl⟩
      · intro T w Q hu hs hv hw hd
        have hx34 : T.getD 34 undef = (.pointer (some ⟨g, o + k * 3, none⟩)) := Deps.at 18 hd (by kernel_rfl)
        refine .inl ⟨wanted_none rfl, ?_⟩
        clear hd hv hu hs hw
        go_simp
        exact ⟨_, rfl, DstOk.some rfl, Below.refl _ _, rfl⟩
      · intro T w Q hu hs hv hw hd
        have hx35 : T.getD 35 undef = (.pointer (some ⟨g, o + k * 3 + 2, none⟩)) := Deps.at 19 hd (by kernel_rfl)
        refine .inl ⟨wanted_none rfl, ?_⟩
        have hq := hu.cell c2' (by have := hzr.out; omega)
        clear hd hv hu hs hw
        go_simp
        exact ⟨_, rfl, DstOk.some rfl, Below.refl _ _, rfl⟩
      · intro T w Q hu hs hv hw hd
        have hx21 : T.getD 21 undef = (.string (keyS pk)) := Deps.at 5 hd (by kernel_rfl)
        have hy21 := hx21
        rw [Array.getD_eq_getD_getElem?] at hy21
        have hx31 : T.getD 31 undef = (.string (valS im pn)) := Deps.at 15 hd (by kernel_rfl)
        have hy31 := hx31
        rw [Array.getD_eq_getD_getElem?] at hy31
        have hx36 : T.getD 36 undef = (.bool pg) := Deps.at 20 hd (by kernel_rfl)
        have hy36 := hx36
        rw [Array.getD_eq_getD_getElem?] at hy36
        refine .inl ⟨wanted_none rfl, ?_⟩
        clear hd hv hu hs hw
        go_simp
        exact ⟨_, rfl, DstOk.some rfl, Below.refl _ _, rfl⟩
      · intro T w Q hu hs hv hw hd hc0
        have hc : (fun _ => True) w := hc0
        replace hc := hide hc
        refine .inl ⟨wanted_none rfl, ?_⟩
        have hz := hu.size
        have hzz := hzr.out
        have hnw := heap_new w (.cells #[.string ⟨#[]⟩, .string ⟨#[]⟩, .bool false] 66)
        replace hnw := hide hnw
        clear hd hv hu hs hw hc hc0
        go_simp
        exact ⟨_, rfl, DstOk.some rfl, .alloc _ _ _, ⟨_, rfl⟩, ⟨_, rfl, by omega, hnw.out⟩⟩
      · intro T w Q hu hs hv hw hd hc0
        have hc : (fun (v : Value) (w : World) => PBoxF zr ⟨⟨#[]⟩, ⟨#[]⟩, false⟩ v w) (T.getD 9 undef) w := hc0
        have f9 : (fun (v : Value) (w : World) => PtrF v) (T.getD 9 undef) w := Deps.at 22 hd (by kernel_rfl)
        generalize hx9 : T.getD 9 undef = x9 at f9 hc
        replace f9 := hide f9
        have hx37 : T.getD 37 undef = (.agg #[.string (keyS pk), .string (valS im pn), .bool pg]) := Deps.at 21 hd (by kernel_rfl)
        replace hc := hide hc
        refine .inl ⟨wanted_none rfl, ?_⟩
        obtain ⟨b, rfl, hb2, hb3⟩ := hc.out
        have hst := PBoxF.store hb3 (keyS pk) (valS im pn) pg
        replace hst := hide hst
        replace hb2 := hide hb2
        have hI0 := cell_at hb3 0
        have hI1 := cell_at hb3 1
        have hI2 := cell_at hb3 2
        have hF0 := frozen_at hb3 0
        have hF1 := frozen_at hb3 1
        have hF2 := frozen_at hb3 2
        have hx9b := hide hx9
        clear hd hv hu hs hw hc hc0 hb3
        go_simp
        exact ⟨undef, fun _ => rfl, ((Upd.set w (F := fun k => zr ≤ k) (a := ⟨b, 0, none⟩) hb2.out _).then (Upd.set _ (F := fun k => zr ≤ k) (a := ⟨b, 1, none⟩) hb2.out _)).then (Upd.set _ (F := fun k => zr ≤ k) (a := ⟨b, 2, none⟩) hb2.out _), trivial, ⟨b, hx9b.out, hb2.out, hst.out⟩⟩
      intro T w hu hs hv hf hcur
      have hcur1 : (fun (v : Value) (w : World) => PBoxF zr ⟨keyS pk, valS im pn, pg⟩ v w) (T.getD 9 undef) w := hcur
      replace hcur1 := hcur1
      have hT : T = #[T.getD 0 undef, T.getD 1 undef, T.getD 2 undef, T.getD 3 undef, T.getD 4 undef, T.getD 5 undef, T.getD 6 undef, T.getD 7 undef, T.getD 8 undef, T.getD 9 undef, T.getD 10 undef, T.getD 11 undef, T.getD 12 undef, T.getD 13 undef, T.getD 14 undef, T.getD 15 undef, T.getD 16 undef, T.getD 17 undef, T.getD 18 undef, T.getD 19 undef, T.getD 20 undef, T.getD 21 undef, T.getD 22 undef, T.getD 23 undef, T.getD 24 undef, T.getD 25 undef, T.getD 26 undef, T.getD 27 undef, T.getD 28 undef, T.getD 29 undef, T.getD 30 undef, T.getD 31 undef, T.getD 32 undef, T.getD 33 undef, T.getD 34 undef, T.getD 35 undef, T.getD 36 undef, T.getD 37 undef, T.getD 38 undef, T.getD 39 undef, T.getD 40 undef, T.getD 41 undef, T.getD 42 undef, T.getD 43 undef, T.getD 44 undef, T.getD 45 undef, T.getD 46 undef, T.getD 47 undef, T.getD 48 undef, T.getD 49 undef, T.getD 50 undef, T.getD 51 undef, T.getD 52 undef] := expl hs
      rw [hT]
      clear hT
      rw [show T.getD 0 undef = (.int .i64 i) from hv 0 (by kernel_rfl)]
      rw [show T.getD 1 undef = (.slice (some ⟨g, o, none⟩) qs.length c) from hv 1 (by kernel_rfl)]
      rw [show T.getD 2 undef = (.map (some mp)) from hv 2 (by kernel_rfl)]
      rw [hv 3 (by kernel_rfl)]
      rw [hv 4 (by kernel_rfl)]
      rw [hv 5 (by kernel_rfl)]
      rw [hv 6 (by kernel_rfl)]
      rw [show T.getD 7 undef = (.slice A2 n2 c2) from hv 7 (by kernel_rfl)]
      rw [show T.getD 8 undef = (.int .i64 k) from hv 8 (by kernel_rfl)]
      rw [hv 10 (by kernel_rfl)]
      rw [hv 11 (by kernel_rfl)]
      rw [hv 12 (by kernel_rfl)]
      rw [hv 13 (by kernel_rfl)]
      rw [hv 14 (by kernel_rfl)]
      rw [hv 15 (by kernel_rfl)]
      rw [show T.getD 16 undef = (.slice (some ⟨g, o, none⟩) qs.length c) from hf 0 (by decide)]
      rw [show T.getD 17 undef = (.int .i64 k) from hf 1 (by decide)]
      rw [show T.getD 18 undef = (.pointer (some ⟨g, o + k * 3, none⟩)) from hf 2 (by decide)]
      rw [show T.getD 19 undef = (.pointer (some ⟨g, o + k * 3, none⟩)) from hf 3 (by decide)]
      rw [show T.getD 20 undef = (.int .u8 pk) from hf 4 (by decide)]
      rw [show T.getD 21 undef = (.string (keyS pk)) from hf 5 (by decide)]
      rw [show T.getD 22 undef = (.int .i64 i) from hf 6 (by decide)]
      rw [show T.getD 23 undef = (.int .i64 k) from hf 7 (by decide)]
      rw [show T.getD 24 undef = (.int .i64 im) from hf 8 (by decide)]
      rw [show T.getD 25 undef = (.slice (some ⟨g, o, none⟩) qs.length c) from hf 9 (by decide)]
      rw [show T.getD 26 undef = (.int .i64 k) from hf 10 (by decide)]
      rw [show T.getD 27 undef = (.pointer (some ⟨g, o + k * 3, none⟩)) from hf 11 (by decide)]
      rw [show T.getD 28 undef = (.pointer (some ⟨g, o + k * 3 + 1, none⟩)) from hf 12 (by decide)]
      rw [show T.getD 29 undef = (.int .u8 pn) from hf 13 (by decide)]
      rw [show T.getD 30 undef = (.int .i64 pn) from hf 14 (by decide)]
      rw [show T.getD 31 undef = (.string (valS im pn)) from hf 15 (by decide)]
      rw [show T.getD 32 undef = (.slice (some ⟨g, o, none⟩) qs.length c) from hf 16 (by decide)]
      rw [show T.getD 33 undef = (.int .i64 k) from hf 17 (by decide)]
      rw [show T.getD 34 undef = (.pointer (some ⟨g, o + k * 3, none⟩)) from hf 18 (by decide)]
      rw [show T.getD 35 undef = (.pointer (some ⟨g, o + k * 3 + 2, none⟩)) from hf 19 (by decide)]
      rw [show T.getD 36 undef = (.bool pg) from hf 20 (by decide)]
      rw [show T.getD 37 undef = (.agg #[.string (keyS pk), .string (valS im pn), .bool pg]) from hf 21 (by decide)]
      rw [hv 38 (by kernel_rfl)]
      rw [hv 39 (by kernel_rfl)]
      rw [hv 40 (by kernel_rfl)]
      rw [hv 41 (by kernel_rfl)]
      rw [hv 42 (by kernel_rfl)]
      rw [hv 43 (by kernel_rfl)]
      rw [hv 44 (by kernel_rfl)]
      rw [hv 45 (by kernel_rfl)]
      rw [hv 46 (by kernel_rfl)]
      rw [hv 47 (by kernel_rfl)]
      rw [hv 48 (by kernel_rfl)]
      rw [hv 49 (by kernel_rfl)]
      rw [hv 50 (by kernel_rfl)]
      rw [hv 51 (by kernel_rfl)]
      rw [hv 52 (by kernel_rfl)]
      clear hf hs hv hcur
      simp only [getD_toArray, List.getD_cons_succ, List.getD_cons_zero]
      generalize T.getD 9 undef = y9 at hcur1 ⊢
      clear T
      obtain ⟨b, rfl, hb1, hb2⟩ := hcur1
      have zu := hu.size
      have hzq := hzr.out
      have hPb := hP.out
      have hP5 : PrO w W.heap.size (.slice A2 n2 c2) (pairsL i (qs.take k)) := Upd.own hu hP.out fun q hq h => by have := (World.ownsRow.lt hP.out q hq).2; omega
      have hM5 := hM.out.upd hu (by have := hM.out.lt; omega)
      have hU5 : Upd (fun k => k = mp) W w := hU.out.trans hu fun q hq h => by omega
      have hbl := (Array.getElem?_eq_some_iff.1 hb2).1
      have d0 := cell_at hb2 0
      have d1 := cell_at hb2 1
      have d2 := cell_at hb2 2
      simp at d0 d1 d2
      replace hP5 := hide hP5
      replace hM5 := hide hM5
      replace hU5 := hide hU5
      have hPa : ∀ ob, PrO (w.alloc ob) W.heap.size (.slice A2 n2 c2) (pairsL i (qs.take k)) := fun ob => Upd.own (Upd.alloc (fun _ => False) w ob) hP5.out fun _ _ => id
      have hlen : (pairsL i (qs.take k)).length = k := by rw [pairsL_len, List.length_take, Nat.min_eq_left hk]
      have hpl : (pairsL i (qs.take k)).length ≤ 1000000 := by omega
      replace hPa := hide hPa
      replace hlen := hide hlen
      replace hb2 := hide hb2
      clear hu hP hM hU c0 c1 c2'
      have hbw : W.heap.size ≤ w.heap.size := by omega
      obtain ⟨D, m1, m2⟩ := hM5.out
      have hbn : ¬ Own (.slice A2 n2 c2) b := fun hO => by have := (World.ownsRow.lt hPb b hO).2; omega
      have hmn : ¬ Own (.slice A2 n2 c2) mp := fun hO => by have := (World.ownsRow.lt hP5.out mp hO).1; omega
      have hno : ∀ q, q < W.heap.size → ¬ Own (.slice A2 n2 c2) q := fun q hq hO => by have := (World.ownsRow.lt hP5.out q hO).1; omega
      have hky := key_str (s := keyS pk) (by have := keyS_small pk; omega)
      replace hbn := hide hbn
      replace hmn := hide hmn
      replace hno := hide hno
      replace m1 := hide m1
      replace m2 := hide m2
      replace hky := hide hky
      cases pg with
      | true =>
        go_wp2_with (first
          | (at_builtin; refine wp_pair rfl (.tmp 38) (.tmp 40) rfl W.heap.size (.slice A2 n2 c2) _ rfl (hPa.out _) w.heap.size rfl ⟨keyS pk, valS im pn, true⟩ (by rw [cell_at (heap_new _ _)]; rfl) (by rw [cell_at (heap_new _ _)]; rfl) (by rw [cell_at (heap_new _ _)]; rfl) hpl (by rw [World.size_alloc]; omega) ?_; intro v6 w6 hP6 hg6; have hup := ((Upd.alloc (fun _ => False) w _).mono (G := fun q => Own (.slice A2 n2 c2) q) fun _ _ h => h.elim).trans (Upd.grown hg6 fun q hq => hq) fun _ _ h => h; have e0 := hup.cell d0 hbn.out; have e1 := hup.cell d1 hbn.out; have e2 := hup.cell d2 hbn.out; have m6 := ownsS_upd m1.out hup hmn.out; replace hP6 := hide hP6; replace hup := hide hup; clear hg6)
          | (at_delete; refine wpList_delete_own _ rfl _ _ 31 9 rfl 9 str_key Tryz.underlying31 heldS mp (n + k) D rfl m6 _ _ rfl hky.out ?_; intro w8 hown8 hturn8)
          | go_in)
        have hU8 : Upd (fun k => k = mp) W w8 := (hU5.out.trans hup.out fun q hq hO => absurd hO (hno.out q hq)).trans (Upd.turned (F := fun k => k = mp) hturn8 rfl) fun _ _ h => h
        have hP8 : PrO w8 W.heap.size v6 (pairsL i (qs.take (k + 1))) := by
          rw [hsn.out]
          exact Upd.own (Upd.turned (F := fun k => k = mp) hturn8 rfl) hP6.out fun q hq e => by have := (World.ownsRow.lt hP6.out q hq).1; omega
        have hM8 : MsV w8 mp (n + (k + 1)) (M.chs (pairsL i (qs.take (k + 1)))) := by
          rw [hsn.out, Tbl.chs_snoc]
          exact MsV.more (n := n + k) ⟨_, hown8, m2.out.del (keyS pk).data.toList⟩ (by omega)
        replace hU8 := hide hU8
        replace hP8 := hide hP8
        replace hM8 := hide hM8
        clear hown8 hturn8
        first | (go_wp2_with fail; go_roundw) | go_roundw | skip
        case rel => exact ⟨k + 1, hlt, by go_num, hP8.out, hM8.out, hU8.out⟩
        case measure => simp [intOf]; omega
      | false =>
        go_wp2_with (first
          | (at_builtin; refine wp_pair rfl (.tmp 38) (.tmp 40) rfl W.heap.size (.slice A2 n2 c2) _ rfl (hPa.out _) w.heap.size rfl ⟨keyS pk, valS im pn, false⟩ (by rw [cell_at (heap_new _ _)]; rfl) (by rw [cell_at (heap_new _ _)]; rfl) (by rw [cell_at (heap_new _ _)]; rfl) hpl (by rw [World.size_alloc]; omega) ?_; intro v6 w6 hP6 hg6; have hup := ((Upd.alloc (fun _ => False) w _).mono (G := fun q => Own (.slice A2 n2 c2) q) fun _ _ h => h.elim).trans (Upd.grown hg6 fun q hq => hq) fun _ _ h => h; have e0 := hup.cell d0 hbn.out; have e1 := hup.cell d1 hbn.out; have e2 := hup.cell d2 hbn.out; have m6 := ownsS_upd m1.out hup hmn.out; replace hP6 := hide hP6; replace hup := hide hup; clear hg6)
          | (at_mapUpdate; refine wpList_mapUpdate_in _ rfl _ _ _ 31 rfl 9 9 str_key Tryz.underlying31 heldS mp (n + k) D rfl m6 (by unfold maxLen; omega) _ _ _ rfl rfl hky.out _ [] rfl ?_; intro w8 hown8 hturn8)
          | go_in)
        have hU8 : Upd (fun k => k = mp) W w8 := (hU5.out.trans hup.out fun q hq hO => absurd hO (hno.out q hq)).trans (Upd.turned (F := fun k => k = mp) hturn8 rfl) fun _ _ h => h
        have hP8 : PrO w8 W.heap.size v6 (pairsL i (qs.take (k + 1))) := by
          rw [hsn.out]
          exact Upd.own (Upd.turned (F := fun k => k = mp) hturn8 rfl) hP6.out fun q hq e => by have := (World.ownsRow.lt hP6.out q hq).1; omega
        have hM8 : MsV w8 mp (n + (k + 1)) (M.chs (pairsL i (qs.take (k + 1)))) := by
          rw [hsn.out, Tbl.chs_snoc]
          exact MsV.more (n := n + k + 1) ⟨_, hown8, m2.out.put (m1.out.tidy str_key) (keyS pk).data.toList (valS im pn)⟩ (by omega)
        replace hU8 := hide hU8
        replace hP8 := hide hP8
        replace hM8 := hide hM8
        clear hown8 hturn8
        first | (go_wp2_with fail; go_roundw) | go_roundw | skip
        case rel => exact ⟨k + 1, hlt, by go_num, hP8.out, hM8.out, hU8.out⟩
        case measure => simp [intOf]; omega
    · obtain rfl : k = qs.length := by omega
      rw [List.take_length] at hP hM
      replace hP := hide hP
      replace hM := hide hM
      replace hU := hide hU
      go_wp2_with fail
      go_ret
      exact ⟨_, rfl, hP.out, hM.out, hU.out⟩
end Go.Proofs.YtpnboihbifhigaaGreatDoor
/- StoreBatch. -/
namespace Go.Proofs.YtpnboihbifhigaaGreatDoor
open Go Go.RowKit
theorem PrO.prs {w : World} {B : Nat} {v : Value} {ps : List PairD} (h : PrO w B v ps) : PrsV w (fun k => B ≤ k ∧ k < w.heap.size) v ps := by
  rcases h.2 with ⟨rfl, h0⟩ | ⟨g, cap, cur, rfl, hb, hg, h1, h2, h3, h4⟩
  · have : ps = [] := List.eq_nil_of_length_eq_zero h0
    subst this
    exact ⟨none, 0, rfl, Nat.le_refl _, Nat.zero_le _, .inl rfl⟩
  · refine ⟨some ⟨g, 0, none⟩, cap, rfl, h1, h2, .inr ⟨g, 0, rfl, ⟨hb, (Array.getElem?_eq_some_iff.1 hg).1⟩, fun i u hi => ?_⟩⟩
    rw [Nat.zero_add, cell_at hg, ← Array.getElem?_toList]
    rw [← h4] at hi
    have hlt : i < ps.length * 3 := by
      have := (List.getElem?_eq_some_iff.1 hi).1
      rw [List.length_take] at this
      omega
    rwa [List.getElem?_take_of_lt hlt] at hi
theorem keyS_mem (k : Nat) : keyS k ∈ keyTab := by
  unfold keyS
  have h : k % 7 < keyTab.length := Nat.mod_lt _ (by decide)
  rw [List.getD_eq_getElem?_getD, List.getElem?_eq_getElem h]
  exact List.getElem_mem h
theorem pairsL_each : ∀ (i : Nat) (qs : List QD), (∀ q ∈ qs, q.ok) → ∀ p ∈ pairsL i qs, p.key ∈ keyTab ∧ p.key.size + p.val.size ≤ 258
  | _, [], _, p, hp => by cases hp
  | i, q :: qs, h, p, hp => by
    simp only [pairsL, List.mem_cons] at hp
    rcases hp with rfl | hp
    · refine ⟨keyS_mem _, ?_⟩
      have h1 := keyS_small q.kk
      have h2 := valS_size i q.nn
      have h3 := (h q (.head _)).2
      show (keyS q.kk).size + (valS i q.nn).size ≤ 258
      omega
    · exact pairsL_each (i + 1) qs (fun q hq => h q (.tail _ hq)) p hp
theorem pairsL_fits {i : Nat} {qs : List QD} (h : ∀ q ∈ qs, q.ok) : ∀ p ∈ pairsL i qs, p.fits := fun p hp => fits_of (by have := (pairsL_each i qs h p hp).2; omega)
theorem pairsL_frames {i : Nat} {qs : List QD} (h : ∀ q ∈ qs, q.ok) : (frames ((pairsL i qs).map recB)).length ≤ qs.length * 306 := by
  have := frames_small (c := 258) (ps := pairsL i qs) fun p hp => ⟨(pairsL_fits h p hp).1, (pairsL_each i qs h p hp).2⟩
  rwa [pairsL_len] at this
theorem chs_keys {ps : List PairD} (h : ∀ p ∈ ps, p.key ∈ keyTab) : ∀ x v, T0.chs ps x = some v → ∃ s ∈ keyTab, s.data.toList = x := by
  intro x v hx
  rcases chs_mem ps T0 x v hx with h1 | ⟨p, hp, rfl, rfl⟩
  · cases h1
  · exact ⟨p.key, h p hp, rfl⟩
set_option maxRecDepth 100000 in
set_option maxHeartbeats 2000000 in
theorem batch5_any {W : World} {S : Nat → Prop} {v : Value} {qs : List QD} (hq : SegV W S v qs.length (qs.map qCells).flatten) (hS : ∀ k, S k → k < W.heap.size) (hok : ∀ q ∈ qs, q.ok) (hT : Tab W) (hz : 2 ≤ W.heap.size) :
    Calls Tryz.prog 5 #[v] W fun e w' => e = .returned (.bool true) ∧ Below W.heap.size W w' := by
  have hB : 1 + 1 ≤ W.heap.size := hT.pos
  have hK := known_any hT hz
  obtain ⟨A, c, rfl, hc1, hc2, -⟩ := id hq
  have hc3 : c ≤ 9223372036854775807 := by unfold maxLen at hc2; exact hc2
  have hmm := @run_makeMap Tryz.prog
  replace hK := hide hK
  replace hT := hide hT
  replace hq := hide hq
  replace hS := hide hS
  replace hok := hide hok
  clear hc2
  go_enter Tryz.func5, Tryz.ntmps5
  go_wp2_with fail
  refine hK.out.mono ?_
  rintro e w1 ⟨rfl, hb1⟩
  have hu1 := Upd.of_below (fun _ => False) hb1
  have hT1 := hT.out.upd hu1 id
  have hq1 := hq.out.upd hu1 fun _ _ => id
  have z1 := hb1.size
  replace hT1 := hide hT1
  replace hq1 := hide hq1
  replace hb1 := hide hb1
  clear hK hu1
  by_cases hl : qs.length ≤ 20
  case neg =>
    go_wp2_with fail
    go_ret
    exact ⟨rfl, hb1.out⟩
  have hN := new_dkz w1 400 512 (by omega) (by omega) (.inr rfl)
  replace hN := hide hN
  go_wp2_with fail
  refine hN.out.mono ?_
  rintro e w2 ⟨sb, S2, rfl, hD2, hb2⟩
  have hu2 := Upd.of_below (fun _ => False) hb2
  have hT2 := hT1.out.upd hu2 id
  have hq2 := hq1.out.upd hu2 fun _ _ => id
  have z2 := hb2.size
  have hO := openS_any (ps := []) hD2 (fun p hp => by cases hp) (Nat.zero_le _) (by omega) z2 hT2
  have hge2 : ∀ k, S2 k → w1.heap.size ≤ k := fun k hk => hD2.ge hk
  have hb2' := hb1.out.trans (hb2.mono z1)
  replace hO := hide hO
  replace hT2 := hide hT2
  replace hq2 := hide hq2
  replace hge2 := hide hge2
  replace hb2' := hide hb2'
  clear hN hD2 hu2 hT1 hq1 hb1 hb2
  go_wp2_with fail
  refine hO.out.mono ?_
  rintro e w3 ⟨q, lb, mb, S3, rfl, hs3, -, -, -, hM3⟩
  have z3 := hM3.1.size
  have hb3 := hb2'.out.trans (hM3.1.below (by omega) fun k hk => Nat.le_trans z1 (hge2.out k hk))
  have hU4 : Upd (fun _ => False) w3 (w3.alloc (.map #[] 0)) := .alloc _ _ _
  have hm4 : MsV (w3.alloc (.map #[] 0)) w3.heap.size 0 T0 := MsV.made w3
  have z4 : (w3.alloc (.map #[] 0)).heap.size = w3.heap.size + 1 := World.size_alloc _ _
  have hb4 := hb3.trans (hU4.below (by omega) fun _ h => h.elim)
  have hq4 := (hq2.out.upd hM3.1 fun k hk hk2 => by have := hS.out k hk; have := hge2.out k hk2; omega).upd hU4 fun _ _ => id
  have hs4 := hs3.upd hU4 fun _ _ => id
  have hso : ∀ k, SO S3 q lb mb k → k < w3.heap.size := fun k hk => hs3.old hk
  have hT4 := hT.out.upd (Upd.of_below (fun _ => False) hb4) id
  have hP := pairs_any (i := 1) hq4 (fun k hk => ⟨by have := hS.out k hk; omega, by have := hS.out k hk; omega⟩) hok.out (by omega) (by omega) hm4 (by omega)
  replace hP := hide hP
  replace hs4 := hide hs4
  replace hb4 := hide hb4
  replace hT4 := hide hT4
  replace hso := hide hso
  replace z4 := hide z4
  clear hO hM3 hge2 hb2' hT2 hq2 hq4 hm4 hU4 hb3 hs3
  go_wp2_with fail
  refine hP.out.mono ?_
  rintro e w5 ⟨v5, rfl, hP5, hm5, hU5⟩
  rw [Nat.zero_add] at hm5
  have z5 := hU5.size
  have hz4 := z4.out
  have hs5 := hs4.out.upd hU5 fun k hk e => by have := hso.out k hk; omega
  have hb5 := hb4.out.trans (hU5.below (by have := hb4.out.size; omega) fun k hk => by omega)
  have hT5 := hT.out.upd (Upd.of_below (fun _ => False) hb5) id
  have hfit := pairsL_fits (i := 1) hok.out
  have hA := applyS_any hs5 (by omega) hT5 hP5.prs (fun k hk hk2 => by have := hso.out k hk2; omega) hfit (by rw [pairsL_len]; simp; omega)
    (by
      have h1 := pairsL_frames (i := 1) hok.out
      show 0 + _ ≤ 101376
      omega)
  have hge5 : ∀ k, SO S3 q lb mb k → w1.heap.size ≤ k := fun k hk => hs5.ge hk
  obtain ⟨ps, hps⟩ : ∃ ps, ps = pairsL 1 qs := ⟨_, rfl⟩
  rw [← hps] at hA hm5 hfit
  have hdom : ∀ x v, T0.chs ps x = some v → ∃ s ∈ keyTab, s.data.toList = x := chs_keys fun p hp => (pairsL_each 1 qs hok.out p (hps ▸ hp)).1
  have hbd := chs_bound hfit
  have hpl : ps.length = qs.length := by rw [hps, pairsL_len]
  replace hA := hide hA
  replace hm5 := hide hm5
  replace hb5 := hide hb5
  replace hge5 := hide hge5
  replace hfit := hide hfit
  replace hdom := hide hdom
  replace hbd := hide hbd
  replace hps := hide hps
  replace hpl := hide hpl
  obtain ⟨A5, n5, c5, rfl⟩ : ∃ a n c, v5 = .slice a n c := by
    rcases hP5.2 with ⟨rfl, _⟩ | ⟨g, cap, cur, rfl, _⟩
    · exact ⟨_, _, _, rfl⟩
    · exact ⟨_, _, _, rfl⟩
  clear hP hs4 hb4 hT4 hs5 hT5 hP5 hU5
  go_wp2_with fail
  refine hA.out.mono ?_
  rintro e w6 ⟨rfl, S6, hs6, hM6⟩
  rw [List.nil_append] at hs6
  have z6 := hM6.1.size
  have hb6 := hb5.out.trans (hM6.1.below (by have := hb5.out.size; omega) fun k hk => Nat.le_trans z1 (hge5.out k hk))
  have hmn : ¬ S6 w3.heap.size := fun hk => by
    rcases hM6.2 _ (.inl (.inl hk)) with h | h
    · have := hso.out _ h; omega
    · omega
  replace hmn := hide hmn
  have hm6 := hm5.out.upd hM6.1 fun hk => by have := hso.out _ hk; omega
  have hal := alike_any hs6.st hs6.tb hm6 (by have := hpl.out; omega) hbd.out (fun x v hx => by have := hbd.out x v hx; omega)
  replace hal := hide hal
  replace hs6 := hide hs6
  replace hm6 := hide hm6
  replace hb6 := hide hb6
  clear hA hm5 hb5 hge5 hM6
  go_wp2_with fail
  refine hal.out.mono ?_
  rintro e w7 ⟨b, rfl, hbt, g7⟩
  obtain rfl := hbt (by first | exact trivial | exact rfl) hdom.out
  have hu7 := Upd.of_below (fun _ => False) g7
  have hs7 := hs6.out.upd hu7 fun _ _ => id
  have hm7 := hm6.out.upd hu7 id
  have hb7 := hb6.out.trans (g7.mono hb6.out.size)
  have hT7 := hT.out.upd (Upd.of_below (fun _ => False) hb7) id
  have z7 := g7.size
  have hO2 := openS_any hs7.lg.dk hfit.out (by have := hpl.out; omega) (by omega) (by have := hb6.out.size; omega) hT7
  have hge7 : ∀ k, S6 k → w1.heap.size ≤ k := fun k hk => hs7.ge (.inl (.inl hk))
  replace hO2 := hide hO2
  replace hm7 := hide hm7
  replace hb7 := hide hb7
  replace hge7 := hide hge7
  clear hal hbt g7 hu7 hs7 hT7 hs6 hm6 hb6
  go_wp2_with fail
  refine hO2.out.mono ?_
  rintro e w8 ⟨q8, lb8, mb8, S8, rfl, hs8, -, -, -, hM8⟩
  have hb8 := hb7.out.trans (hM8.1.below (by have := hb7.out.size; omega) fun k hk => Nat.le_trans z1 (hge7.out k hk))
  have hm8 := hm7.out.upd hM8.1 hmn.out
  have hal := alike_any hs8.st hs8.tb hm8 (by have := hpl.out; omega) hbd.out (fun x v hx => by have := hbd.out x v hx; omega)
  replace hal := hide hal
  replace hb8 := hide hb8
  clear hO2 hm7 hb7 hge7 hM8 hm8 hs8
  go_wp2_with fail
  refine hal.out.mono ?_
  rintro e w9 ⟨b, rfl, hbt, g9⟩
  obtain rfl := hbt (by first | exact trivial | exact rfl) hdom.out
  have hb9 := hide (hb8.out.trans (g9.mono hb8.out.size))
  clear hal hbt g9 hb8
  go_wp2_with fail
  go_ret
  exact ⟨rfl, hb9.out⟩
end Go.Proofs.YtpnboihbifhigaaGreatDoor
/- The laws' pairs that came in. -/
namespace Go.Proofs.YtpnboihbifhigaaGreatDoor
open Go Go.RowKit Go.ChangeShapes Go.WideShapes Go.ChangeAt Go.Deep
section
variable {H : Type} {enc : TypeId × Value → H} {w : World} {base : Nat} {spare : Nat → Bool} {held : Bool}
theorem qd_cU : Tryz.prog.cellsOf 5 = 1 := by kernel_rfl
theorem qd_cB : Tryz.prog.cellsOf 4 = 1 := by kernel_rfl
theorem qd_cP : Tryz.prog.cellsOf 88 = 3 := by kernel_rfl
theorem lenThree {α : Type} {l : List α} (h : l.length = 3) : ∃ a b c, l = [a, b, c] := by
  match l, h with
  | [a, b, c], _ => exact ⟨a, b, c, rfl⟩
theorem trod_qd {n : Nat} {cs : List Value} {x : DataW H × List MemPlace} (h : DataW.trod enc Tryz.prog w base spare held n 88 cs = some x) : ∃ q : QD, cs = qCells q ∧ q.ok := by
  obtain ⟨xs, n', rfl, -, hlen, hxl, hf⟩ := DataW.trod_struct Tryz.underlying88 h
  rw [qd_cP] at hlen
  obtain ⟨a, b, c, rfl⟩ := lenThree hlen
  obtain ⟨x0, x1, x2, rfl⟩ := lenThree hxl
  have h0 := hf 0 _ rfl
  have h1 := hf 1 _ rfl
  have h2 := hf 2 _ rfl
  simp only [List.getElem_toArray, List.getElem_cons_zero, List.getElem_cons_succ, qd_cU, qd_cB] at h0 h1 h2
  obtain ⟨b0, e0, -, w0⟩ := DataW.trod_int Tryz.underlying5 h0
  obtain ⟨b1, e1, -, w1⟩ := DataW.trod_int Tryz.underlying5 h1
  obtain ⟨b2, e2, -⟩ := DataW.trod_bool Tryz.underlying4 h2
  have hb0 := bounds_u8 w0
  have hb1 := bounds_u8 w1
  simp at e0 e1 e2
  subst e0 e1 e2
  refine ⟨⟨b0.toNat, b1.toNat, b2⟩, ?_, ⟨by show b0.toNat < 256; omega, by show b1.toNat < 256; omega⟩⟩
  have e3 : ((b0.toNat : Nat) : Int) = b0 := by omega
  have e4 : ((b1.toNat : Nat) : Int) = b1 := by omega
  simp only [qCells, e3, e4]
set_option maxRecDepth 100000 in
/-- A []Pair that came in. -/
theorem open_qdsV {base' : Nat} {v : Value} {d : DataW H} {p : List MemPlace} (hval : Value.okWide Tryz.prog w .any base' 32 v) (h : DataW.Trod enc Tryz.prog w base spare held 32 v d p) : ∃ qs : List QD, SegV w (· < w.heap.size) v qs.length (qs.map qCells).flatten ∧ ∀ q ∈ qs, q.ok := by
  obtain ⟨a0, len, cap, rfl⟩ := okWide_slice Tryz.underlying32 hval
  obtain ⟨fuel, hf⟩ := h
  obtain ⟨v', qs, ev, hv, hq⟩ := open_seg qCells 3 QD.ok Tryz.underlying32 qd_cP (by decide) (fun _ => rfl) trod_qd hf
  have : Value.slice a0 len cap = v' := by simpa [Value.cells] using ev
  subst this
  exact ⟨qs, hv, hq⟩
end
end Go.Proofs.YtpnboihbifhigaaGreatDoor
