/- The walk of SumLong. -/
import Derived.Test.YtdjcipfaiaodcaaDoorTells
import Derived.Test.YtdjcipfaiaodcaaDoorOrder
import Derived.Deep.RegionHeld3
namespace Go.Proofs.YtdjcipfaiaodcaaDoor
open Go.RowKit Sums

theorem rowsOf {w : World} {base : Nat} {e : TypeId} {v : Value} {n : Nat} {xs : List Value} {ls : List (List UInt8)} (h : w.ownsRow base e 1 v n xs) (hl : xs.length = ls.length) (hn : n = ls.length)
    (hv : ∀ (i : Nat) (v : Value) (l : List UInt8), xs[i]? = some v → ls[i]? = some l → BytesV w w.heap.size v l) : RowsV w w.heap.size v ls := by
  subst hn
  obtain ⟨A, c, rfl, h1, h2, h3⟩ := ownsRow_sl h
  exact ⟨A, c, xs, rfl, h1, h2, h3, hl, hv⟩
theorem strsOf {w : World} {base : Nat} {e : TypeId} {v : Value} {n : Nat} {xs : List Value} {ss : List ByteArray} (h : w.ownsRow base e 1 v n xs) (hx : xs = ss.map Value.string) (hn : n = ss.length) (hs : ∀ s ∈ ss, s.size ≤ maxLen) : StrsV w w.heap.size v ss := by
  subst hn hx
  obtain ⟨A, c, rfl, h1, h2, h3⟩ := ownsRow_sl h
  exact ⟨A, c, rfl, h1, h2, h3, hs⟩
/-- Rows of different element types lie in different blocks. -/
theorem own_ne {w : World} {b1 b2 : Nat} {e1 e2 : TypeId} {s1 s2 n1 n2 : Nat} {v1 v2 : Value} {x1 x2 : List Value} (h1 : w.ownsRow b1 e1 s1 v1 n1 x1) (h2 : w.ownsRow b2 e2 s2 v2 n2 x2) (he : e1 ≠ e2) : v1.ownBlock = none ∨ v1.ownBlock ≠ v2.ownBlock := by
  rcases h1.2 with ⟨rfl, _⟩ | ⟨g1, c1, cur1, rfl, _, hg1, _⟩
  · exact .inl rfl
  · right
    rcases h2.2 with ⟨rfl, _⟩ | ⟨g2, c2, cur2, rfl, _, hg2, _⟩
    · simp [Value.ownBlock]
    · intro h
      have : g1 = g2 := by simpa [Value.ownBlock] using h
      subst this
      rw [hg1] at hg2
      injection hg2 with hg2
      injection hg2 with _ hh
      exact he hh
/-- An append to a row of the call's own, as one step of a region that draws its order. -/
theorem step_own {P : Program} {w : World} {ops : Array Oper} {o : Oper} {a : Act} {K : Act → World → Prop} {Q : Exit → Act → World → Prop} {E : Prop} (hgd : o.guard = none) (s x : Operand) (t : TypeId)
    (ho : o.op = .call { callee := .builtin .append, args := #[s, x], argTypes := #[t, t] })
    (base : Nat) (e : TypeId) (i : TypeInfo) (z : Value) (size bytes : Nat) (ht : P.underlying t = some (.slice e)) (hi : P.info? e = some i) (hz : i.zero = some z)
    (hsize : i.size = size) (hby : i.bytes = bytes) (hzs : z.cells.size = size) (hsz : 0 < size)
    (v : Value) (n : Nat) (xs : List Value) (hs : a.eval s = v) (hown : w.ownsRow base e size v n xs)
    (ad : Addr) (m c : Nat) (news : List Value) (hx : a.eval x = .slice (some ad) m c) (hl : news.length = m * size) (hnews : ∀ j u, news[j]? = some u → w.cell? (ad.add j) = some u) (h1 : ∀ u ∈ news, u.oneCell' = true)
    (h63 : n + m ≤ maxLen) (hbytes : (n + m) * bytes ≤ 140737488355328) (hbase : base ≤ w.heap.size)
    (h : ∀ v' w', w'.ownsRow base e size v' (n + m) (xs ++ news) → w.grownBy w' v.ownBlock → (v' = .slice none 0 0 ↔ v = .slice none 0 0 ∧ m = 0) → K (a.put o.dst v') w') :
    if Region.wanted o (yielded ops a.tmps) = true then Oper.wp P o a w K Q else E := by
  rw [if_pos (wanted_none hgd)]
  exact wp_append_own w s x t ho base e i z size bytes ht hi hz hsize hby hzs hsz v n xs hs hown ad m c news hx hl hnews h1 h63 hbytes hbase h
theorem one_cell {w : World} {g : Nat} {V : Value} (h : w.cell? ⟨g, 0, none⟩ = some V) : ∀ j u, [V][j]? = some u → w.cell? ((⟨g, 0, none⟩ : Addr).add j) = some u := by
  intro j u hj
  match j, hj with
  | 0, hj =>
    have : V = u := by simpa using hj
    subst this
    exact h
theorem own_drew {w : World} {base : Nat} {e : TypeId} {size n : Nat} {v : Value} {xs : List Value} (h : w.ownsRow base e size v n xs) : w.drew.ownsRow base e size v n xs := h
theorem grown_trans' {a w w' : World} {B : Nat} {v : Value} {e : TypeId} {n : Nat} {xs : List Value} (h : Below B a w) (hB : B ≤ w.heap.size) (ho : w.ownsRow B e 1 v n xs) (hg : w.grownBy w' v.ownBlock) : Below B a w' :=
  h.grown hg hB fun g hg' => (ho.lt g hg').1
/-- Two rows of the call's own, of [][]byte and of []string, in what has grown above w0. -/
def Two (w0 w : World) (vl vs : Value) (nl ns : Nat) (xl xs : List Value) : Prop :=
  w.ownsRow w0.heap.size 33 1 vl nl xl ∧ w.ownsRow w0.heap.size 9 1 vs ns xs ∧ Below w0.heap.size w0 w
section
variable {w0 w w' : World} {vl vs v' : Value} {nl ns n' : Nat} {xl xs x' : List Value}
theorem Two.alloc (h : Two w0 w vl vs nl ns xl xs) (o : Obj) : Two w0 (w.alloc o) vl vs nl ns xl xs := ⟨h.1.alloc _, h.2.1.alloc _, h.2.2.alloc h.2.2.size _⟩
theorem Two.drew (h : Two w0 w vl vs nl ns xl xs) : Two w0 w.drew vl vs nl ns xl xs := ⟨h.1, h.2.1, h.2.2.drew⟩
theorem Two.stepL (h : Two w0 w vl vs nl ns xl xs) (ho : w'.ownsRow w0.heap.size 33 1 v' n' x') (hg : w.grownBy w' vl.ownBlock) : Two w0 w' v' vs n' ns x' xs :=
  ⟨ho, h.2.1.kept hg (own_ne h.2.1 h.1 (by decide)), grown_trans' h.2.2 h.2.2.size h.1 hg⟩
theorem Two.stepS (h : Two w0 w vl vs nl ns xl xs) (ho : w'.ownsRow w0.heap.size 9 1 v' n' x') (hg : w.grownBy w' vs.ownBlock) : Two w0 w' vl v' nl n' xl x' :=
  ⟨h.1.kept hg (own_ne h.1 h.2.1 (by decide)), ho, grown_trans' h.2.2 h.2.2.size h.2.1 hg⟩
theorem Two.ownL (h : Two w0 w vl vs nl ns xl xs) : w.ownsRow w0.heap.size 33 1 vl nl xl := h.1
theorem Two.ownS (h : Two w0 w vl vs nl ns xl xs) : w.ownsRow w0.heap.size 9 1 vs ns xs := h.2.1
theorem Two.below (h : Two w0 w vl vs nl ns xl xs) : Below w0.heap.size w0 w := h.2.2
theorem Two.size (h : Two w0 w vl vs nl ns xl xs) : w0.heap.size ≤ w.heap.size := h.2.2.size
end
theorem heap_top (w : World) (o : Obj) (g : Nat) (hg : g = w.heap.size) : (w.alloc o).heap[g]? = some o := by subst hg; exact heap_alloc_new w o
theorem heap_next (w : World) (o o' : Obj) (g : Nat) (hg : g = w.heap.size) : ((w.alloc o).alloc o').heap[g]? = some o := by
  rw [Below.heap_alloc _ _ _ (by subst hg; simp)]; exact heap_top w o g hg
theorem heap_top_d (w : World) (o : Obj) (g : Nat) (hg : g = w.heap.size) : (w.alloc o).drew.heap[g]? = some o := heap_top w o g hg
theorem heap_next_d (w : World) (o o' : Obj) (g : Nat) (hg : g = w.heap.size) : ((w.alloc o).alloc o').drew.heap[g]? = some o := heap_next w o o' g hg
/-- A block of other elements is as it was behind an append. -/
theorem far_kept {w w' : World} {B : Nat} {v : Value} {e e' : TypeId} {n : Nat} {xs : List Value} (ho : w.ownsRow B e 1 v n xs) (hg : w.grownBy w' v.ownBlock) (hne : e' ≠ e) (g : Nat) (V : Value) (h : w.heap[g]? = some (.cells #[V] e')) : w'.cell? ⟨g, 0, none⟩ = some V := by
  have hlt : g < w.heap.size := by
    rcases Nat.lt_or_ge g w.heap.size with h1 | h1
    · exact h1
    · rw [Array.getElem?_eq_none h1] at h; cases h
  have hk : w'.heap[g]? = some (.cells #[V] e') := (hg.block g hlt (by
    intro hh
    rcases ho.2 with ⟨rfl, _⟩ | ⟨g1, c1, cur1, rfl, _, hg1, _⟩
    · simp [Value.ownBlock] at hh
    · have : g = g1 := by simpa [Value.ownBlock] using hh
      subst this
      rw [h] at hg1
      injection hg1 with hg1
      injection hg1 with _ h2
      exact hne h2)).trans h
  simp [World.cell?, hk]
theorem bytes_at {w : World} {B T j : Nat} {V : Value} {l : List UInt8} (hV : BytesV w B V l) (i : Nat) (v : Value) (l' : List UInt8) (hv : (List.replicate T V ++ List.replicate j (.slice none 0 0))[i]? = some v) (hl : (List.replicate T l ++ List.replicate j [])[i]? = some l') : BytesV w B v l' := by
  rcases Nat.lt_or_ge i T with h | h
  · rw [List.getElem?_append_left (by simpa using h)] at hv hl
    have e1 : V = v := by simpa [h] using hv
    have e2 : l = l' := by simpa [h] using hl
    subst e1 e2
    exact hV
  · rw [List.getElem?_append_right (by simpa using h)] at hv hl
    have hj : i - T < j := by
      rcases Nat.lt_or_ge (i - T) j with h1 | h1
      · exact h1
      · rw [List.getElem?_eq_none (by simpa using h1)] at hv; cases hv
    have e1 : Value.slice none 0 0 = v := by simpa [hj] using hv
    have e2 : [] = l' := by simpa [hj] using hl
    subst e1 e2
    exact BytesV.nil_ _ _
theorem crc_more (T j : Nat) (l : List UInt8) : crc (List.replicate T l ++ List.replicate j []) = crc (List.replicate T l) := by
  have e : (List.replicate T l ++ List.replicate j []).flatten = (List.replicate T l).flatten := by simp
  unfold crc; rw [crcLs_flat, crcLs_flat, e]
theorem bytes_info : (Tryd.prog.info? 33).map (fun i => (i.zero, i.size, i.bytes)) = some (some (.slice none 0 0), 1, 24) := by kernel_rfl

set_option maxHeartbeats 1600000 in
theorem long_any (v : Value) (l : List UInt8) (t e : Int) (w : World) (B : Nat) (hv : BytesV w B v l) (hT : Tab w) (hB : B ≤ w.heap.size) (h0 : 0 < w.heap.size) (ht : 0 ≤ t ∧ t ≤ 255) (he : 0 ≤ e ∧ e ≤ 255) :
    Calls Tryd.prog 6 #[v, .int .u8 t, .int .u8 e] w fun e w' => e = .returned (.bool true) ∧ Below w.heap.size w w' := by
  replace hT := hide hT
  have hv0 := hide hv
  obtain ⟨A, c, rfl, hlc, hcm, -⟩ := hv
  unfold maxLen at hcm
  obtain ⟨i0, hi, hz0, hz1, hz2⟩ := info_parts string_info
  replace hi := hide hi
  replace hz0 := hide hz0
  replace hz1 := hide hz1
  replace hz2 := hide hz2
  obtain ⟨j0, hj, hy0, hy1, hy2⟩ := info_parts bytes_info
  replace hj := hide hj
  replace hy0 := hide hy0
  replace hy1 := hide hy1
  replace hy2 := hide hy2
  obtain ⟨T, rfl⟩ := Int.eq_ofNat_of_zero_le ht.1
  obtain ⟨E, rfl⟩ := Int.eq_ofNat_of_zero_le he.1
  by_cases h50 : l.length ≤ 50
  · have hsz : (bstr l).size ≤ maxLen := by rw [bstr_size]; unfold maxLen; omega
    replace hsz := hide hsz
    go_enter Tryd.func6, Tryd.ntmps6
    go_wp2_with fail
    refine (known_any _ hT.out h0).mono ?_
    rintro e w1 ⟨rfl, hb1⟩
    have hT1 := hide (hT.out.below h0 hb1)
    have h01 : 0 < w1.heap.size := hT1.out.pos
    have hv1 := hide ((hv0.out.below (hb1.mono hB)).more (Nat.le_trans hB hb1.size))
    have hS := hide (fun (W : World) (hW : Below w1.heap.size w1 W) => (hv1.out.below hW).string (P := Tryd.prog) Tryd.underlying33 Tryd.underlying5 Tryd.underlying9)
    replace hb1 := hide hb1
    go_wp2_with fail
    go_loopw [7, 8, 9] (fun vl vs i wr => ∃ k : Nat, k ≤ T ∧ i = .int .i64 k ∧ Two w1 wr vl vs k k (List.replicate k (.slice A l.length c)) (List.replicate k (.string (bstr l)))) (fun _ _ i _ => T - (intOf i).toNat)
    case atStart => exact ⟨0, Nat.zero_le _, rfl, ⟨World.ownsRow_nil _ _ _ _, World.ownsRow_nil _ _ _ _, Below.refl _ _⟩⟩
    case round =>
      obtain ⟨k, hk, rfl, H⟩ := hrel
      replace H := hide H
      by_cases hlt : k < T
      · go_wp2_with fail
        go_region_held3? (fun W => (convert 33 9 (.slice A l.length c)).run Tryd.prog W = .ok (.string ⟨l.toArray⟩) W) ((apply hS.out; apply Two.below; (repeat (first | exact H.out | apply Two.alloc | apply Two.drew)); done)) (first
          | (refine step_own rfl (.tmp 24) (.tmp 26) 22 rfl w1.heap.size 33 j0 (.slice none 0 0) 1 24 Tryd.underlying22 hj.out hy0.out hy1.out hy2.out rfl Nat.one_pos _ k (List.replicate k (.slice A l.length c)) rfl ?_ _ 1 1 [.slice A l.length c] rfl rfl (one_cell ?_) ?_ ?_ ?_ ?_ ?_
             · apply Two.ownL; (repeat (first | exact H.out | apply Two.alloc | apply Two.drew))
             · first | (simp [go_sem]; done) | (refine hX.out _ _ ?_; first | (refine heap_top_d _ _ _ ?_; simp; done) | (refine heap_top _ _ _ ?_; simp; done) | (refine heap_next_d _ _ _ _ ?_; simp; done) | (refine heap_next _ _ _ _ ?_; simp; done))
             · simp [Value.oneCell']
             · unfold maxLen; omega
             · omega
             · apply Two.size; (repeat (first | exact H.out | apply Two.alloc | apply Two.drew))
             intro vl' Wl hl' hg' hnn
             have hX := hide (far_kept (e' := 9) (Two.ownL (by (repeat (first | exact H.out | apply Two.alloc | apply Two.drew)))) hg' (by decide))
             replace H := hide (Two.stepL (by (repeat (first | exact H.out | apply Two.alloc | apply Two.drew))) hl' hg')
             clear hl' hg' hnn)
          | (refine step_own rfl (.tmp 28) (.tmp 31) 30 rfl w1.heap.size 9 i0 (.string .empty) 1 16 Tryd.underlying30 hi.out hz0.out hz1.out hz2.out rfl Nat.one_pos _ k (List.replicate k (.string (bstr l))) rfl ?_ _ 1 1 [.string (bstr l)] rfl rfl (one_cell ?_) ?_ ?_ ?_ ?_ ?_
             · apply Two.ownS; (repeat (first | exact H.out | apply Two.alloc | apply Two.drew))
             · first | (simp [go_sem, bstr]; done) | (refine hX.out _ _ ?_; first | (refine heap_top_d _ _ _ ?_; simp; done) | (refine heap_top _ _ _ ?_; simp; done) | (refine heap_next_d _ _ _ _ ?_; simp; done) | (refine heap_next _ _ _ _ ?_; simp; done))
             · simp [Value.oneCell']
             · unfold maxLen; omega
             · omega
             · apply Two.size; (repeat (first | exact H.out | apply Two.alloc | apply Two.drew))
             intro vs' Ws hs' hg' hnn
             have hX := hide (far_kept (e' := 33) (Two.ownS (by (repeat (first | exact H.out | apply Two.alloc | apply Two.drew)))) hg' (by decide))
             replace H := hide (Two.stepS (by (repeat (first | exact H.out | apply Two.alloc | apply Two.drew))) hs' hg')
             clear hs' hg' hnn))
        all_goals
          go_wp2_with fail
          exact ⟨⟨k + 1, by omega, by go_num, by rw [List.replicate_succ', List.replicate_succ']; exact H.out⟩, by simp [intOf]; omega⟩
      · obtain rfl : k = T := by omega
        have hrows := hide (rowsOf (ls := List.replicate k l ++ List.replicate 0 []) (xs := List.replicate k (.slice A l.length c) ++ List.replicate 0 (.slice none 0 0)) (by simpa using H.out.ownL) (by simp) (by simp) (bytes_at ((hv1.out.below H.out.below).more H.out.size)))
        have hstrs := hide (strsOf (ss := List.replicate k (bstr l)) H.out.ownS (by simp) (by simp) (fun s hs => by rw [List.eq_of_mem_replicate hs]; exact hsz.out))
        go_wp2_with fail
        refine (crc_any _ _ _ _ hrows.out (hT1.out.below h01 H.out.below)).mono ?_
        rw [crc_more]
        rintro e w2 ⟨rfl, rfl⟩
        clear hrows
        generalize hC : crc (List.replicate k l) = C
        replace hC := hide hC
        go_wp2_with fail
        refine (print_any _ _ _ _ hstrs.out).mono ?_
        rintro e w2 ⟨rfl, rfl⟩
        clear hstrs
        generalize hP : prints 14695981039346656037 (List.replicate k (bstr l)) = R
        replace hP := hide hP
        go_wp2_with fail
        go_loopw [7, 8, 12] (fun vl vs i wr => ∃ j : Nat, j ≤ E % 4 ∧ i = .int .i64 j ∧ Two w1 wr vl vs (k + j) (k + j) (List.replicate k (.slice A l.length c) ++ List.replicate j (.slice none 0 0)) (List.replicate k (.string (bstr l)) ++ List.replicate j (.string ⟨#[]⟩))) (fun _ _ i _ => E % 4 - (intOf i).toNat)
        case atStart => exact ⟨0, Nat.zero_le _, rfl, by simpa using H.out⟩
        case round =>
          clear H
          obtain ⟨j, hj', rfl, H⟩ := hrel
          replace H := hide H
          by_cases hjt : j < E % 4
          · go_wp2_with (first
              | (at_builtin
                 refine wpList_append_own _ rfl (.tmp 44) (.tmp 45) 22 rfl w1.heap.size 33 j0 (.slice none 0 0) 1 24 Tryd.underlying22 hj.out hy0.out hy1.out hy2.out rfl Nat.one_pos _ (k + j) (List.replicate k (.slice A l.length c) ++ List.replicate j (.slice none 0 0)) rfl ?_ _ 1 1 [.slice none 0 0] rfl rfl (one_cell ?_) ?_ ?_ ?_ ?_ ?_
                 · apply Two.ownL; (repeat (first | exact H.out | apply Two.alloc | apply Two.drew))
                 · (simp [go_sem]; done)
                 · simp [Value.oneCell']
                 · unfold maxLen; omega
                 · omega
                 · apply Two.size; (repeat (first | exact H.out | apply Two.alloc | apply Two.drew))
                 intro vl' Wl hl' hg' hnn
                 replace H := hide (Two.stepL (by (repeat (first | exact H.out | apply Two.alloc | apply Two.drew))) hl' hg')
                 clear hl' hg' hnn)
              | (at_builtin
                 refine wpList_append_own _ rfl (.tmp 47) (.tmp 48) 30 rfl w1.heap.size 9 i0 (.string .empty) 1 16 Tryd.underlying30 hi.out hz0.out hz1.out hz2.out rfl Nat.one_pos _ (k + j) (List.replicate k (.string (bstr l)) ++ List.replicate j (.string ⟨#[]⟩)) rfl ?_ _ 1 1 [.string ⟨#[]⟩] rfl rfl (one_cell ?_) ?_ ?_ ?_ ?_ ?_
                 · apply Two.ownS; (repeat (first | exact H.out | apply Two.alloc | apply Two.drew))
                 · (simp [go_sem]; done)
                 · simp [Value.oneCell']
                 · unfold maxLen; omega
                 · omega
                 · apply Two.size; (repeat (first | exact H.out | apply Two.alloc | apply Two.drew))
                 intro vs' Ws hs' hg' hnn
                 replace H := hide (Two.stepS (by (repeat (first | exact H.out | apply Two.alloc | apply Two.drew))) hs' hg')
                 clear hs' hg' hnn))
            go_roundw
            case rel => exact ⟨j + 1, by omega, by go_num, by rw [List.replicate_succ', List.replicate_succ', ← List.append_assoc, ← List.append_assoc]; exact H.out⟩
            case measure => simp [intOf]; omega
          · obtain rfl : j = E % 4 := by omega
            have hrows := hide (rowsOf (ls := List.replicate k l ++ List.replicate (E % 4) []) H.out.ownL (by simp) (by simp) (bytes_at ((hv1.out.below H.out.below).more H.out.size)))
            have hstrs := hide (strsOf (ss := List.replicate k (bstr l) ++ List.replicate (E % 4) ⟨#[]⟩) H.out.ownS (by simp) (by simp) (fun s hs => by
              rw [List.mem_append] at hs
              rcases hs with hs | hs
              · rw [List.eq_of_mem_replicate hs]; exact hsz.out
              · rw [List.eq_of_mem_replicate hs]; exact Nat.zero_le _))
            have hT2 := hide (hT1.out.below h01 H.out.below)
            have hbel := hide (hb1.out.trans (H.out.below.mono hb1.out.size))
            clear H
            by_cases h4 : E % 4 = 0
            · have hpr : prints 14695981039346656037 (List.replicate k (bstr l) ++ List.replicate (E % 4) ⟨#[]⟩) = R := by rw [h4]; simpa using hP.out
              replace hpr := hide hpr
              have h4' : ((E : Int) % 4) ≤ 0 := by omega
              have h4'' : ¬ (0 : Int) < ((E : Int) % 4) := by omega
              replace h4 := hide h4
              go_wp2_with fail
              refine (refCrc_any _ _ _ _ hrows.out).mono ?_
              rw [crc_more, hC.out]
              rintro e w2 ⟨rfl, rfl⟩
              go_wp2_with fail
              refine (crc_any _ _ _ _ hrows.out hT2.out).mono ?_
              rw [crc_more, hC.out]
              rintro e w2 ⟨rfl, rfl⟩
              go_wp2_with fail
              refine (print_any _ _ _ _ hstrs.out).mono ?_
              rw [hpr.out]
              rintro e w2 ⟨rfl, rfl⟩
              go_wp2_with fail
              refine (refPrint_any _ _ _ _ hstrs.out).mono ?_
              rw [hpr.out]
              rintro e w2 ⟨rfl, rfl⟩
              go_wp2_with fail
              refine (print_any _ _ _ _ hstrs.out).mono ?_
              rw [hpr.out]
              rintro e w2 ⟨rfl, rfl⟩
              go_wp2_with fail
              go_ret
              exact ⟨rfl, hbel.out⟩
            · have h4' : 0 < ((E : Int) % 4) := by omega
              replace h4 := hide h4
              generalize prints 14695981039346656037 (List.replicate k (bstr l) ++ List.replicate (E % 4) ⟨#[]⟩) = R2 at *
              go_wp2_with fail
              refine (refCrc_any _ _ _ _ hrows.out).mono ?_
              rw [crc_more, hC.out]
              rintro e w2 ⟨rfl, rfl⟩
              go_wp2_with fail
              refine (crc_any _ _ _ _ hrows.out hT2.out).mono ?_
              rw [crc_more, hC.out]
              rintro e w2 ⟨rfl, rfl⟩
              go_wp2_with fail
              refine (print_any _ _ _ _ hstrs.out).mono ?_
              rintro e w2 ⟨rfl, rfl⟩
              go_wp2_with fail
              refine (refPrint_any _ _ _ _ hstrs.out).mono ?_
              rintro e w2 ⟨rfl, rfl⟩
              go_wp2_with fail
              go_ret
              exact ⟨rfl, hbel.out⟩
  · go_enter Tryd.func6, Tryd.ntmps6
    go_wp2_with fail
    refine (known_any _ hT.out h0).mono ?_
    rintro e w1 ⟨rfl, hb1⟩
    go_wp2_with fail
    go_ret
    exact ⟨rfl, hb1⟩
end Go.Proofs.YtdjcipfaiaodcaaDoor
