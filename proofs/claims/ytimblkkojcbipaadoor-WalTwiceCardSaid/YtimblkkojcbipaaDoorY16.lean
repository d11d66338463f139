/- Part 16 of the walks (merged): CatRecs, Power, Twice. -/
import Derived.Test.YtimblkkojcbipaaDoorY14
import Derived.Test.YtimblkkojcbipaaDoorY15
/- Records behind records: the built-in append of a list of records; puts that have no room. -/
namespace Go.Proofs.YtimblkkojcbipaaDoor
open Go Go.RowKit
theorem run_rows_nothing {w : World} {v : Value} {n B : Nat} {xs : List Value} (hown : w.ownsRow B 34 1 v n xs) (ty : TypeId) (A : Option Addr) (c : Nat) :
    (Builtin.append_ #[28, 28] ty #[v, .slice A 0 c]).run Tryd.prog w = .ok v w := by
  obtain ⟨i0, hi, hz0, hz1, hz2⟩ := info_parts rows_info
  rcases hown.2 with ⟨rfl, rfl⟩ | ⟨g, cap, cur, rfl, hbg, hg, hnc, hcm, hcs, htake⟩
  · cases A <;> simp [Builtin.append_, run_underlying Tryd.underlying28, sizeOf, typeInfo, hi, Builtin.lenOf, Builtin.firstCells, loadCells, loadCellsFrom]
  · cases A <;> simp [Builtin.append_, run_underlying Tryd.underlying28, sizeOf, typeInfo, hi, Builtin.lenOf, Builtin.firstCells, loadCells, loadCellsFrom, storeCells, hnc]
theorem run_rows_append {w : World} {base : Nat} {v : Value} {n : Nat} {xs : List Value} (hown : w.ownsRow base 34 1 v n xs) {S : Nat → Prop} {v2 : Value} {ys : List Value} (hv2 : ArgV w S v2 ys) (hone : ∀ u ∈ ys, ∃ a n c, u = .slice a n c)
    (hlen : n + ys.length ≤ 4294967296) (hbase : base ≤ w.heap.size) (ty : TypeId) :
    ∃ v' w', (Builtin.append_ #[28, 28] ty #[v, v2]).run Tryd.prog w = .ok v' w' ∧ w'.ownsRow base 34 1 v' (n + ys.length) (xs ++ ys) ∧ Upd (Own v) w w' ∧ ∀ k, Own v' k → Own v k ∨ w.heap.size ≤ k := by
  obtain ⟨A, c, rfl, h1, h2, h3⟩ := hv2
  cases ys with
  | nil => exact ⟨v, w, run_rows_nothing hown ty A c, by simpa using hown, .refl _ _, fun k hk => .inl hk⟩
  | cons y ys =>
    rcases h3 with h3 | ⟨b, o, rfl, hb, hc⟩
    · cases h3
    · obtain ⟨i0, hi, hz0, hz1, hz2⟩ := info_parts rows_info
      obtain ⟨v', w', hr, h4, h5, h6⟩ := run_append_moved (P := Tryd.prog) w base 28 ty 34 i0 (.slice none 0 0) 1 24 Tryd.underlying28 hi hz0 hz1 hz2 rfl Nat.one_pos v n xs hown ⟨b, o, none⟩ (y :: ys).length c (y :: ys) (by omega) (fun j u hu => by rw [Go.WideShapes.add_plain]; exact hc j u hu) (fun u hu => oneSlice _ (hone u hu)) (by unfold maxLen; omega) (by omega) hbase
      exact ⟨v', w', hr, h4, .grown h5 fun k hk => hk, h6⟩
theorem RecsV.parts {w : World} {T : Nat → Prop} {v : Value} {rs : List (List UInt8)} (h : RecsV w T v rs) : ∃ vs, vs.length = rs.length ∧ ArgV w T v vs ∧ (∀ u ∈ vs, ∃ a n c, u = .slice a n c) ∧ ∀ (i : Nat) (u : Value) (r : List UInt8), vs[i]? = some u → rs[i]? = some r → ArgV w T u (bv r) ∧ NonNil u := by
  obtain ⟨vs, h1, h2, h3⟩ := h
  refine ⟨vs, h1, h2, fun u hu => ?_, h3⟩
  obtain ⟨i, hi, rfl⟩ := List.getElem_of_mem hu
  obtain ⟨A, c, e, _⟩ := (h3 i _ (rs[i]'(by omega)) (List.getElem?_eq_getElem hi) (List.getElem?_eq_getElem (by omega))).1
  exact ⟨_, _, _, e⟩
/-- Records of the walk's own row, some of their bytes elsewhere. -/
theorem recsV_own {w : World} {B : Nat} {T : Nat → Prop} {v : Value} {vs : List Value} {rs : List (List UInt8)} (hl : vs.length = rs.length) (hown : w.ownsRow B 34 1 v vs.length vs) (he : ∀ (i : Nat) (u : Value) (r : List UInt8), vs[i]? = some u → rs[i]? = some r → ArgV w T u (bv r) ∧ NonNil u) :
    RecsV w (fun k => (T k ∨ B ≤ k) ∧ k < w.heap.size) v rs := by
  have h1 : RecsV w (fun k => T k ∨ B ≤ k) v rs := ⟨vs, hl, (own_arg hown).mono fun k _ hk => .inr hk.1, fun i u r hi hr => ⟨(he i u r hi hr).1.mono fun k _ hk => .inl hk, (he i u r hi hr).2⟩⟩
  exact h1.low
theorem each_append {w : World} {T : Nat → Prop} {vs ws : List Value} {rs ss : List (List UInt8)} (hl : vs.length = rs.length) (h1 : ∀ (i : Nat) (u : Value) (r : List UInt8), vs[i]? = some u → rs[i]? = some r → ArgV w T u (bv r) ∧ NonNil u) (h2 : ∀ (i : Nat) (u : Value) (r : List UInt8), ws[i]? = some u → ss[i]? = some r → ArgV w T u (bv r) ∧ NonNil u) :
    ∀ (i : Nat) (u : Value) (r : List UInt8), (vs ++ ws)[i]? = some u → (rs ++ ss)[i]? = some r → ArgV w T u (bv r) ∧ NonNil u := by
  intro i u r hi hr
  rcases Nat.lt_or_ge i vs.length with h | h
  · rw [List.getElem?_append_left h] at hi
    rw [List.getElem?_append_left (by omega)] at hr
    exact h1 i u r hi hr
  · rw [List.getElem?_append_right h] at hi
    rw [List.getElem?_append_right (by omega)] at hr
    exact h2 (i - vs.length) u r hi (by rw [hl]; exact hr)
/-- A copy of records, and more of them behind: what the two appends make. -/
theorem cat_recs {w : World} {T T' : Nat → Prop} {v v' : Value} {rs rs' : List (List UInt8)} (h : RecsV w T v rs) (h' : RecsV w T' v' rs') (hl : rs.length + rs'.length ≤ 1000000) (ty ty' : TypeId) :
    ∃ v1 w1 v2 w2, (Builtin.append_ #[28, 28] ty #[.slice none 0 0, v]).run Tryd.prog w = .ok v1 w1 ∧ (Builtin.append_ #[28, 28] ty' #[v1, v']).run Tryd.prog w1 = .ok v2 w2 ∧
      Upd (fun _ => False) w w2 ∧ RecsV w2 (fun k => ((T k ∨ T' k) ∨ w.heap.size ≤ k) ∧ k < w2.heap.size) v2 (rs ++ rs') := by
  obtain ⟨vs, hvl, hva, hvs, hve⟩ := h.low.parts
  obtain ⟨ws, hwl, hwa, hws, hwe⟩ := h'.low.parts
  obtain ⟨v1, w1, r1, o1, u1, m1⟩ := run_rows_append (World.ownsRow_nil w w.heap.size 34 1) hva hvs (by omega) (Nat.le_refl _) ty
  rw [List.nil_append, Nat.zero_add] at o1
  have u1' : Upd (fun _ => False) w w1 := u1.mono fun k _ hk => by cases hk
  have hown1 : ∀ k, Own v1 k → w.heap.size ≤ k := fun k hk => (m1 k hk).elim (fun h => by cases h) id
  have hwa1 := hwa.upd u1' fun _ _ => id
  obtain ⟨v2, w2, r2, o2, u2, m2⟩ := run_rows_append o1 hwa1 hws (by omega) u1'.size ty'
  have u2' : Upd (fun _ => False) w w2 := u1'.trans u2 fun k hk ho => by have := hown1 k ho; omega
  refine ⟨v1, w1, v2, w2, r1, r2, u2', ?_⟩
  refine recsV_own (vs := vs ++ ws) (by simp [hvl, hwl]) (by simpa using o2) (each_append hvl (fun i u r hi hr => ?_) fun i u r hi hr => ?_)
  · have := hve i u r hi hr
    exact ⟨(this.1.upd u2' fun _ _ => id).mono fun k _ hk => .inl hk.1, this.2⟩
  · have := hwe i u r hi hr
    exact ⟨(this.1.upd u2' fun _ _ => id).mono fun k _ hk => .inr hk.1, this.2⟩
section
variable {n B sb lb : Nat} {S : Nat → Prop} {rs : List (List UInt8)} {w w' W : World}
/-- A Commit without room. -/
theorem full_lg {T : Nat → Prop} {rv : Value} {rs' : List (List UInt8)} (h : LgC n W B sb lb S rs) (hr : RecsV W T rv rs') (hrl : rs'.length ≤ 2147483648) (heach : ∀ r ∈ rs', r.length ≤ 1048576) (hfl : (frames rs').length ≤ 2251799813685248) (hfull : capC n < (frames rs).length + (frames rs').length) :
    Calls Tryd.prog 18 #[.pointer (some ⟨lb, 0, none⟩), rv] W fun e w' => e = .returned (.int .i64 40) ∧ Below W.heap.size W w' := by
  obtain ⟨D, live, x, h, hn, hs⟩ := h
  have hcap := h.holds.fine.cap
  have hcl := count_le rs
  have hb := h.holds.lies.bytes
  have hf := h.holds.lies.fit
  have hrc := h.holds.lies.recs
  refine commit_of h.log (put_full h.log h.disk h.holds.fine.n1.1 x h.holds.lies.area (by omega) hr hrl hfl (any_tooL heach (Nat.le_refl _)) (by rw [cap_of hn hs, hb]; exact hfull)) ?_
  rintro e w' ⟨rfl, _⟩
  exact ⟨_, rfl⟩
/-- A Reset without room. -/
theorem full_reset {T : Nat → Prop} {rv : Value} {rs' : List (List UInt8)} (h : LgC n W B sb lb S rs) (hr : RecsV W T rv rs') (hrl : rs'.length ≤ 2147483648) (heach : ∀ r ∈ rs', r.length ≤ 1048576) (hfl : (frames rs').length ≤ 2251799813685248) (hfull : capC n < (frames rs').length) :
    Calls Tryd.prog 16 #[.pointer (some ⟨lb, 0, none⟩), rv] W fun e w' => e = .returned (.int .i64 40) ∧ Below W.heap.size W w' := by
  obtain ⟨D, live, x, h, hn, hs⟩ := h
  refine reset_of h.log h.holds.lies.area (put_full h.log h.disk h.holds.fine.n1.1 ⟨1 - x.area, 0, 0⟩ (Nat.sub_le _ _) (by simp) hr hrl hfl (any_tooL heach (Nat.le_refl _)) (by rw [cap_of hn hs]; simpa using hfull)) ?_
  rintro e w' ⟨rfl, _⟩
  exact ⟨_, rfl⟩
end
theorem frames_size (rs : List (List UInt8)) : (frames rs).length ≤ sizeN rs := by
  induction rs with
  | nil => simp [frames]
  | cons r rs ih =>
    rw [frames_cons, List.length_append, frame_len]
    unfold sizeN at ih ⊢
    rw [List.map_cons, List.sum_cons]
    omega
theorem sizeN_of {rs : List (List UInt8)} {m : Nat} (h : ∀ r ∈ rs, r.length ≤ m) : sizeN rs ≤ rs.length * (m + 16) := by
  induction rs with
  | nil => simp [sizeN]
  | cons r rs ih =>
    have h1 := ih fun x hx => h x (by simp [hx])
    have h2 := h r (by simp)
    unfold sizeN at h1 ⊢
    rw [List.map_cons, List.sum_cons, List.length_cons, Nat.succ_mul]
    omega
end Go.Proofs.YtimblkkojcbipaaDoor
/- A log on a disk whose power may fail, as the laws hold it. -/
namespace Go.Proofs.YtimblkkojcbipaaDoor
open Go Go.RowKit
/-- A disk of n sectors of 256 bytes, all of it durable, that holds rs; of its power pw is said. -/
def DkP (pw : DS → Prop) (n : Nat) (w : World) (B sb : Nat) (S : Nat → Prop) (rs : List (List UInt8)) : Prop :=
  ∃ D live x, DiskV w sb S D ∧ Sett D ∧ Holds D live x rs ∧ pw D ∧ D.n = n ∧ D.size = 256 ∧ ∀ k, S k → B ≤ k
def Up (D : DS) : Prop := D.dead = false
def AnyPw (_ : DS) : Prop := True
/-- A log there, its power not gone yet. -/
def LgP (n : Nat) (w : World) (B sb lb : Nat) (S : Nat → Prop) (rs : List (List UInt8)) : Prop :=
  ∃ D live x, DiskV w sb S D ∧ LogV w lb sb live x ∧ Sett D ∧ Holds D live x rs ∧ D.dead = false ∧ D.n = n ∧ D.size = 256 ∧ (∀ k, S k → B ≤ k) ∧ B ≤ lb ∧ ¬ S lb
/-- A disk whose power failed in a put: what it leaves are rs or rs'. -/
def TnP (n : Nat) (w : World) (B sb : Nat) (S : Nat → Prop) (rs rs' : List (List UInt8)) : Prop :=
  ∃ D, DiskV w sb S D ∧ D.dead = true ∧ (∀ K, ∃ live x, Holds (D.fall K) live x rs ∨ Holds (D.fall K) live x rs') ∧ D.n = n ∧ D.size = 256 ∧ ∀ k, S k → B ≤ k
section
variable {n B sb lb : Nat} {S : Nat → Prop} {rs : List (List UInt8)} {w w' W : World}
theorem LgP.dk (h : LgP n w B sb lb S rs) : DkP Up n w B sb S rs := by
  obtain ⟨D, live, x, h1, h2, h3, h4, h5, h6, h7, h8, _⟩ := h
  exact ⟨D, live, x, h1, h3, h4, h5, h6, h7, h8⟩
theorem DkP.weak {pw pw' : DS → Prop} (h : DkP pw n w B sb S rs) (hp : ∀ D, pw D → pw' D) : DkP pw' n w B sb S rs := by
  obtain ⟨D, live, x, h1, h3, h4, h5, h6⟩ := h
  exact ⟨D, live, x, h1, h3, h4, hp D h5, h6⟩
theorem LgP.upd {F : Nat → Prop} (h : LgP n w B sb lb S rs) (hu : Upd F w w') (hF : ∀ k, OL S lb k → ¬ F k) : LgP n w' B sb lb S rs := by
  obtain ⟨D, live, x, h1, h2, h3⟩ := h
  exact ⟨D, live, x, h1.upd hu fun k hk => hF k (.inl hk), hu.heap h2 (hF _ (.inr rfl)), h3⟩
theorem DkP.upd {pw : DS → Prop} {F : Nat → Prop} (h : DkP pw n w B sb S rs) (hu : Upd F w w') (hF : ∀ k, S k → ¬ F k) : DkP pw n w' B sb S rs := by
  obtain ⟨D, live, x, h1, h2⟩ := h
  exact ⟨D, live, x, h1.upd hu hF, h2⟩
theorem TnP.upd {F : Nat → Prop} {rs' : List (List UInt8)} (h : TnP n w B sb S rs rs') (hu : Upd F w w') (hF : ∀ k, S k → ¬ F k) : TnP n w' B sb S rs rs' := by
  obtain ⟨D, h1, h2⟩ := h
  exact ⟨D, h1.upd hu hF, h2⟩
theorem LgP.ge (h : LgP n w B sb lb S rs) {k : Nat} (hk : OL S lb k) : B ≤ k := by
  obtain ⟨D, live, x, h1, h2, h3, h4, h5, h6, h7, h8, h9, _⟩ := h
  rcases hk with hk | rfl
  · exact h8 k hk
  · exact h9
theorem LgP.old (h : LgP n w B sb lb S rs) {k : Nat} (hk : OL S lb k) : k < w.heap.size := by
  obtain ⟨D, live, x, h1, h2, _⟩ := h
  rcases hk with hk | rfl
  · exact h1.old k hk
  · exact (Array.getElem?_eq_some_iff.1 h2).1
theorem DkP.ge {pw : DS → Prop} (h : DkP pw n w B sb S rs) {k : Nat} (hk : S k) : B ≤ k := by
  obtain ⟨D, live, x, _, _, _, _, _, _, h1⟩ := h
  exact h1 k hk
theorem DkP.old {pw : DS → Prop} (h : DkP pw n w B sb S rs) {k : Nat} (hk : S k) : k < w.heap.size := by
  obtain ⟨D, live, x, h, _⟩ := h
  exact h.old k hk
theorem TnP.ge {rs' : List (List UInt8)} (h : TnP n w B sb S rs rs') {k : Nat} (hk : S k) : B ≤ k := by
  obtain ⟨D, _, _, _, _, _, h1⟩ := h
  exact h1 k hk
theorem TnP.old {rs' : List (List UInt8)} (h : TnP n w B sb S rs rs') {k : Nat} (hk : S k) : k < w.heap.size := by
  obtain ⟨D, h, _⟩ := h
  exact h.old k hk
theorem own_mv {S' O O' : Nat → Prop} (hS : ∀ k, O k → B ≤ k) (hz : B ≤ w.heap.size) (hm : Mv w O w' O') (hs : ∀ k, S' k → O' k) : ∀ k, S' k → B ≤ k := fun k hk => (hm.2 k (hs k hk)).elim (hS k) fun h => by omega
theorem opened_sett {D : DS} (h : D.opened.dead = false) : Sett D.opened := by
  unfold DS.opened at h ⊢
  split
  · rename_i t e
    rw [e] at h
    rcases flush_cases D with h1 | h1
    · rw [h1.1] at h; cases h
    · exact h1.2.1
  · rename_i e
    rw [e] at h
    rcases flush_cases D.format with h1 | h1
    · rw [h1.1] at h; cases h
    · exact h1.2.1
/-- A new disk, opened. -/
theorem open_newP (h : DkC n W B sb S rs) (hB : 1 ≤ B) (hBz : B ≤ W.heap.size) (hT : Tab W) :
    Calls Tryd.prog 12 #[.pointer (some ⟨sb, 0, none⟩)] W fun e w' => ∃ lb v S', e = .returned (.tuple #[.pointer (some ⟨lb, 0, none⟩), v, .int .i64 0]) ∧ LgP n w' B sb lb S' rs ∧ RecsO w' W.heap.size v rs ∧ (∀ k, Own v k → k ≠ lb) ∧ W.heap.size ≤ lb ∧ Mv W S w' S' := by
  obtain ⟨D, live, x, hD, hon, hf, hn, hs, hH, hS⟩ := h
  refine (open_on hD hon hf hT (fun h => by have := hS 0 h; omega) (by omega) hH).mono ?_
  rintro e w' ⟨lb, v, S', he, h1, h2, h3, h4, h5, h6, h7, h8, h9⟩
  exact ⟨lb, v, S', he, ⟨_, live, x, h1, h6, opened_sett h2.1, h3, h2.1, by rw [opened_n, hn], by rw [opened_size, hs], own_mv hS hBz h9 fun _ => id, by omega, h5⟩, h7, h8, h4, h9⟩
/-- A disk that is whole, its power not cut, opened. -/
theorem open_onP (h : DkP DS.on n W B sb S rs) (hB : 1 ≤ B) (hBz : B ≤ W.heap.size) (hT : Tab W) :
    Calls Tryd.prog 12 #[.pointer (some ⟨sb, 0, none⟩)] W fun e w' => ∃ lb v S', e = .returned (.tuple #[.pointer (some ⟨lb, 0, none⟩), v, .int .i64 0]) ∧ LgP n w' B sb lb S' rs ∧ RecsO w' W.heap.size v rs ∧ (∀ k, Own v k → k ≠ lb) ∧ W.heap.size ≤ lb ∧ Mv W S w' S' := by
  obtain ⟨D, live, x, hD, hSt, hH, hon, hn, hs, hS⟩ := h
  exact open_newP ⟨D, live, x, hD, hon, hH.fine, hn, hs, .inl hH, hS⟩ hB hBz hT
/-- The same, with power that may fail: whatever comes of it, all is as it was. -/
theorem open_upP (h : DkP Up n W B sb S rs) (hB : 1 ≤ B) (hBz : B ≤ W.heap.size) (hT : Tab W) :
    Calls Tryd.prog 12 #[.pointer (some ⟨sb, 0, none⟩)] W fun e w' => ∃ v S', e = .returned v ∧ DkP AnyPw n w' B sb S' rs ∧ Mv W S w' S' := by
  obtain ⟨D, live, x, hD, hSt, hH, hd, hn, hs, hS⟩ := h
  refine (open_any hD hd hT (fun h => by have := hS 0 h; omega) (by omega) hH.fine.n1.1 hH.fine.s1.1).mono ?_
  rintro e w' ⟨S', h1, h2, h3⟩
  have hop : D.opened = D.flush := by unfold DS.opened; rw [hH.find]
  obtain ⟨f1, f2⟩ := sett_flush hSt hH
  rw [← hop] at f1 f2
  have hk : DkP AnyPw n w' B sb S' rs := ⟨_, live, x, h1, f1, f2, trivial, by rw [opened_n, hn], by rw [opened_size, hs], own_mv hS hBz h2 fun _ => id⟩
  rcases h3 with ⟨-, rfl⟩ | ⟨-, lb, v, rfl, -⟩
  · exact ⟨_, S', rfl, hk, h2⟩
  · exact ⟨_, S', rfl, hk, h2⟩
theorem cut_sett {D : DS} (k : Nat) (h : Sett D) : Sett (D.cut k) := h
theorem cut_holds {D : DS} {live : Nat} {x : Ext} (k : Nat) (h : Holds D live x rs) : Holds (D.cut k) live x rs := h.congr rfl rfl fun _ => rfl
theorem cut_lgP (h : LgP n W B sb lb S rs) (k : Nat) (hk : k ≤ 1000000) : Calls Tryd.prog 20 #[.pointer (some ⟨sb, 3, none⟩), .int .i64 k] W fun e w' => e = .returned (.tuple #[]) ∧ LgP n w' B sb lb S rs ∧ Upd S W w' := by
  obtain ⟨D, live, x, h1, h2, h3, h4, h5, h6, h7, h8, h9, h10⟩ := h
  refine (cut_any h1 k hk).mono ?_
  rintro e w' ⟨he, hc, hu⟩
  exact ⟨he, ⟨D.cut k, live, x, hc, hu.heap h2 h10, cut_sett k h3, cut_holds k h4, h5, h6, h7, h8, h9, h10⟩, hu⟩
theorem cut_dkP (h : DkP DS.on n W B sb S rs) (k : Nat) (hk : k ≤ 1000000) : Calls Tryd.prog 20 #[.pointer (some ⟨sb, 3, none⟩), .int .i64 k] W fun e w' => e = .returned (.tuple #[]) ∧ DkP Up n w' B sb S rs ∧ Upd S W w' := by
  obtain ⟨D, live, x, h1, h3, h4, h5, h6⟩ := h
  refine (cut_any h1 k hk).mono ?_
  rintro e w' ⟨he, hc, hu⟩
  exact ⟨he, ⟨D.cut k, live, x, hc, cut_sett k h3, cut_holds k h4, h5.1, h6⟩, hu⟩
theorem crash_dkP {pw : DS → Prop} (h : DkP pw n W B sb S rs) (hBz : B ≤ W.heap.size) (keep at_ : Int) (hk0 : 0 ≤ keep ∧ keep ≤ 18446744073709551615) : Calls Tryd.prog 22 #[.pointer (some ⟨sb, 0, none⟩), .int .u64 keep, .int .i64 (-1), .int .i64 at_] W fun e w' => e = .returned (.tuple #[]) ∧ ∃ S', DkP DS.on n w' B sb S' rs ∧ Mv W S w' S' := by
  obtain ⟨D, live, x, h1, h3, h4, h5, h6, h7, h8⟩ := h
  refine (crash_any h1 keep at_ hk0).mono ?_
  rintro e w' ⟨he, S', K, hc, hm⟩
  exact ⟨he, S', ⟨D.fall K, live, x, hc, fun _ => rfl, sett_fall h3 h4 K, ⟨rfl, rfl⟩, h6, h7, own_mv h8 hBz hm fun _ => id⟩, hm⟩
theorem crash_tnP {rs' : List (List UInt8)} (h : TnP n W B sb S rs rs') (hBz : B ≤ W.heap.size) (keep at_ : Int) (hk0 : 0 ≤ keep ∧ keep ≤ 18446744073709551615) : Calls Tryd.prog 22 #[.pointer (some ⟨sb, 0, none⟩), .int .u64 keep, .int .i64 (-1), .int .i64 at_] W fun e w' => e = .returned (.tuple #[]) ∧ ∃ S' r, (r = rs ∨ r = rs') ∧ DkP DS.on n w' B sb S' r ∧ Mv W S w' S' := by
  obtain ⟨D, h1, h3, h4, h6, h7, h8⟩ := h
  refine (crash_any h1 keep at_ hk0).mono ?_
  rintro e w' ⟨he, S', K, hc, hm⟩
  obtain ⟨live, x, hh | hh⟩ := h4 K
  · exact ⟨he, S', _, .inl rfl, ⟨D.fall K, live, x, hc, fun _ => rfl, hh, ⟨rfl, rfl⟩, h6, h7, own_mv h8 hBz hm fun _ => id⟩, hm⟩
  · exact ⟨he, S', _, .inr rfl, ⟨D.fall K, live, x, hc, fun _ => rfl, hh, ⟨rfl, rfl⟩, h6, h7, own_mv h8 hBz hm fun _ => id⟩, hm⟩
theorem dead_tnP {rs' : List (List UInt8)} (h : TnP n W B sb S rs rs') : Calls Tryd.prog 21 #[.pointer (some ⟨sb, 3, none⟩)] W fun e w' => e = .returned (.bool true) ∧ W = w' := by
  obtain ⟨D, h1, h3, _⟩ := h
  have := dead_anyV h1
  rw [h3] at this
  exact this
/-- What a put that may be cut comes to. -/
def PutR (n : Nat) (W : World) (B sb lb : Nat) (S : Nat → Prop) (rs rs' : List (List UInt8)) (e : Ending) (w' : World) : Prop :=
  ∃ S', Mv W (OL S lb) w' (OL S' lb) ∧ ((e = .returned (.int .i64 0) ∧ LgP n w' B sb lb S' rs') ∨ (e = .returned (.int .i64 32) ∧ TnP n w' B sb S' rs rs'))
theorem commit_p {T : Nat → Prop} {rv : Value} {ys : List (List UInt8)} (h : LgP n W B sb lb S rs) (hB : 1 ≤ B) (hBz : B ≤ W.heap.size) (hT : Tab W) (hr : RecsV W T rv ys) (hTd : ∀ k, T k → ¬ OL S lb k) (hrl : ys.length ≤ 2147483648) (heach : ∀ r ∈ ys, r.length ≤ 1048576)
    (hfit : (frames rs).length + (frames ys).length ≤ capC n) :
    Calls Tryd.prog 18 #[.pointer (some ⟨lb, 0, none⟩), rv] W fun e w' => PutR n W B sb lb S rs (rs ++ ys) e w' := by
  obtain ⟨D, live, x, hD, hL, hSt, hH, hd, hn, hs, hS, hlb, hnl⟩ := h
  have hcap := hH.fine.cap
  have hcl := count_le rs
  have hb := hH.lies.bytes
  have hf := hH.lies.fit
  have hrc := hH.lies.recs
  have hfit' : x.bytes + (frames ys).length ≤ capN D := by rw [hb, cap_of hn hs]; exact hfit
  have hO : ∀ k, OL S lb k → B ≤ k := fun k hk => hk.elim (hS k) fun e => by omega
  refine commit_of hL ((put_any hL hD hd hnl hT (fun hk => by have := hS 0 hk; omega) (by omega) hH.fine.n1.1 hH.one hH.mark16 x hH.lies.area (by omega) hr (fun k hk => ⟨fun hk' => hTd k hk (.inl hk'), fun e => hTd k hk (.inr e)⟩) hrl (any_tooL heach (Nat.le_refl _)) hfit').mono (R' := fun e w' => PutR n W B sb lb S rs (rs ++ ys) e w') ?_) ?_
  · rintro e w' ⟨S', rfl, hD', hL', hM, hnl'⟩
    refine ⟨S', hM, ?_⟩
    have hown := own_mv (S' := S') hO hBz hM fun k hk => .inl hk
    cases hdead : (D.put live x ys).dead
    · left
      rw [hdead] at hL'
      exact ⟨by unfold errOf; rw [hdead]; rfl, _, _, _, hD', hL', put_sett hdead, put_holds hH.fine hH.lies heach hfit' hdead, hdead, by rw [put_n, hn], by rw [put_size, hs], hown, hlb, hnl'⟩
    · right
      refine ⟨by unfold errOf; rw [hdead]; rfl, _, hD', hdead, fun K => ?_, by rw [put_n, hn], by rw [put_size, hs], hown⟩
      rcases commit_fall hSt hH heach hfit' hdead K with h | h
      · exact ⟨_, _, .inl h⟩
      · exact ⟨_, _, .inr h⟩
  · rintro e w' ⟨_, _, ⟨rfl, _⟩ | ⟨rfl, _⟩⟩
    · exact ⟨_, rfl⟩
    · exact ⟨_, rfl⟩
theorem reset_p {T : Nat → Prop} {rv : Value} {ys : List (List UInt8)} (h : LgP n W B sb lb S rs) (hB : 1 ≤ B) (hBz : B ≤ W.heap.size) (hT : Tab W) (hr : RecsV W T rv ys) (hTd : ∀ k, T k → ¬ OL S lb k) (hrl : ys.length ≤ 2147483648) (heach : ∀ r ∈ ys, r.length ≤ 1048576)
    (hfit : (frames ys).length ≤ capC n) :
    Calls Tryd.prog 16 #[.pointer (some ⟨lb, 0, none⟩), rv] W fun e w' => PutR n W B sb lb S rs ys e w' := by
  obtain ⟨D, live, x, hD, hL, hSt, hH, hd, hn, hs, hS, hlb, hnl⟩ := h
  have hfit' : (frames ys).length ≤ capN D := by rw [cap_of hn hs]; exact hfit
  have hO : ∀ k, OL S lb k → B ≤ k := fun k hk => hk.elim (hS k) fun e => by omega
  refine reset_of hL hH.lies.area ((put_any hL hD hd hnl hT (fun hk => by have := hS 0 hk; omega) (by omega) hH.fine.n1.1 hH.one hH.mark16 ⟨1 - x.area, 0, 0⟩ (Nat.sub_le _ _) (by simp) hr (fun k hk => ⟨fun hk' => hTd k hk (.inl hk'), fun e => hTd k hk (.inr e)⟩) hrl (any_tooL heach (Nat.le_refl _)) (by simpa using hfit')).mono (R' := fun e w' => PutR n W B sb lb S rs ys e w') ?_) ?_
  · rintro e w' ⟨S', rfl, hD', hL', hM, hnl'⟩
    refine ⟨S', hM, ?_⟩
    have hown := own_mv (S' := S') hO hBz hM fun k hk => .inl hk
    cases hdead : (D.put live ⟨1 - x.area, 0, 0⟩ ys).dead
    · left
      rw [hdead] at hL'
      have hph := put_holds (rs0 := []) hH.fine (lies_nil (Nat.sub_le 1 x.area)) heach (by simpa using hfit') hdead
      exact ⟨by unfold errOf; rw [hdead]; rfl, _, _, _, hD', hL', put_sett hdead, by simpa using hph, hdead, by rw [put_n, hn], by rw [put_size, hs], hown, hlb, hnl'⟩
    · right
      refine ⟨by unfold errOf; rw [hdead]; rfl, _, hD', hdead, fun K => ?_, by rw [put_n, hn], by rw [put_size, hs], hown⟩
      rcases reset_fall hSt hH heach hfit' hdead K with h | h
      · exact ⟨_, _, .inl h⟩
      · exact ⟨_, _, .inr h⟩
  · rintro e w' ⟨_, _, ⟨rfl, _⟩ | ⟨rfl, _⟩⟩
    · exact ⟨_, rfl⟩
    · exact ⟨_, rfl⟩
/-- A Commit without room. -/
theorem full_p {T : Nat → Prop} {rv : Value} {ys : List (List UInt8)} (h : LgP n W B sb lb S rs) (hr : RecsV W T rv ys) (hrl : ys.length ≤ 2147483648) (heach : ∀ r ∈ ys, r.length ≤ 1048576) (hfl : (frames ys).length ≤ 2251799813685248) (hfull : capC n < (frames rs).length + (frames ys).length) :
    Calls Tryd.prog 18 #[.pointer (some ⟨lb, 0, none⟩), rv] W fun e w' => e = .returned (.int .i64 40) ∧ Below W.heap.size W w' := by
  obtain ⟨D, live, x, hD, hL, hSt, hH, hd, hn, hs, hS, hlb, hnl⟩ := h
  have hcap := hH.fine.cap
  have hcl := count_le rs
  have hb := hH.lies.bytes
  have hf := hH.lies.fit
  have hrc := hH.lies.recs
  refine commit_of hL (put_full hL hD hH.fine.n1.1 x hH.lies.area (by omega) hr hrl hfl (any_tooL heach (Nat.le_refl _)) (by rw [cap_of hn hs, hb]; exact hfull)) ?_
  rintro e w' ⟨rfl, _⟩
  exact ⟨_, rfl⟩
end
end Go.Proofs.YtimblkkojcbipaaDoor
/- The walk of WalTwice. -/
namespace Go.Proofs.YtimblkkojcbipaaDoor
open Go Go.RowKit
theorem RecsV.wide {w : World} {S S' : Nat → Prop} {v : Value} {rs : List (List UInt8)} (h : RecsV w S v rs) (hS : ∀ k, S k → S' k) : RecsV w S' v rs := by
  obtain ⟨vs, h1, h2, h3⟩ := h
  exact ⟨vs, h1, h2.wide hS, fun i u r hi hr => ⟨(h3 i u r hi hr).1.wide hS, (h3 i u r hi hr).2⟩⟩
/-- Commit, where it fits and the power is not cut: all is durable then. -/
theorem commit_onP {n B sb lb : Nat} {S : Nat → Prop} {rs : List (List UInt8)} {W : World} {T : Nat → Prop} {rv : Value} {ys : List (List UInt8)} (h : LgC n W B sb lb S rs) (hB : 1 ≤ B) (hBz : B ≤ W.heap.size) (hT : Tab W) (hr : RecsV W T rv ys) (hTd : ∀ k, T k → ¬ OL S lb k) (hrl : ys.length ≤ 2147483648) (heach : ∀ r ∈ ys, r.length ≤ 1048576)
    (hfit : (frames rs).length + (frames ys).length ≤ capC n) :
    Calls Tryd.prog 18 #[.pointer (some ⟨lb, 0, none⟩), rv] W fun e w' => e = .returned (.int .i64 0) ∧ ∃ S', LgP n w' B sb lb S' (rs ++ ys) ∧ Mv W (OL S lb) w' (OL S' lb) := by
  obtain ⟨D, live, x, h, hn, hs⟩ := h
  have hlb := h.low
  have hO : ∀ k, OL S lb k → B ≤ k := fun k hk => hk.elim (h.own k) fun e => by omega
  refine (commit_on h.log h.disk h.on h.holds h.nlb hT (fun hk => by have := h.own 0 hk; omega) (by omega) hr (fun k hk => ⟨fun hk' => hTd k hk (.inl hk'), fun e => hTd k hk (.inr e)⟩) hrl heach (by rw [h.holds.lies.bytes, cap_of hn hs]; exact hfit)).mono ?_
  rintro e w' ⟨he, S', h1, h2, h3, h4, h5, h6⟩
  exact ⟨he, S', ⟨_, _, _, h1, h2, put_sett h3.1, h4, h3.1, by rw [put_n, hn], by rw [put_size, hs], own_mv hO hBz h5 fun k hk => .inl hk, hlb, h6⟩, h5⟩
def EndR (ev : Int) (r X Y : List (List UInt8)) : Prop := (ev = 0 ∧ r = X ++ Y) ∨ (ev = 32 ∧ (r = X ∨ r = X ++ Y))
set_option maxRecDepth 100000 in
set_option maxHeartbeats 1000000 in
theorem twice_any {w : World} {v0 v1 : Value} {l0 l1 : List UInt8} {cut again : Nat} {keep more : Int} (h0 : BytesV w w.heap.size v0 l0) (h1 : BytesV w w.heap.size v1 l1) (hc : cut < 256) (hg : again < 256) (hkp : 0 ≤ keep ∧ keep ≤ 18446744073709551615) (hmr : 0 ≤ more ∧ more ≤ 18446744073709551615) (hT : Tab w) (hz : 1 ≤ w.heap.size) :
    Calls Tryd.prog 5 #[v0, v1, .int .u8 cut, .int .u8 again, .int .u64 keep, .int .u64 more] w fun e w' => e = .returned (.bool true) ∧ Below w.heap.size w w' := by
  have hk := known4 hT hz
  have a0 := h0.arg
  have a1 := h1.arg
  obtain ⟨A0, c0, rfl, m0, m0', -⟩ := h0
  obtain ⟨A1, c1, rfl, m1, m1', -⟩ := h1
  have m0' : c0 ≤ 9223372036854775807 := by unfold maxLen at m0'; exact m0'
  have m1' : c1 ≤ 9223372036854775807 := by unfold maxLen at m1'; exact m1'
  have hT0 := hide hT
  obtain ⟨qc, hqc⟩ : ∃ q, q = cut % 12 := ⟨_, rfl⟩
  obtain ⟨qa, hqa⟩ : ∃ q, q = again % 6 := ⟨_, rfl⟩
  have hqc2 : (cut : Int) % 12 = (qc : Nat) := by omega
  have hqa2 : (again : Int) % 6 = (qa : Nat) := by omega
  have hqc3 : qc < 12 := by omega
  have hqa3 : qa < 6 := by omega
  replace hqc := hide hqc
  replace hqa := hide hqa
  replace a0 := hide a0
  replace a1 := hide a1
  replace hkp := hide hkp
  replace hmr := hide hmr
  clear hT
  go_enter Tryd.func5, Tryd.ntmps5
  go_wp2_with fail
  refine hk.mono ?_
  rintro e w1 ⟨rfl, hb1⟩
  replace hb1 := hide hb1
  clear hk
  by_cases q1 : 6 < l0.length
  · go_wp2_with fail
    go_ret
    exact ⟨rfl, hb1.out⟩
  by_cases q2 : 6 < l1.length
  · go_wp2_with fail
    go_ret
    exact ⟨rfl, hb1.out⟩
  have z1 := hb1.out.size
  have hn1 := new_dk w1 120 (by decide) (by decide)
  go_wp2_with fail
  refine hn1.mono ?_
  rintro e w2 ⟨sb, S2, rfl, hd2, hb12⟩
  have z12 := hb12.size
  have hb2 := hb1.out.trans (hb12.mono z1)
  have z2 := hb2.size
  have ho2 := open_dk hd2 (by omega) z12 (hT0.out.below hz hb2)
  replace hb2 := hide hb2
  replace hd2 := hide hd2
  clear hn1 hb12
  go_wp2_with fail
  refine ho2.mono ?_
  rintro e w3 ⟨lb, v, S3, rfl, hl3, -, -, hlb, hm3⟩
  have hb3 := below_mv hb2.out hm3 z2 fun k hk => Nat.le_trans z1 (hd2.out.ge hk)
  have z3 := hb3.size
  have z13 : w1.heap.size ≤ w3.heap.size := Nat.le_trans z12 hm3.1.size
  have hba := batch_any (a0.out.upd (Upd.of_below (fun _ => False) hb3) fun _ _ => id) 1 (by omega) (by omega)
  replace hb3 := hide hb3
  replace hl3 := hide hl3
  clear ho2 hd2 hm3
  go_wp2_with fail
  refine hba.mono ?_
  rintro e w4 ⟨v4, rfl, hv4, hb34⟩
  clear hba
  have z34 := hb34.size
  have hb4 := hb3.out.trans (hb34.mono z3)
  have hba := batch_any (a1.out.upd (Upd.of_below (fun _ => False) hb4) fun _ _ => id) 2 (by omega) (by omega)
  have hl4 := hl3.out.upd (Upd.of_below (fun _ => False) hb34) fun _ _ => id
  have hxf := batch_frames 1 l0
  have hxs := batch_short 1 l0
  have hxl := batchL_len 1 l0 l0.length
  obtain ⟨X, hX⟩ : ∃ X, X = batchL 1 l0 l0.length := ⟨_, rfl⟩
  rw [← hX] at hxf hxs hxl hv4
  obtain ⟨AX, cX, rfl, hcX⟩ := hv4.len
  have hrx := hv4.recsV
  obtain ⟨T, hTT⟩ : ∃ T : Nat → Prop, T = fun k => w3.heap.size ≤ k := ⟨_, rfl⟩
  replace hrx : RecsV w4 T (.slice AX X.length cX) X := hrx.wide fun k hk => by rw [hTT]; exact hk.1
  unfold maxLen at hcX
  replace hb4 := hide hb4
  replace hl4 := hide hl4
  replace hrx := hide hrx
  replace hX := hide hX
  replace hxs := hide hxs
  replace hxl := hide hxl
  clear hv4 hb34
  go_wp2_with fail
  refine hba.mono ?_
  rintro e w5 ⟨v5, rfl, hv5, hb45⟩
  clear hba
  have z45 := hb45.size
  have hU45 := Upd.of_below (fun _ => False) hb45
  have hb5 := hb4.out.trans (hb45.mono hb4.out.size)
  have hl5 := hl4.out.upd hU45 fun _ _ => id
  have hrx5 := hrx.out.upd hU45 fun _ _ => id
  have hyf := batch_frames 2 l1
  have hys := batch_short 2 l1
  have hyl := batchL_len 2 l1 l1.length
  obtain ⟨Y, hY⟩ : ∃ Y, Y = batchL 2 l1 l1.length := ⟨_, rfl⟩
  rw [← hY] at hyf hys hyl hv5
  obtain ⟨AY, cY, rfl, hcY⟩ := hv5.len
  have hry := hv5.recsV
  replace hry : RecsV w5 T (.slice AY Y.length cY) Y := hry.wide fun k hk => by rw [hTT]; exact Nat.le_trans z34 hk.1
  unfold maxLen at hcY
  obtain ⟨T5, hT5⟩ : ∃ T5 : Nat → Prop, T5 = fun k => T k ∧ k < w5.heap.size := ⟨_, rfl⟩
  replace hrx5 : RecsV w5 T5 (.slice AX X.length cX) X := by rw [hT5]; exact hrx5.low
  replace hry : RecsV w5 T5 (.slice AY Y.length cY) Y := by rw [hT5]; exact hry.low
  have hTo : ∀ k, T5 k → k < w5.heap.size := fun k hk => by rw [hT5] at hk; exact hk.2
  have hTS : ∀ k, T5 k → ¬ OL S3 lb k := fun k hk h => by rw [hT5, hTT] at hk; have := hl3.out.old h; omega
  have e120 : capC 120 = 14848 := by decide
  have e0 : (frames ([] : List (List UInt8))).length = 0 := rfl
  have hcm := commit_onP hl5 (by omega) (by omega) (hT0.out.below hz hb5) hrx5 hTS (by have := hxl.out; omega) hxs.out (by omega)
  replace hb5 := hide hb5
  replace hl5 := hide hl5
  replace hrx5 := hide hrx5
  replace hry := hide hry
  replace hY := hide hY
  replace hys := hide hys
  replace hyl := hide hyl
  replace hT5 := hide hT5
  replace hTT := hide hTT
  replace hTS := hide hTS
  replace hTo := hide hTo
  clear hv5 hb45 hU45 hl4 hl3 hrx e0
  go_wp2_with fail
  refine hcm.mono ?_
  rintro e w6 ⟨rfl, S6, hl6, hm6⟩
  rw [List.nil_append] at hl6
  clear hcm
  have z6 := hm6.1.size
  have hb6 := below_mv hb5.out hm6 hb5.out.size fun k hk => by have := hl5.out.ge hk; omega
  have hrx6 := hrx5.out.upd hm6.1 hTS.out
  have hry6 := hry.out.upd hm6.1 hTS.out
  have hTS6 : ∀ k, T5 k → ¬ OL S6 lb k := fun k hk h => (hm6.2 k h).elim (hTS.out k hk) fun h => by have := hTo.out k hk; omega
  have hct := cut_lgP hl6 qc (by omega)
  replace hb6 := hide hb6
  replace hl6 := hide hl6
  replace hrx6 := hide hrx6
  replace hry6 := hide hry6
  replace hTS6 := hide hTS6
  clear hm6 hl5 hrx5 hry hTS
  go_wp2_with fail
  refine hct.mono ?_
  rintro e w7 ⟨rfl, hl7, hU7⟩
  clear hct
  have z7 := hU7.size
  have hb7 := hb6.out.trans (hU7.below (B := w.heap.size) hb6.out.size fun k hk => by have := hl6.out.ge (.inl hk); omega)
  have hrx7 := hrx6.out.upd hU7 fun k hk h => hTS6.out k hk (.inl h)
  have hry7 := hry6.out.upd hU7 fun k hk h => hTS6.out k hk (.inl h)
  have hcm := commit_p hl7 (by omega) (by omega) (hT0.out.below hz hb7) hry7 hTS6.out (by have := hyl.out; omega) hys.out (by omega)
  replace hb7 := hide hb7
  replace hl7 := hide hl7
  replace hrx7 := hide hrx7
  replace hry7 := hide hry7
  clear hU7 hrx6 hry6 hl6 hb6
  go_wp2_with fail
  refine hcm.mono ?_
  rintro e w8 ⟨S8, hm8, hR⟩
  clear hcm
  have z8 := hm8.1.size
  have hb8 := below_mv hb7.out hm8 hb7.out.size fun k hk => by have := hl7.out.ge hk; omega
  have hrx8 := hrx7.out.upd hm8.1 hTS6.out
  have hry8 := hry7.out.upd hm8.1 hTS6.out
  have hTS8 : ∀ k, T5 k → ¬ S8 k := fun k hk h => (hm8.2 k (.inl h)).elim (hTS6.out k hk) fun h => by have := hTo.out k hk; omega
  have hS8 : ∀ k, S8 k → w1.heap.size ≤ k := own_mv (fun k hk => hl7.out.ge hk) (by omega) hm8 fun k hk => .inl hk
  obtain ⟨ev, rfl, hev⟩ : ∃ ev : Int, e = .returned (.int .i64 ev) ∧ ∀ (w' : World) (keep : Int), (0 ≤ keep ∧ keep ≤ 18446744073709551615) → w' = w8 → Calls Tryd.prog 22 #[.pointer (some ⟨sb, 0, none⟩), .int .u64 keep, .int .i64 (-1), .int .i64 0] w8 fun e w' => e = .returned (.tuple #[]) ∧ ∃ S' r, EndR ev r X Y ∧ DkP DS.on 120 w' w1.heap.size sb S' r ∧ Mv w8 S8 w' S' := by
    rcases hR with ⟨rfl, hl⟩ | ⟨rfl, ht⟩
    · refine ⟨0, rfl, fun w' keep hk _ => (crash_dkP hl.dk (by omega) keep 0 hk).mono ?_⟩
      rintro e w' ⟨he, S', h1, h2⟩
      exact ⟨he, S', _, .inl ⟨rfl, rfl⟩, h1, h2⟩
    · refine ⟨32, rfl, fun w' keep hk _ => (crash_tnP ht (by omega) keep 0 hk).mono ?_⟩
      rintro e w' ⟨he, S', r, hr, h1, h2⟩
      exact ⟨he, S', r, .inr ⟨rfl, hr⟩, h1, h2⟩
  have hcr := hev w8 keep hkp.out rfl
  replace hb8 := hide hb8
  replace hrx8 := hide hrx8
  replace hry8 := hide hry8
  replace hTS8 := hide hTS8
  replace hS8 := hide hS8
  clear hR hev hm8 hl7 hrx7 hry7 hb7
  go_wp2_with fail
  refine hcr.mono ?_
  rintro e w9 ⟨rfl, S9, r, hend, hd9, hm9⟩
  clear hcr
  have z9 := hm9.1.size
  have hb9 := below_mv hb8.out hm9 hb8.out.size fun k hk => by have := hS8.out k hk; omega
  have hrx9 := hrx8.out.upd hm9.1 hTS8.out
  have hry9 := hry8.out.upd hm9.1 hTS8.out
  have hTS9 : ∀ k, T5 k → ¬ S9 k := fun k hk h => (hm9.2 k h).elim (hTS8.out k hk) fun h => by have := hTo.out k hk; omega
  have hct := cut_dkP hd9 qa (by omega)
  replace hb9 := hide hb9
  replace hrx9 := hide hrx9
  replace hry9 := hide hry9
  replace hTS9 := hide hTS9
  replace hend := hide hend
  replace hd9 := hide hd9
  clear hm9 hrx8 hry8 hb8
  go_wp2_with fail
  refine hct.mono ?_
  rintro e w10 ⟨rfl, hd10, hU10⟩
  clear hct
  have z10 := hU10.size
  have hb10 := hb9.out.trans (hU10.below (B := w.heap.size) hb9.out.size fun k hk => by have := hd9.out.ge hk; omega)
  have hrx10 := hrx9.out.upd hU10 hTS9.out
  have hry10 := hry9.out.upd hU10 hTS9.out
  have ho := open_upP hd10 (by omega) (by omega) (hT0.out.below hz hb10)
  replace hb10 := hide hb10
  replace hrx10 := hide hrx10
  replace hry10 := hide hry10
  replace hd10 := hide hd10
  clear hU10 hrx9 hry9 hb9 hd9
  go_wp2_with fail
  refine ho.mono ?_
  rintro e w11 ⟨vv, S11, rfl, hd11, hm11⟩
  clear ho
  have z11 := hm11.1.size
  have hb11 := below_mv hb10.out hm11 hb10.out.size fun k hk => by have := hd10.out.ge hk; omega
  have hrx11 := hrx10.out.upd hm11.1 hTS9.out
  have hry11 := hry10.out.upd hm11.1 hTS9.out
  have hTS11 : ∀ k, T5 k → ¬ S11 k := fun k hk h => (hm11.2 k h).elim (hTS9.out k hk) fun h => by have := hTo.out k hk; omega
  have hcr := crash_dkP hd11 (by omega) more 0 hmr.out
  replace hb11 := hide hb11
  replace hrx11 := hide hrx11
  replace hry11 := hide hry11
  replace hTS11 := hide hTS11
  replace hd11 := hide hd11
  clear hm11 hrx10 hry10 hb10 hd10
  go_wp2_with fail
  refine hcr.mono ?_
  rintro e w12 ⟨rfl, S12, hd12, hm12⟩
  clear hcr
  have z12' := hm12.1.size
  have hb12 := below_mv hb11.out hm12 hb11.out.size fun k hk => by have := hd11.out.ge hk; omega
  have hrx12 := hrx11.out.upd hm12.1 hTS11.out
  have hry12 := hry11.out.upd hm12.1 hTS11.out
  have hTS12 : ∀ k, T5 k → ¬ S12 k := fun k hk h => (hm12.2 k h).elim (hTS11.out k hk) fun h => by have := hTo.out k hk; omega
  have ho := open_onP hd12 (by omega) (by omega) (hT0.out.below hz hb12)
  replace hb12 := hide hb12
  replace hrx12 := hide hrx12
  replace hry12 := hide hry12
  replace hTS12 := hide hTS12
  replace hd12 := hide hd12
  clear hm12 hrx11 hry11 hb11 hd11
  go_wp2_with fail
  refine ho.mono ?_
  rintro e w13 ⟨lc, v13, S13, rfl, -, hx13, -, hlc, hm13⟩
  clear ho
  have z13' := hm13.1.size
  have hb13 := below_mv hb12.out hm13 hb12.out.size fun k hk => by have := hd12.out.ge hk; omega
  have hrx13 := hrx12.out.upd hm13.1 hTS12.out
  have hry13 := hry12.out.upd hm13.1 hTS12.out
  obtain ⟨v14, w14, v15, w15, r14, r15, hU15, hcc⟩ := cat_recs hrx13 hry13 (by have := hxl.out; have := hyl.out; omega) 28 28
  have hb15 := hb13.trans (hU15.below hb13.size fun _ h => h.elim)
  have hx15 := hx13.recsW.upd hU15 fun _ _ => id
  have hrx15 := (hrx13.upd hU15 fun _ _ => id).recsW
  have hcc' := hcc.recsW
  obtain ⟨A13, c13, rfl, -⟩ := hx13.slice
  replace hb15 := hide hb15
  replace hx15 := hide hx15
  replace hrx15 := hide hrx15
  replace hcc' := hide hcc'
  replace r14 := hide r14
  replace r15 := hide r15
  clear hm13 hrx12 hry12 hb12 hd12 hx13 hrx13 hry13 hcc hU15 hb13
  by_cases he0 : ev = 0
  · subst he0
    have hrr : r = X ++ Y := by
      rcases hend.out with ⟨_, h⟩ | ⟨h, _⟩
      · exact h
      · cases h
    have hsm := same_any hx15.out hcc'.out
    rw [decide_eq_true hrr] at hsm
    replace hrr := hide hrr
    go_wp2_with (at_builtin; first | refine wp_append_run rfl (.const (.slice none 0 0)) (.tmp 84) 28 28 rfl _ _ _ rfl rfl r14.out ?_ | refine wp_append_run rfl (.tmp 85) (.tmp 86) 28 28 rfl _ _ _ rfl rfl r15.out ?_)
    refine hsm.mono ?_
    rintro e w16 ⟨rfl, hb16⟩
    have hb17 := hide (hb15.out.trans (hb16.mono hb15.out.size))
    clear hsm hb16
    go_wp2_with fail
    go_ret
    exact ⟨rfl, hb17.out⟩
  · have hor : ev = 32 ∧ (r = X ∨ r = X ++ Y) := by
      rcases hend.out with ⟨h, _⟩ | h
      · exact absurd h he0
      · exact h
    obtain ⟨rfl, hor⟩ := hor
    clear he0
    by_cases hx : r = X
    · have hsm := same_any hx15.out hrx15.out
      rw [decide_eq_true hx] at hsm
      replace hx := hide hx
      replace hor := hide hor
      go_wp2_with (at_builtin; first | refine wp_append_run rfl (.const (.slice none 0 0)) (.tmp 84) 28 28 rfl _ _ _ rfl rfl r14.out ?_ | refine wp_append_run rfl (.tmp 85) (.tmp 86) 28 28 rfl _ _ _ rfl rfl r15.out ?_)
      refine hsm.mono ?_
      rintro e w16 ⟨rfl, hb16⟩
      have hb17 := hide (hb15.out.trans (hb16.mono hb15.out.size))
      clear hsm hb16
      go_wp2_with fail
      go_ret
      exact ⟨rfl, hb17.out⟩
    · have hsm := same_any hx15.out hrx15.out
      rw [decide_eq_false hx] at hsm
      have hr2 := hor.resolve_left hx
      replace hx := hide hx
      replace hor := hide hor
      replace hr2 := hide hr2
      go_wp2_with (at_builtin; first | refine wp_append_run rfl (.const (.slice none 0 0)) (.tmp 84) 28 28 rfl _ _ _ rfl rfl r14.out ?_ | refine wp_append_run rfl (.tmp 85) (.tmp 86) 28 28 rfl _ _ _ rfl rfl r15.out ?_)
      refine hsm.mono ?_
      rintro e w16 ⟨rfl, hb16⟩
      have hU16 := Upd.of_below (fun _ => False) hb16
      have hb17 := hide (hb15.out.trans (hb16.mono hb15.out.size))
      have hsm2 := same_any (hx15.out.upd hU16 fun _ _ => id) (hcc'.out.upd hU16 fun _ _ => id)
      rw [decide_eq_true hr2.out] at hsm2
      clear hsm hb16 hU16
      go_wp2_with fail
      refine hsm2.mono ?_
      rintro e w18 ⟨rfl, hb18⟩
      have hb19 := hide (hb17.out.trans (hb18.mono hb17.out.size))
      clear hsm2 hb18
      go_wp2_with fail
      go_ret
      exact ⟨rfl, hb19.out⟩
theorem twice_int {w : World} {v0 v1 : Value} {l0 l1 : List UInt8} {cut again keep more : Int} (h0 : BytesV w w.heap.size v0 l0) (h1 : BytesV w w.heap.size v1 l1) (hc : 0 ≤ cut ∧ cut ≤ 255) (hg : 0 ≤ again ∧ again ≤ 255) (hkp : 0 ≤ keep ∧ keep ≤ 18446744073709551615) (hmr : 0 ≤ more ∧ more ≤ 18446744073709551615) (hT : Tab w) (hz : 1 ≤ w.heap.size) :
    Calls Tryd.prog 5 #[v0, v1, .int .u8 cut, .int .u8 again, .int .u64 keep, .int .u64 more] w fun e w' => e = .returned (.bool true) ∧ Below w.heap.size w w' := by
  obtain ⟨k, rfl⟩ : ∃ k : Nat, cut = k := ⟨cut.toNat, by omega⟩
  obtain ⟨m, rfl⟩ : ∃ k : Nat, again = k := ⟨again.toNat, by omega⟩
  exact twice_any h0 h1 (by omega) (by omega) hkp hmr hT hz
end Go.Proofs.YtimblkkojcbipaaDoor
