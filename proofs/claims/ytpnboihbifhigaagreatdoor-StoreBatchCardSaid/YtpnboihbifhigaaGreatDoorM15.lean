/- Part 15 of the walks (merged): Power, CdCode, CdWriter, CdWriter2, CdWriter3, CdReader, CdReadNum. -/
import Derived.Test.YtpnboihbifhigaaGreatDoorM14
import Derived.Test.YtpnboihbifhigaaGreatDoorM1
import Derived.Laws.BitsAllLaws
import Derived.Test.YtpnboihbifhigaaGreatDoorRows
import Derived.WalkSpells
import Derived.WalkLawsBesides
import Derived.Handy
import Derived.Lib.AppendStr
import Derived.Recover
/- A log on a disk whose power may fail, as the laws hold it. -/
namespace Go.Proofs.YtpnboihbifhigaaGreatDoor
open Go Go.RowKit
/-- A disk of n sectors of 256 bytes, all of it durable, that holds rs; of its power pw is said. -/
def DkP (pw : DS → Prop) (n : Nat) (w : World) (B sb : Nat) (S : Nat → Prop) (rs : List (List UInt8)) : Prop :=
  ∃ D live x, DiskV w sb S D ∧ Sett D ∧ Holds D live x rs ∧ pw D ∧ D.n = n ∧ D.size = 256 ∧ ∀ k, S k → B ≤ k
def Up (D : DS) : Prop := D.dead = false
def AnyPw (_ : DS) : Prop := True
/-- A log there, its power not gone yet. -/
def LgP (n : Nat) (w : World) (B sb lb : Nat) (S : Nat → Prop) (rs : List (List UInt8)) : Prop :=
  ∃ D live x, DiskV w sb S D ∧ LogV w lb sb live x ∧ Sett D ∧ Holds D live x rs ∧ D.dead = false ∧ D.n = n ∧ D.size = 256 ∧ (∀ k, S k → B ≤ k) ∧ B ≤ lb ∧ ¬ S lb
/-- A disk whose power failed in a put: what it leaves are rs or rs'. -/
def TnP (n : Nat) (w : World) (B sb : Nat) (S : Nat → Prop) (rs rs' : List (List UInt8)) : Prop :=
  ∃ D, DiskV w sb S D ∧ D.dead = true ∧ (∀ K, ∃ live x, Holds (D.fall K) live x rs ∨ Holds (D.fall K) live x rs') ∧ D.n = n ∧ D.size = 256 ∧ ∀ k, S k → B ≤ k
section
variable {n B sb lb : Nat} {S : Nat → Prop} {rs : List (List UInt8)} {w w' W : World}
theorem LgP.dk (h : LgP n w B sb lb S rs) : DkP Up n w B sb S rs := by
  obtain ⟨D, live, x, h1, h2, h3, h4, h5, h6, h7, h8, _⟩ := h
  exact ⟨D, live, x, h1, h3, h4, h5, h6, h7, h8⟩
theorem DkP.weak {pw pw' : DS → Prop} (h : DkP pw n w B sb S rs) (hp : ∀ D, pw D → pw' D) : DkP pw' n w B sb S rs := by
  obtain ⟨D, live, x, h1, h3, h4, h5, h6⟩ := h
  exact ⟨D, live, x, h1, h3, h4, hp D h5, h6⟩
theorem LgP.upd {F : Nat → Prop} (h : LgP n w B sb lb S rs) (hu : Upd F w w') (hF : ∀ k, OL S lb k → ¬ F k) : LgP n w' B sb lb S rs := by
  obtain ⟨D, live, x, h1, h2, h3⟩ := h
  exact ⟨D, live, x, h1.upd hu fun k hk => hF k (.inl hk), hu.heap h2 (hF _ (.inr rfl)), h3⟩
theorem DkP.upd {pw : DS → Prop} {F : Nat → Prop} (h : DkP pw n w B sb S rs) (hu : Upd F w w') (hF : ∀ k, S k → ¬ F k) : DkP pw n w' B sb S rs := by
  obtain ⟨D, live, x, h1, h2⟩ := h
  exact ⟨D, live, x, h1.upd hu hF, h2⟩
theorem TnP.upd {F : Nat → Prop} {rs' : List (List UInt8)} (h : TnP n w B sb S rs rs') (hu : Upd F w w') (hF : ∀ k, S k → ¬ F k) : TnP n w' B sb S rs rs' := by
  obtain ⟨D, h1, h2⟩ := h
  exact ⟨D, h1.upd hu hF, h2⟩
theorem LgP.ge (h : LgP n w B sb lb S rs) {k : Nat} (hk : OL S lb k) : B ≤ k := by
  obtain ⟨D, live, x, h1, h2, h3, h4, h5, h6, h7, h8, h9, _⟩ := h
  rcases hk with hk | rfl
  · exact h8 k hk
  · exact h9
theorem LgP.old (h : LgP n w B sb lb S rs) {k : Nat} (hk : OL S lb k) : k < w.heap.size := by
  obtain ⟨D, live, x, h1, h2, _⟩ := h
  rcases hk with hk | rfl
  · exact h1.old k hk
  · exact (Array.getElem?_eq_some_iff.1 h2).1
theorem DkP.ge {pw : DS → Prop} (h : DkP pw n w B sb S rs) {k : Nat} (hk : S k) : B ≤ k := by
  obtain ⟨D, live, x, _, _, _, _, _, _, h1⟩ := h
  exact h1 k hk
theorem DkP.old {pw : DS → Prop} (h : DkP pw n w B sb S rs) {k : Nat} (hk : S k) : k < w.heap.size := by
  obtain ⟨D, live, x, h, _⟩ := h
  exact h.old k hk
theorem TnP.ge {rs' : List (List UInt8)} (h : TnP n w B sb S rs rs') {k : Nat} (hk : S k) : B ≤ k := by
  obtain ⟨D, _, _, _, _, _, h1⟩ := h
  exact h1 k hk
theorem TnP.old {rs' : List (List UInt8)} (h : TnP n w B sb S rs rs') {k : Nat} (hk : S k) : k < w.heap.size := by
  obtain ⟨D, h, _⟩ := h
  exact h.old k hk
theorem own_mv {S' O O' : Nat → Prop} (hS : ∀ k, O k → B ≤ k) (hz : B ≤ w.heap.size) (hm : Mv w O w' O') (hs : ∀ k, S' k → O' k) : ∀ k, S' k → B ≤ k := fun k hk => (hm.2 k (hs k hk)).elim (hS k) fun h => by omega
theorem opened_sett {D : DS} (h : D.opened.dead = false) : Sett D.opened := by
  unfold DS.opened at h ⊢
  split
  · rename_i t e
    rw [e] at h
    rcases flush_cases D with h1 | h1
    · rw [h1.1] at h; cases h
    · exact h1.2.1
  · rename_i e
    rw [e] at h
    rcases flush_cases D.format with h1 | h1
    · rw [h1.1] at h; cases h
    · exact h1.2.1
/-- A new disk, opened. -/
theorem open_newP (h : DkC n W B sb S rs) (hB : 1 + 1 ≤ B) (hBz : B ≤ W.heap.size) (hT : Tab W) :
    Calls Tryz.prog 28 #[.pointer (some ⟨sb, 0, none⟩)] W fun e w' => ∃ lb v S', e = .returned (.tuple #[.pointer (some ⟨lb, 0, none⟩), v, .int .i64 0]) ∧ LgP n w' B sb lb S' rs ∧ RecsO w' W.heap.size v rs ∧ (∀ k, Own v k → k ≠ lb) ∧ W.heap.size ≤ lb ∧ Mv W S w' S' := by
  obtain ⟨D, live, x, hD, hon, hf, hn, hs, hH, hS⟩ := h
  refine (open_on hD hon hf hT (fun h => by have := hS 1 h; omega) (by omega) hH).mono ?_
  rintro e w' ⟨lb, v, S', he, h1, h2, h3, h4, h5, h6, h7, h8, h9⟩
  exact ⟨lb, v, S', he, ⟨_, live, x, h1, h6, opened_sett h2.1, h3, h2.1, by rw [opened_n, hn], by rw [opened_size, hs], own_mv hS hBz h9 fun _ => id, by omega, h5⟩, h7, h8, h4, h9⟩
/-- A disk that is whole, its power not cut, opened. -/
theorem open_onP (h : DkP DS.on n W B sb S rs) (hB : 1 + 1 ≤ B) (hBz : B ≤ W.heap.size) (hT : Tab W) :
    Calls Tryz.prog 28 #[.pointer (some ⟨sb, 0, none⟩)] W fun e w' => ∃ lb v S', e = .returned (.tuple #[.pointer (some ⟨lb, 0, none⟩), v, .int .i64 0]) ∧ LgP n w' B sb lb S' rs ∧ RecsO w' W.heap.size v rs ∧ (∀ k, Own v k → k ≠ lb) ∧ W.heap.size ≤ lb ∧ Mv W S w' S' := by
  obtain ⟨D, live, x, hD, hSt, hH, hon, hn, hs, hS⟩ := h
  exact open_newP ⟨D, live, x, hD, hon, hH.fine, hn, hs, .inl hH, hS⟩ hB hBz hT
/-- The same, with power that may fail: whatever comes of it, all is as it was. -/
theorem open_upP (h : DkP Up n W B sb S rs) (hB : 1 + 1 ≤ B) (hBz : B ≤ W.heap.size) (hT : Tab W) :
    Calls Tryz.prog 28 #[.pointer (some ⟨sb, 0, none⟩)] W fun e w' => ∃ v S', e = .returned v ∧ DkP AnyPw n w' B sb S' rs ∧ Mv W S w' S' := by
  obtain ⟨D, live, x, hD, hSt, hH, hd, hn, hs, hS⟩ := h
  refine (open_any hD hd hT (fun h => by have := hS 1 h; omega) (by omega) hH.fine.n1.1 hH.fine.s1.1).mono ?_
  rintro e w' ⟨S', h1, h2, h3⟩
  have hop : D.opened = D.flush := by unfold DS.opened; rw [hH.find]
  obtain ⟨f1, f2⟩ := sett_flush hSt hH
  rw [← hop] at f1 f2
  have hk : DkP AnyPw n w' B sb S' rs := ⟨_, live, x, h1, f1, f2, trivial, by rw [opened_n, hn], by rw [opened_size, hs], own_mv hS hBz h2 fun _ => id⟩
  rcases h3 with ⟨-, rfl⟩ | ⟨-, lb, v, rfl, -⟩
  · exact ⟨_, S', rfl, hk, h2⟩
  · exact ⟨_, S', rfl, hk, h2⟩
theorem cut_sett {D : DS} (k : Nat) (h : Sett D) : Sett (D.cut k) := h
theorem cut_holds {D : DS} {live : Nat} {x : Ext} (k : Nat) (h : Holds D live x rs) : Holds (D.cut k) live x rs := h.congr rfl rfl fun _ => rfl
theorem cut_lgP (h : LgP n W B sb lb S rs) (k : Nat) (hk : k ≤ 1000000) : Calls Tryz.prog 18 #[.pointer (some ⟨sb, 3, none⟩), .int .i64 k] W fun e w' => e = .returned (.tuple #[]) ∧ LgP n w' B sb lb S rs ∧ Upd S W w' := by
  obtain ⟨D, live, x, h1, h2, h3, h4, h5, h6, h7, h8, h9, h10⟩ := h
  refine (cut_any h1 k hk).mono ?_
  rintro e w' ⟨he, hc, hu⟩
  exact ⟨he, ⟨D.cut k, live, x, hc, hu.heap h2 h10, cut_sett k h3, cut_holds k h4, h5, h6, h7, h8, h9, h10⟩, hu⟩
theorem cut_dkP (h : DkP DS.on n W B sb S rs) (k : Nat) (hk : k ≤ 1000000) : Calls Tryz.prog 18 #[.pointer (some ⟨sb, 3, none⟩), .int .i64 k] W fun e w' => e = .returned (.tuple #[]) ∧ DkP Up n w' B sb S rs ∧ Upd S W w' := by
  obtain ⟨D, live, x, h1, h3, h4, h5, h6⟩ := h
  refine (cut_any h1 k hk).mono ?_
  rintro e w' ⟨he, hc, hu⟩
  exact ⟨he, ⟨D.cut k, live, x, hc, cut_sett k h3, cut_holds k h4, h5.1, h6⟩, hu⟩
theorem crash_dkP {pw : DS → Prop} (h : DkP pw n W B sb S rs) (hBz : B ≤ W.heap.size) (keep at_ : Int) (hk0 : 0 ≤ keep ∧ keep ≤ 18446744073709551615) : Calls Tryz.prog 20 #[.pointer (some ⟨sb, 0, none⟩), .int .u64 keep, .int .i64 (-1), .int .i64 at_] W fun e w' => e = .returned (.tuple #[]) ∧ ∃ S', DkP DS.on n w' B sb S' rs ∧ Mv W S w' S' := by
  obtain ⟨D, live, x, h1, h3, h4, h5, h6, h7, h8⟩ := h
  refine (crash_any h1 keep at_ hk0).mono ?_
  rintro e w' ⟨he, S', K, hc, hm⟩
  exact ⟨he, S', ⟨D.fall K, live, x, hc, fun _ => rfl, sett_fall h3 h4 K, ⟨rfl, rfl⟩, h6, h7, own_mv h8 hBz hm fun _ => id⟩, hm⟩
theorem crash_tnP {rs' : List (List UInt8)} (h : TnP n W B sb S rs rs') (hBz : B ≤ W.heap.size) (keep at_ : Int) (hk0 : 0 ≤ keep ∧ keep ≤ 18446744073709551615) : Calls Tryz.prog 20 #[.pointer (some ⟨sb, 0, none⟩), .int .u64 keep, .int .i64 (-1), .int .i64 at_] W fun e w' => e = .returned (.tuple #[]) ∧ ∃ S' r, (r = rs ∨ r = rs') ∧ DkP DS.on n w' B sb S' r ∧ Mv W S w' S' := by
  obtain ⟨D, h1, h3, h4, h6, h7, h8⟩ := h
  refine (crash_any h1 keep at_ hk0).mono ?_
  rintro e w' ⟨he, S', K, hc, hm⟩
  obtain ⟨live, x, hh | hh⟩ := h4 K
  · exact ⟨he, S', _, .inl rfl, ⟨D.fall K, live, x, hc, fun _ => rfl, hh, ⟨rfl, rfl⟩, h6, h7, own_mv h8 hBz hm fun _ => id⟩, hm⟩
  · exact ⟨he, S', _, .inr rfl, ⟨D.fall K, live, x, hc, fun _ => rfl, hh, ⟨rfl, rfl⟩, h6, h7, own_mv h8 hBz hm fun _ => id⟩, hm⟩
theorem dead_tnP {rs' : List (List UInt8)} (h : TnP n W B sb S rs rs') : Calls Tryz.prog 174 #[.pointer (some ⟨sb, 3, none⟩)] W fun e w' => e = .returned (.bool true) ∧ W = w' := by
  obtain ⟨D, h1, h3, _⟩ := h
  have := dead_anyV h1
  rw [h3] at this
  exact this
/-- What a put that may be cut comes to. -/
def PutR (n : Nat) (W : World) (B sb lb : Nat) (S : Nat → Prop) (rs rs' : List (List UInt8)) (e : Ending) (w' : World) : Prop :=
  ∃ S', Mv W (OL S lb) w' (OL S' lb) ∧ ((e = .returned (.int .i64 0) ∧ LgP n w' B sb lb S' rs') ∨ (e = .returned (.int .i64 32) ∧ TnP n w' B sb S' rs rs'))
theorem commit_p {T : Nat → Prop} {rv : Value} {ys : List (List UInt8)} (h : LgP n W B sb lb S rs) (hB : 1 + 1 ≤ B) (hBz : B ≤ W.heap.size) (hT : Tab W) (hr : RecsV W T rv ys) (hTd : ∀ k, T k → ¬ OL S lb k) (hrl : ys.length ≤ 2147483648) (heach : ∀ r ∈ ys, r.length ≤ 1048576)
    (hfit : (frames rs).length + (frames ys).length ≤ capC n) :
    Calls Tryz.prog 59 #[.pointer (some ⟨lb, 0, none⟩), rv] W fun e w' => PutR n W B sb lb S rs (rs ++ ys) e w' := by
  obtain ⟨D, live, x, hD, hL, hSt, hH, hd, hn, hs, hS, hlb, hnl⟩ := h
  have hcap := hH.fine.cap
  have hcl := count_le rs
  have hb := hH.lies.bytes
  have hf := hH.lies.fit
  have hrc := hH.lies.recs
  have hfit' : x.bytes + (frames ys).length ≤ capN D := by rw [hb, cap_of hn hs]; exact hfit
  have hO : ∀ k, OL S lb k → B ≤ k := fun k hk => hk.elim (hS k) fun e => by omega
  refine commit_of hL ((put_any hL hD hd hnl hT (fun hk => by have := hS 1 hk; omega) (by omega) hH.fine.n1.1 hH.one hH.mark16 x hH.lies.area (by omega) hr (fun k hk => ⟨fun hk' => hTd k hk (.inl hk'), fun e => hTd k hk (.inr e)⟩) hrl (any_tooL heach (Nat.le_refl _)) hfit').mono (R' := fun e w' => PutR n W B sb lb S rs (rs ++ ys) e w') ?_) ?_
  · rintro e w' ⟨S', rfl, hD', hL', hM, hnl'⟩
    refine ⟨S', hM, ?_⟩
    have hown := own_mv (S' := S') hO hBz hM fun k hk => .inl hk
    cases hdead : (D.put live x ys).dead
    · left
      rw [hdead] at hL'
      exact ⟨by unfold errOf; rw [hdead]; rfl, _, _, _, hD', hL', put_sett hdead, put_holds hH.fine hH.lies heach hfit' hdead, hdead, by rw [put_n, hn], by rw [put_size, hs], hown, hlb, hnl'⟩
    · right
      refine ⟨by unfold errOf; rw [hdead]; rfl, _, hD', hdead, fun K => ?_, by rw [put_n, hn], by rw [put_size, hs], hown⟩
      rcases commit_fall hSt hH heach hfit' hdead K with h | h
      · exact ⟨_, _, .inl h⟩
      · exact ⟨_, _, .inr h⟩
  · rintro e w' ⟨_, _, ⟨rfl, _⟩ | ⟨rfl, _⟩⟩
    · exact ⟨_, rfl⟩
    · exact ⟨_, rfl⟩
theorem reset_p {T : Nat → Prop} {rv : Value} {ys : List (List UInt8)} (h : LgP n W B sb lb S rs) (hB : 1 + 1 ≤ B) (hBz : B ≤ W.heap.size) (hT : Tab W) (hr : RecsV W T rv ys) (hTd : ∀ k, T k → ¬ OL S lb k) (hrl : ys.length ≤ 2147483648) (heach : ∀ r ∈ ys, r.length ≤ 1048576)
    (hfit : (frames ys).length ≤ capC n) :
    Calls Tryz.prog 52 #[.pointer (some ⟨lb, 0, none⟩), rv] W fun e w' => PutR n W B sb lb S rs ys e w' := by
  obtain ⟨D, live, x, hD, hL, hSt, hH, hd, hn, hs, hS, hlb, hnl⟩ := h
  have hfit' : (frames ys).length ≤ capN D := by rw [cap_of hn hs]; exact hfit
  have hO : ∀ k, OL S lb k → B ≤ k := fun k hk => hk.elim (hS k) fun e => by omega
  refine reset_of hL hH.lies.area ((put_any hL hD hd hnl hT (fun hk => by have := hS 1 hk; omega) (by omega) hH.fine.n1.1 hH.one hH.mark16 ⟨1 - x.area, 0, 0⟩ (Nat.sub_le _ _) (by simp) hr (fun k hk => ⟨fun hk' => hTd k hk (.inl hk'), fun e => hTd k hk (.inr e)⟩) hrl (any_tooL heach (Nat.le_refl _)) (by simpa using hfit')).mono (R' := fun e w' => PutR n W B sb lb S rs ys e w') ?_) ?_
  · rintro e w' ⟨S', rfl, hD', hL', hM, hnl'⟩
    refine ⟨S', hM, ?_⟩
    have hown := own_mv (S' := S') hO hBz hM fun k hk => .inl hk
    cases hdead : (D.put live ⟨1 - x.area, 0, 0⟩ ys).dead
    · left
      rw [hdead] at hL'
      have hph := put_holds (rs0 := []) hH.fine (lies_nil (Nat.sub_le 1 x.area)) heach (by simpa using hfit') hdead
      exact ⟨by unfold errOf; rw [hdead]; rfl, _, _, _, hD', hL', put_sett hdead, by simpa using hph, hdead, by rw [put_n, hn], by rw [put_size, hs], hown, hlb, hnl'⟩
    · right
      refine ⟨by unfold errOf; rw [hdead]; rfl, _, hD', hdead, fun K => ?_, by rw [put_n, hn], by rw [put_size, hs], hown⟩
      rcases reset_fall hSt hH heach hfit' hdead K with h | h
      · exact ⟨_, _, .inl h⟩
      · exact ⟨_, _, .inr h⟩
  · rintro e w' ⟨_, _, ⟨rfl, _⟩ | ⟨rfl, _⟩⟩
    · exact ⟨_, rfl⟩
    · exact ⟨_, rfl⟩
/-- A Commit without room. -/
theorem full_p {T : Nat → Prop} {rv : Value} {ys : List (List UInt8)} (h : LgP n W B sb lb S rs) (hr : RecsV W T rv ys) (hrl : ys.length ≤ 2147483648) (heach : ∀ r ∈ ys, r.length ≤ 1048576) (hfl : (frames ys).length ≤ 2251799813685248) (hfull : capC n < (frames rs).length + (frames ys).length) :
    Calls Tryz.prog 59 #[.pointer (some ⟨lb, 0, none⟩), rv] W fun e w' => e = .returned (.int .i64 40) ∧ Below W.heap.size W w' := by
  obtain ⟨D, live, x, hD, hL, hSt, hH, hd, hn, hs, hS, hlb, hnl⟩ := h
  have hcap := hH.fine.cap
  have hcl := count_le rs
  have hb := hH.lies.bytes
  have hf := hH.lies.fit
  have hrc := hH.lies.recs
  refine commit_of hL (put_full hL hD hH.fine.n1.1 x hH.lies.area (by omega) hr hrl hfl (any_tooL heach (Nat.le_refl _)) (by rw [cap_of hn hs, hb]; exact hfull)) ?_
  rintro e w' ⟨rfl, _⟩
  exact ⟨_, rfl⟩
end
end Go.Proofs.YtpnboihbifhigaaGreatDoor
/- The document's bytes, as lists. -/
namespace Go.Proofs.YtpnboihbifhigaaGreatDoor.Cd
/-- A number's bytes. -/
def num (n : Nat) : List UInt8 := if n < 128 then [UInt8.ofNat n] else UInt8.ofNat (n % 128 + 128) :: num (n / 128)
termination_by n
decreasing_by omega
theorem num_small {n : Nat} (h : n < 128) : num n = [UInt8.ofNat n] := by rw [num, if_pos h]
theorem num_great {n : Nat} (h : 128 ≤ n) : num n = UInt8.ofNat (n % 128 + 128) :: num (n / 128) := by rw [num, if_neg (by omega)]
theorem num_len (k : Nat) : ∀ n, n < 128 ^ (k + 1) → (num n).length ≤ k + 1 := by
  induction k with
  | zero => intro n h; rw [num_small (by omega)]; simp
  | succ k ih =>
    intro n h
    by_cases hs : n < 128
    · rw [num_small hs]; simp
    · rw [num_great (by omega)]
      have : n / 128 < 128 ^ (k + 1) := by rw [Nat.div_lt_iff_lt_mul (by omega)]; rw [Nat.pow_succ] at h; exact h
      have := ih _ this
      simp only [List.length_cons]; omega
theorem pow70 : 128 ^ (9 + 1) = 1180591620717411303424 := by decide
theorem num_len10 {n : Nat} (h : n < 18446744073709551616) : (num n).length ≤ 10 := by
  have h2 : n < 128 ^ (9 + 1) := Nat.lt_of_lt_of_le h (by rw [pow70]; decide)
  exact num_len 9 n h2
/-- A signed number as an unsigned one. -/
def zig (n : Int) : Nat := if n < 0 then (-(2 * n) - 1).toNat else (2 * n).toNat
def nums (ns : List Nat) : List UInt8 := (ns.map num).flatten
theorem or128 (n : Nat) (h : n < 256) : n ||| 128 = n % 128 + 128 := by
  have : ∀ n : Fin 256, n.val ||| 128 = n.val % 128 + 128 := by decide +kernel
  exact this ⟨n, h⟩
theorem u8_more (n : Nat) : bits .or .u8 ((n % 256 : Nat) : Int) 128 = ((n % 128 + 128 : Nat) : Int) := by
  have := u8_or_nat (n % 256) 128 (by omega) (by decide)
  have e : n % 256 % 128 + 128 = n % 128 + 128 := by omega
  rw [or128 _ (by omega), e] at this
  exact this
theorem num_mono (m : Nat) : ∀ n, n ≤ m → (num n).length ≤ (num m).length := by
  induction m using Nat.strongRecOn with
  | ind m ih =>
    intro n h
    by_cases hn : n < 128
    · rw [num_small hn]
      by_cases hm : m < 128
      · rw [num_small hm]; simp
      · rw [num_great (by omega)]; simp
    · rw [num_great (by omega), num_great (n := m) (by omega)]
      have := ih (m / 128) (by omega) (n / 128) (by omega)
      simp only [List.length_cons]; omega
end Go.Proofs.YtpnboihbifhigaaGreatDoor.Cd
/- Walks of the writer. -/
namespace Go.Proofs.YtpnboihbifhigaaGreatDoor.Cd
open Go.RowKit

/-- The writer at block p holds the bytes l. -/
def Wr (w : World) (B p : Nat) (l : List UInt8) (v : Value) : Prop := B ≤ p ∧ w.heap[p]? = some (.cells #[v] 207) ∧ RowB w B v l
def Fp (p : Nat) (v : Value) (k : Nat) : Prop := k = p ∨ v.ownBlock = some k
/-- A step of the writer at p. -/
def WStep (B p : Nat) (w : World) (v : Value) (w' : World) (l' : List UInt8) (v' : Value) : Prop :=
  Wr w' B p l' v' ∧ Upd (Fp p v) w w' ∧ ∀ k, v'.ownBlock = some k → v.ownBlock = some k ∨ w.heap.size ≤ k
theorem WStep.refl {B p : Nat} {w : World} {v : Value} {l : List UInt8} (h : Wr w B p l v) : WStep B p w v w l v := ⟨h, .refl _ _, fun _ h => .inl h⟩
theorem WStep.trans {B p : Nat} {w w' w'' : World} {v v' v'' : Value} {l' l'' : List UInt8} (h : WStep B p w v w' l' v') (g : WStep B p w' v' w'' l'' v'') : WStep B p w v w'' l'' v'' := by
  refine ⟨g.1, h.2.1.trans g.2.1 ?_, ?_⟩
  · rintro k hk (rfl | hv)
    · exact .inl rfl
    · rcases h.2.2 k hv with h1 | h1
      · exact .inr h1
      · omega
  · intro k hk
    have hs := h.2.1.size
    rcases g.2.2 k hk with h1 | h1
    · exact h.2.2 k h1
    · right; omega
theorem WStep.alloc {B p : Nat} {w w' : World} {v v' : Value} {l' : List UInt8} (h : WStep B p w v w' l' v') (o : Obj) : WStep B p w v (w'.alloc o) l' v' :=
  ⟨⟨h.1.1, heap_old h.1.2.1 o, h.1.2.2.alloc o⟩, h.2.1.then (.alloc _ _ _), h.2.2⟩
theorem WStep.arg {B p : Nat} {w w' : World} {v v' : Value} {l' : List UInt8} {x : Value} {xs : List Value} (h : WStep B p w v w' l' v') (hx : ArgV w (fun k => ¬ Fp p v k) x xs) : ArgV w' (fun k => ¬ Fp p v k) x xs := hx.upd h.2.1 fun _ hk => hk
section
variable {w : World} {B p : Nat} {l : List UInt8} {v : Value}
theorem Wr.cell (h : Wr w B p l v) : w.cell? ⟨p, 0, none⟩ = some v := by rw [cell_at h.2.1]; rfl
theorem Wr.frozen (h : Wr w B p l v) : w.frozen? ⟨p, 0, none⟩ = false := frozen_at h.2.1 0
theorem Wr.lt (h : Wr w B p l v) : p < w.heap.size := (Array.getElem?_eq_some_iff.1 h.2.1).1
theorem Wr.own (h : Wr w B p l v) : w.ownsRow B 5 1 v l.length (bv l) := h.2.2
theorem Wr.base (h : Wr w B p l v) : B ≤ w.heap.size := Nat.le_trans h.1 (Nat.le_of_lt h.lt)
theorem Fp.lt (h : Wr w B p l v) {k : Nat} (hk : Fp p v k) : k < w.heap.size := by
  rcases hk with rfl | hk
  · exact h.lt
  · exact (h.2.2.lt k hk).2
theorem Wr.ne (h : Wr w B p l v) : v.ownBlock ≠ some p := fun e => absurd (own_type h.2.2 e h.2.1) (by decide)
theorem Wr.upd {w' : World} {F : Nat → Prop} (h : Wr w B p l v) (hu : Upd F w w') (hF : ∀ k, Fp p v k → ¬ F k) : Wr w' B p l v :=
  ⟨h.1, hu.heap h.2.1 (hF p (.inl rfl)), hu.own h.2.2 fun k hk => hF k (.inr hk)⟩
theorem Wr.alloc (h : Wr w B p l v) (o : Obj) : Wr (w.alloc o) B p l v := h.upd (F := fun _ => False) (.alloc _ _ _) fun _ _ hf => hf
/-- What a walk meets behind an append to the writer's row. -/
theorem Wr.grown {w1 : World} (h : Wr w B p l v) (hg : w.grownBy w1 v.ownBlock) : w1.heap[p]? = some (.cells #[v] 207) := by
  rw [hg.block p h.lt (fun e => h.ne e.symm)]; exact h.2.1
theorem Wr.put {w1 : World} {v' : Value} {m : List UInt8} (h : Wr w B p l v) (hg : w.grownBy w1 v.ownBlock) (ho : RowB w1 B v' (l ++ m)) (hm : ∀ k, v'.ownBlock = some k → v.ownBlock = some k ∨ w.heap.size ≤ k) : WStep B p w v (w1.setCell ⟨p, 0, none⟩ v') (l ++ m) v' := by
  have hp := h.grown hg
  have hne : v'.ownBlock ≠ some p := fun e => absurd (own_type ho e hp) (by decide)
  have hu : Upd (Fp p v) w (w1.setCell ⟨p, 0, none⟩ v') := (Upd.grown (F := Fp p v) hg fun k hk => .inr hk).then (.set _ (.inl rfl) _)
  exact ⟨⟨h.1, heap_set hp 0 v', (Upd.set (F := fun k => k = p) w1 (a := ⟨p, 0, none⟩) rfl v').own ho fun k hk e => hne (e ▸ hk)⟩, hu, hm⟩
end

theorem nums_snoc (ns : List Nat) (k : Nat) (h : k < ns.length) : nums (ns.take (k + 1)) = nums (ns.take k) ++ num ns[k] := by
  unfold nums; rw [List.take_succ_eq_append_getElem h, List.map_append, List.flatten_append]; simp

theorem nums_take_len (ns : List Nat) (k : Nat) (hn : ∀ n ∈ ns, n < 18446744073709551616) : (nums (ns.take k)).length ≤ 10 * k := by
  induction k with
  | zero => simp [nums]
  | succ k ih =>
    by_cases h : k < ns.length
    · rw [nums_snoc ns k h, List.length_append]
      have := num_len10 (hn _ (List.getElem_mem h))
      omega
    · rw [List.take_of_length_le (by omega)]
      rw [List.take_of_length_le (by omega)] at ih
      omega
theorem more_pack (m : Nat) (hge : 128 ≤ m) : ∃ c : UInt8, c.toNat = m % 128 + 128 ∧ bits .or .u8 ((m : Int) % 256) 128 = (c.toNat : Int) ∧ num m = c :: num (m / 128) := by
  have e : (UInt8.ofNat (m % 128 + 128)).toNat = m % 128 + 128 := by rw [UInt8.toNat_ofNat_of_lt' (by simp [UInt8.size]; omega)]
  refine ⟨_, e, ?_, num_great hge⟩
  rw [e]
  exact u8_more m
theorem last_pack (m : Nat) (h : m < 128) : ∃ c : UInt8, c.toNat = m ∧ num m = [c] :=
  ⟨_, by rw [UInt8.toNat_ofNat_of_lt' (by simp [UInt8.size]; omega)], num_small h⟩

theorem num_pos (n : Nat) : 0 < (num n).length := by
  by_cases h : n < 128
  · rw [num_small h]; simp
  · rw [num_great (by omega)]; simp
theorem pre_len {pre : List UInt8} {m n : Nat} (h : pre ++ num m = num n) (hn : n < 18446744073709551616) : pre.length + 1 ≤ 10 := by
  have h1 := congrArg List.length h
  rw [List.length_append] at h1
  have := num_len10 hn
  have := num_pos m
  omega

theorem one_byte {w : World} {g : Nat} {c : UInt8} {u : Value} (h : w.cell? ⟨g, 0, none⟩ = some u) (hu : u = .int .u8 c.toNat) : ∀ j x, (bv [c])[j]? = some x → w.cell? ((⟨g, 0, none⟩ : Addr).add j) = some x := by
  intro j x hj
  match j, hj with
  | 0, hj =>
    have e : u = x := by rw [hu]; simpa [bv] using hj
    subst e
    exact h

set_option maxRecDepth 100000 in
set_option maxHeartbeats 1600000 in
theorem wNum_any (B p : Nat) (l : List UInt8) (v : Value) (ns : List Nat) (x : Value) (w : World) (hW : Wr w B p l v) (hx : ArgV w (fun k => ¬ Fp p v k) x (ns.map fun n : Nat => .int .u64 n)) (hn : ∀ n ∈ ns, n < 18446744073709551616)
    (hlen : l.length + 10 * ns.length ≤ 70368744177664) :
    Calls Tryz.prog 153 #[.pointer (some ⟨p, 0, none⟩), x] w fun e w' => e = .returned (.tuple #[]) ∧ ∃ v', WStep B p w v w' (l ++ nums ns) v' := by
  have hx0 := hide hx
  have hS0 := hide (WStep.refl hW)
  replace hW := hide hW
  replace hn := hide hn
  replace hlen := hide hlen
  obtain ⟨A, c, rfl, hlc, hcm, -⟩ := hx
  rw [List.length_map] at *
  unfold maxLen at hcm
  go_enter Tryz.func153, Tryz.ntmps153
  go_wp2_with fail
  go_loopw [8] (fun i wr => ∃ (k : Nat) (v' : Value), k ≤ ns.length ∧ i = .int .i64 k ∧ WStep B p w v wr (l ++ nums (ns.take k)) v') (fun i _ => ns.length - (intOf i).toNat)
  case atStart => exact ⟨0, v, Nat.zero_le _, rfl, by simpa [nums] using hS0.out⟩
  case round =>
    obtain ⟨k, v', hk, rfl, hS⟩ := hrel
    have hx1 := hS.arg hx0.out
    replace hS := hide hS
    by_cases hlt : k < ns.length
    · obtain ⟨b, o, rfl, hb, hcell⟩ := hx1.get (i := k) (u := .int .u64 ns[k]) (by simp [hlt])
      have hm := hn.out _ (List.getElem_mem hlt)
      have hsn := hide (nums_snoc ns k hlt)
      generalize ns[k] = n0 at *
      clear hx1
      go_wp2_with fail
      go_loopw [5] (fun z wi => ∃ (m : Nat) (pre : List UInt8) (v2 : Value), z = .int .u64 m ∧ m < 18446744073709551616 ∧ pre ++ num m = num n0 ∧ WStep B p w v wi (l ++ nums (ns.take k) ++ pre) v2) (fun z _ => (intOf z).toNat)
      case atStart => exact ⟨n0, [], v', rfl, hm, rfl, by rw [List.append_nil]; exact hS.out⟩
      case round =>
        clear hS
        obtain ⟨m, pre, v2, rfl, hm2, hpre, hS⟩ := hrel
        have hpl := pre_len hpre hm
        replace hpre := hide hpre
        replace hS := hide hS
        have hc0 := hS.out.1.cell
        have hf0 := hS.out.1.frozen
        by_cases hge : 128 ≤ m
        · obtain ⟨c1, hc1, hb1, hp1⟩ := more_pack m hge
          replace hp1 := hide hp1
          replace hc1 := hide hc1
          go_wp2_with (
            at_builtin
            refine wp_bytes rfl (.tmp 18) (.tmp 22) rfl B v2 (l ++ nums (ns.take k) ++ pre) rfl ?_ ⟨wr.heap.size, 0, none⟩ 1 1 [c1] rfl rfl ?_ ?_ ?_ ?_
            · exact (hS.out.1.alloc _).2.2
            · exact one_byte (by simp [go_sem]; done) rfl
            · have := hlen.out; have := nums_take_len ns k hn.out; simp only [List.length_append, List.length_singleton]; omega
            · exact (hS.out.1.alloc _).base
            intro v3 w3 h3 hg3 hm3
            have hp3 := (hS.out.1.alloc _).grown hg3
            have hc3 := cell_at hp3 0
            have hf3 := frozen_at hp3 0
            replace hp3 := hide hp3
            obtain ⟨A3, n3, k3, rfl⟩ := h3.slice)
          go_roundw
          case rel =>
            refine ⟨m / 128, pre ++ [c1], .slice A3 n3 k3, by go_num, by omega, ?_, ?_⟩
            · rw [← hpre.out, hp1.out, List.append_assoc]; rfl
            · rw [← List.append_assoc]
              exact hS.out.trans (((WStep.refl hS.out.1).alloc _).trans ((hS.out.1.alloc _).put hg3 h3 hm3))
          case measure => simp [intOf]; omega
        · obtain ⟨c1, hc1, hp1⟩ := last_pack m (by omega)
          replace hp1 := hide hp1
          go_wp2_with (
            at_builtin
            refine wp_bytes rfl (.tmp 32) (.tmp 35) rfl B v2 (l ++ nums (ns.take k) ++ pre) rfl ?_ ⟨wr.heap.size, 0, none⟩ 1 1 [c1] rfl rfl ?_ ?_ ?_ ?_
            · exact (hS.out.1.alloc _).2.2
            · exact one_byte (u := .int .u8 m) (by simp [go_sem]; done) (by rw [hc1])
            · have := hlen.out; have := nums_take_len ns k hn.out; simp only [List.length_append, List.length_singleton]; omega
            · exact (hS.out.1.alloc _).base
            intro v3 w3 h3 hg3 hm3
            have hp3 := (hS.out.1.alloc _).grown hg3
            have hc3 := cell_at hp3 0
            have hf3 := frozen_at hp3 0
            replace hp3 := hide hp3
            obtain ⟨A3, n3, k3, rfl⟩ := h3.slice)
          go_roundw
          case rel =>
            refine ⟨k + 1, .slice A3 n3 k3, by omega, by go_num, ?_⟩
            rw [hsn.out, ← hpre.out, hp1.out, ← List.append_assoc, ← List.append_assoc]
            exact hS.out.trans (((WStep.refl hS.out.1).alloc _).trans ((hS.out.1.alloc _).put hg3 h3 hm3))
          case measure => simp [intOf]; omega
    · obtain rfl : k = ns.length := by omega
      go_wp2_with fail
      go_end0
      refine ⟨rfl, v', ?_⟩
      have := hS.out
      rwa [List.take_length] at this
end Go.Proofs.YtpnboihbifhigaaGreatDoor.Cd
/- Walks of the writer, the rest. -/
namespace Go.Proofs.YtpnboihbifhigaaGreatDoor.Cd
open Go.RowKit

theorem equalIn_nil {P : Program} (w : World) (d : Nat) (t e : TypeId) (a : Option Addr) (n c : Nat) (h : P.underlying t = some (.slice e)) :
    (Op.equalIn (d + 1) t (.slice a n c) (.slice none 0 0)).run P w = .ok a.isNone w := by cases a <;> simp [Op.equalIn, run_underlying h]
theorem eql_nil {P : Program} (w : World) (t e : TypeId) (a : Option Addr) (n c : Nat) (h : P.underlying t = some (.slice e)) :
    (binOp .eql t (.slice a n c) (.slice none 0 0)).run P w = .ok (.bool a.isNone) w := by
  simp only [binOp]
  simp [Op.equal, Op.maxDepth, equalIn_nil w 9999 t e a n c h]
theorem i64_flip (n : Int) (h1 : -9223372036854775808 ≤ n) (h2 : n ≤ 9223372036854775807) : bits .xor .i64 (-1) n = -1 - n := by
  show IntKind.i64.wrap ((BitVec.ofInt 64 (-1) ^^^ BitVec.ofInt 64 n).toNat : Int) = _
  have h : BitVec.ofInt 64 (-1) = BitVec.allOnes 64 := by decide
  rw [h, BitVec.allOnes_xor, BitVec.toNat_not, BitVec.toNat_ofInt]
  simp [IntKind.wrap, IntKind.bits, IntKind.signed]
  omega
theorem u64_odd (x : Nat) (h : x * 2 < 18446744073709551616) : bits .or .u64 ((x : Int) * 2) 1 = ((x * 2 + 1 : Nat) : Int) := by
  have := u64_or_nat (x * 2) 1 h (by decide)
  rw [nat_join 1 (x * 2) 1 (by omega) (by decide)] at this
  rw [← this]; congr 1
theorem zig_neg {n : Int} (h : n < 0) : zig n = (-1 - n).toNat * 2 + 1 := by unfold zig; rw [if_pos h]; omega
theorem zig_pos {n : Int} (h : ¬ n < 0) : zig n = n.toNat * 2 := by unfold zig; rw [if_neg h]; omega
theorem zig_lt {n : Int} (h1 : -9223372036854775808 ≤ n) (h2 : n ≤ 9223372036854775807) : zig n < 18446744073709551616 := by unfold zig; split <;> omega
theorem newWriter_any (w : World) : Calls Tryz.prog 129 #[] w fun e w' => e = .returned (.pointer (some ⟨w.heap.size, 0, none⟩)) ∧ w' = w.alloc (.cells #[.slice none 0 0] 207) := by
  go_enter Tryz.func129, Tryz.ntmps129
  go_wp2_with fail
  go_ret
  exact ⟨rfl, rfl⟩
theorem wr_new (w : World) (B : Nat) (hB : B ≤ w.heap.size) : Wr (w.alloc (.cells #[.slice none 0 0] 207)) B w.heap.size [] (.slice none 0 0) :=
  ⟨hB, heap_new _ _, RowB.nil_ _ _⟩

set_option maxRecDepth 100000 in
theorem clone_any (v : Value) (l : List UInt8) (w : World) (B : Nat) (hv : BytesV w B v l) (hlen : l.length ≤ 70368744177664) :
    Calls Tryz.prog 79 #[v] w fun e w' => ∃ v', e = .returned v' ∧ RowB w' w.heap.size v' l ∧ Below w.heap.size w w' := by
  obtain ⟨A, c, rfl, hlc, hcm, hs⟩ := hv
  have hnil := eql_nil (P := Tryz.prog) w 62 5 A l.length c Tryz.underlying62
  replace hcm := hide hcm
  replace hlen := hide hlen
  replace hs := hide hs
  cases A with
  | none =>
    replace hnil := hnil.trans (show _ = Result.ok (Value.bool true) w from rfl)
    go_enter Tryz.func79, Tryz.ntmps79
    go_wp2_with fail
    go_ret
    refine ⟨_, rfl, ?_, Below.refl _ _⟩
    have h0 : l = [] := by
      rcases hs.out with h | ⟨b, o, h, _⟩
      · exact List.eq_nil_of_length_eq_zero (by rw [← bv_len, h]; rfl)
      · cases h
    subst h0
    exact RowB.nil_ _ _
  | some a =>
    replace hnil := hnil.trans (show _ = Result.ok (Value.bool false) w from rfl)
    go_enter Tryz.func79, Tryz.ntmps79
    go_wp2_with (
      at_builtin
      refine wp_bytes rfl (.tmp 5) (.tmp 6) rfl w.heap.size (.slice (some ⟨w.heap.size, 0, none⟩) 0 0) [] rfl ?_ a l.length c l rfl rfl ?_ ?_ ?_ ?_
      · exact World.ownsRow_made w #[] 0 (Nat.le_refl _) (by unfold maxLen; omega) rfl
      · intro j u hj
        rcases hs.out with h | ⟨b, o, h, hb, hc⟩
        · rw [h] at hj; simp at hj
        · obtain rfl := Option.some.inj h
          rw [Go.WideShapes.add_plain, Below.cell (B := w.heap.size) ((Below.refl _ w).alloc (Nat.le_refl _) _) (World.block_lt_of_cell? w _ (hc j u hj))]
          exact hc j u hj
      · have := hlen.out; simp; omega
      · simp
      intro v3 w3 h3 hg3 hm3)
    go_ret
    rw [List.nil_append] at h3
    refine ⟨_, rfl, h3, ?_⟩
    refine Below.grown (w := w.alloc (.cells #[] 5)) ((Below.refl _ w).alloc (Nat.le_refl _) _) hg3 (by simp) fun k hk => ?_
    have : w.heap.size = k := by simpa [Value.ownBlock] using hk
    omega

theorem bytes_any (B p : Nat) (l : List UInt8) (v : Value) (w : World) (hW : Wr w B p l v) (hlen : l.length ≤ 70368744177664) :
    Calls Tryz.prog 131 #[.pointer (some ⟨p, 0, none⟩)] w fun e w' => ∃ v', e = .returned v' ∧ RowB w' w.heap.size v' l ∧ Below w.heap.size w w' := by
  have hb := hW.2.2.bytes
  have hc := hW.cell
  obtain ⟨A, n, k, rfl⟩ := hW.2.2.slice
  replace hb := hide hb
  replace hlen := hide hlen
  replace hW := hide hW
  go_enter Tryz.func131, Tryz.ntmps131
  go_wp2_with fail
  refine (clone_any _ _ _ _ hb.out hlen.out).mono ?_
  rintro e w1 ⟨v1, rfl, h1, h2⟩
  go_wp2_with fail
  go_ret
  exact ⟨_, rfl, h1, h2⟩

end Go.Proofs.YtpnboihbifhigaaGreatDoor.Cd
/- Walks of the writer: texts, booleans. -/
namespace Go.Proofs.YtpnboihbifhigaaGreatDoor.Cd
open Go.RowKit

def text (s : ByteArray) : List UInt8 := num s.size ++ s.data.toList
def texts (ss : List ByteArray) : List UInt8 := (ss.map text).flatten
def bit (b : Bool) : UInt8 := if b then 1 else 0
theorem texts_snoc (ss : List ByteArray) (k : Nat) (h : k < ss.length) : texts (ss.take (k + 1)) = texts (ss.take k) ++ text ss[k] := by
  unfold texts; rw [List.take_succ_eq_append_getElem h, List.map_append, List.flatten_append]; simp
theorem texts_le (ss : List ByteArray) (k : Nat) : (texts (ss.take k)).length ≤ (texts ss).length := by
  have : texts ss = texts (ss.take k) ++ texts (ss.drop k) := by
    unfold texts; rw [← List.flatten_append, ← List.map_append, List.take_append_drop]
  rw [this, List.length_append]; omega
theorem toList_len (s : ByteArray) : s.data.toList.length = s.size := Array.length_toList
theorem text_len (s : ByteArray) : s.size ≤ (text s).length := by unfold text; rw [List.length_append, toList_len]; omega

set_option maxRecDepth 100000 in
set_option maxHeartbeats 1600000 in
theorem wText_any (B p : Nat) (l : List UInt8) (v : Value) (ss : List ByteArray) (x : Value) (w : World) (hW : Wr w B p l v) (hx : ArgV w (fun k => ¬ Fp p v k) x (ss.map Value.string))
    (hlen : l.length + (texts ss).length + 10 ≤ 70368744177664) :
    Calls Tryz.prog 130 #[.pointer (some ⟨p, 0, none⟩), x] w fun e w' => e = .returned (.tuple #[]) ∧ ∃ v', WStep B p w v w' (l ++ texts ss) v' := by
  have hx0 := hide hx
  have hS0 := hide (WStep.refl hW)
  replace hW := hide hW
  replace hlen := hide hlen
  obtain ⟨A, c, rfl, hlc, hcm, -⟩ := hx
  rw [List.length_map] at *
  unfold maxLen at hcm
  go_enter Tryz.func130, Tryz.ntmps130
  go_wp2_with fail
  go_loopw [8] (fun i wr => ∃ (k : Nat) (v' : Value), k ≤ ss.length ∧ i = .int .i64 k ∧ WStep B p w v wr (l ++ texts (ss.take k)) v') (fun i _ => ss.length - (intOf i).toNat)
  case atStart => exact ⟨0, v, Nat.zero_le _, rfl, by simpa [texts] using hS0.out⟩
  case round =>
    obtain ⟨k, v', hk, rfl, hS⟩ := hrel
    have hx1 := hS.arg hx0.out
    replace hS := hide hS
    by_cases hlt : k < ss.length
    · obtain ⟨b, o, rfl, hb, hcell⟩ := hx1.get (i := k) (u := .string ss[k]) (by simp [hlt])
      have hsn := hide (texts_snoc ss k hlt)
      have hle := hide (texts_le ss (k + 1))
      have hsz : ss[k].size < 70368744177664 := by
        have h1 := hle.out; rw [hsn.out, List.length_append] at h1
        have := text_len ss[k]; have := hlen.out; omega
      generalize ss[k] = s0 at *
      clear hx1
      go_wp2_with fail
      refine (wNum_any B p _ v' [s0.size] _ _ (hS.out.alloc _).1 (ArgV.one (by simp [go_sem]; done) ?_) ?_ ?_).mono ?_
      · exact fun h => Nat.lt_irrefl _ (Fp.lt hS.out.1 h)
      · intro n hn'; rw [List.mem_singleton] at hn'; subst hn'; omega
      · have h1 := hle.out; rw [hsn.out, List.length_append] at h1
        have := hlen.out; simp only [List.length_append, List.length_singleton]; omega
      rintro e w2 ⟨rfl, v2, h2⟩
      have hc0 := h2.1.cell
      have hf0 := h2.1.frozen
      replace h2 := hide ((hS.out.alloc _).trans h2)
      go_wp2_with (
        at_builtin
        refine wp_bytes_string rfl (.tmp 22) (.tmp 23) rfl B v2 (l ++ texts (ss.take k) ++ nums [s0.size]) rfl ?_ s0 rfl ?_ ?_ ?_
        · exact h2.out.1.2.2
        · have h1 := hle.out; rw [hsn.out, List.length_append] at h1
          unfold text at h1; rw [List.length_append, toList_len] at h1
          have := hlen.out; simp only [nums, List.map_cons, List.map_nil, List.flatten_cons, List.flatten_nil, List.append_nil, List.length_append]; omega
        · exact h2.out.1.base
        intro v3 w3 h3 hg3 hm3
        have hp3 := h2.out.1.grown hg3
        have hc3 := cell_at hp3 0
        have hf3 := frozen_at hp3 0
        replace hp3 := hide hp3
        obtain ⟨A3, n3, k3, rfl⟩ := h3.slice)
      go_roundw
      case rel =>
        refine ⟨k + 1, .slice A3 n3 k3, by omega, by go_num, ?_⟩
        rw [hsn.out]
        have := h2.out.trans (h2.out.1.put hg3 h3 hm3)
        simpa [nums, text] using this
      case measure => simp [intOf]; omega
    · obtain rfl : k = ss.length := by omega
      go_wp2_with fail
      go_end0
      refine ⟨rfl, v', ?_⟩
      have := hS.out
      rwa [List.take_length] at this

end Go.Proofs.YtpnboihbifhigaaGreatDoor.Cd
/- Walks of the reader. -/
namespace Go.Proofs.YtpnboihbifhigaaGreatDoor
open Go.RowKit
theorem BytesV.cut {w : World} {B : Nat} {A : Option Addr} {l : List UInt8} {n c : Nat} (h : BytesV w B (.slice A n c) l) (k m : Nat) (hk : k ≤ m) (hm : m ≤ l.length) {A' : Option Addr} (hA : k < m → A' = A.map (·.add k)) {c' : Nat} (hc : m - k ≤ c') (hcm : c' ≤ maxLen) : BytesV w B (.slice A' (m - k) c') ((l.drop k).take (m - k)) := by
  obtain ⟨A0, c0, h1, h2, h3, h4⟩ := h
  injection h1 with e1 e2 e3
  subst e1 e2 e3
  have hl : ((l.drop k).take (m - k)).length = m - k := by rw [List.length_take, List.length_drop]; omega
  refine ⟨A', c', by rw [hl], by omega, hcm, ?_⟩
  rcases Nat.lt_or_ge k m with hlt | hge
  · rw [hA hlt]
    have := h4.cut k (m - k)
    have e : bv ((l.drop k).take (m - k)) = ((bv l).drop k).take (m - k) := by unfold bv; rw [List.map_take, List.map_drop]
    rw [e]; exact this
  · have : (l.drop k).take (m - k) = [] := List.eq_nil_of_length_eq_zero (by omega)
    rw [this]; exact .inl rfl

theorem BytesV.tail {w : World} {B b o n c : Nat} {c0 : UInt8} {r : List UInt8} (h : BytesV w B (.slice (some ⟨b, o, none⟩) n c) (c0 :: r)) : BytesV w B (.slice (some ⟨b, o + 1, none⟩) r.length (c - 1)) r := by
  obtain ⟨A0, c0', h1, h2, h3, h4⟩ := h
  injection h1 with e1 e2 e3
  subst e1 e2 e3
  simp at h2
  refine ⟨_, _, rfl, by omega, by omega, ?_⟩
  have := h4.cut 1 r.length
  have e : ((bv (c0 :: r)).drop 1).take r.length = bv r := by
    rw [List.take_of_length_le (by simp [bv])]; rfl
  rw [e] at this
  simpa [Addr.add] using this
end Go.Proofs.YtpnboihbifhigaaGreatDoor
namespace Go.Proofs.YtpnboihbifhigaaGreatDoor.Cd
open Go.RowKit

/-- The reader at block p has the bytes l left; they lie below D. -/
def Rd (w : World) (D p : Nat) (l : List UInt8) (bad : Bool) : Prop :=
  D ≤ p ∧ ∃ v, w.heap[p]? = some (.cells #[v, .bool bad] 140) ∧ BytesV w D v l
section
variable {w w' : World} {D p : Nat} {l : List UInt8} {bad : Bool}
theorem Rd.upd {F : Nat → Prop} (h : Rd w D p l bad) (hu : Upd F w w') (hp : ¬ F p) (hD : ∀ k, k < D → ¬ F k) : Rd w' D p l bad := by
  obtain ⟨h1, v, h2, h3⟩ := h
  exact ⟨h1, v, hu.heap h2 hp, hu.bytes h3 hD⟩
theorem Rd.alloc (h : Rd w D p l bad) (o : Obj) : Rd (w.alloc o) D p l bad := h.upd (F := fun _ => False) (.alloc _ _ _) id fun _ _ => id
theorem Rd.lt (h : Rd w D p l bad) : p < w.heap.size := by
  obtain ⟨_, v, h2, _⟩ := h
  exact (Array.getElem?_eq_some_iff.1 h2).1
theorem Rd.fail (h : Rd w D p l bad) : Rd (w.setCell ⟨p, 1, none⟩ (.bool true)) D p l true := by
  obtain ⟨h1, v, h2, h3⟩ := h
  exact ⟨h1, v, heap_set h2 1 _, (Upd.set (F := fun k => k = p) w (a := ⟨p, 1, none⟩) rfl _).bytes h3 fun k hk e => by subst e; omega⟩
theorem Rd.rest (h : Rd w D p l bad) {v' : Value} {l' : List UInt8} (hv : BytesV w D v' l') : Rd (w.setCell ⟨p, 0, none⟩ v') D p l' bad := by
  obtain ⟨h1, v, h2, h3⟩ := h
  exact ⟨h1, v', heap_set h2 0 _, (Upd.set (F := fun k => k = p) w (a := ⟨p, 0, none⟩) rfl _).bytes hv fun k hk e => by subst e; omega⟩
end
/-- Of the reader at p alone. -/
abbrev At (p : Nat) : Nat → Prop := fun k => k = p
theorem need_any (b : Bool) (w : World) : Calls Tryz.prog 150 #[.bool b] w fun e w' => w = w' ∧ (b = true → e = .returned (.tuple #[])) ∧ (b = false → ∃ pv, e = .panicked [{ v := .iface 225 pv, recovered := false }]) := by
  cases b
  · go_enter Tryz.func150, Tryz.ntmps150
    go_wp2_with fail
    refine ⟨rfl, ?_⟩
    exact ⟨rfl, fun h => (by cases h), fun _ => ⟨_, rfl⟩⟩
  · go_enter Tryz.func150, Tryz.ntmps150
    go_wp2_with fail
    go_end0
    exact ⟨rfl, fun _ => rfl, fun h => by cases h⟩

theorem next_any (D p : Nat) (l : List UInt8) (bad : Bool) (w : World) (hR : Rd w D p l bad) :
    Calls Tryz.prog 176 #[.pointer (some ⟨p, 0, none⟩)] w fun e w' => Upd (At p) w w' ∧ (match l with
      | [] => (∃ pv, e = .panicked [{ v := .iface 225 pv, recovered := false }]) ∧ Rd w' D p [] bad
      | c :: r => e = .returned (.int .u8 c.toNat) ∧ Rd w' D p r bad) := by
  have hR0 := hide hR
  obtain ⟨hD, v, hh, hb⟩ := hR
  have hc0 : w.cell? ⟨p, 0, none⟩ = some v := by rw [cell_at hh]; rfl
  have hc1 : w.cell? ⟨p, 1, none⟩ = some (.bool bad) := by rw [cell_at hh]; rfl
  have hf0 := frozen_at hh 0
  have hb0 := hide hb
  obtain ⟨A, c, rfl, hlc, hcm, hs⟩ := hb
  replace hh := hide hh
  replace hcm := hide hcm
  cases l with
  | nil =>
    go_enter Tryz.func176, Tryz.ntmps176
    go_wp2_with fail
    refine (need_any _ _).mono ?_
    rintro e w' ⟨rfl, -, h⟩
    obtain ⟨pv, rfl⟩ := h (by simp)
    go_wp2_with fail
    refine ⟨rfl, ?_⟩
    exact ⟨.refl _ _, ⟨_, rfl⟩, hR0.out⟩
  | cons c0 r =>
    obtain ⟨b, o, rfl, hbD, hcell⟩ := hs.get (i := 0) (u := .int .u8 c0.toNat) (by simp [bv])
    replace hcell : w.cell? ⟨b, o, none⟩ = some (.int .u8 c0.toNat) := hcell
    go_enter Tryz.func176, Tryz.ntmps176
    go_wp2_with fail
    refine (need_any _ _).mono ?_
    rintro e w' ⟨rfl, h, -⟩
    obtain rfl := h (by simp)
    go_wp2_with fail
    · obtain rfl : r = [] := List.eq_nil_of_length_eq_zero (by simp at hlc; omega)
      go_ret
      exact ⟨Upd.set w (F := At p) (a := ⟨p, 0, none⟩) rfl _, rfl, hR0.out.rest ⟨_, _, rfl, Nat.le_refl _, Nat.zero_le _, .inl rfl⟩⟩
    · go_ret
      exact ⟨Upd.set w (F := At p) (a := ⟨p, 0, none⟩) rfl _, rfl, hR0.out.rest (hb0.out.tail)⟩
end Go.Proofs.YtpnboihbifhigaaGreatDoor.Cd
/- Walks of the reader: numbers. -/
namespace Go.Proofs.YtpnboihbifhigaaGreatDoor.Cd
open Go.RowKit

/-- What bytes tell as a number: its place, what was told already. -/
def dnum (i acc : Nat) : List UInt8 → Option (Nat × List UInt8)
  | [] => none
  | c :: r => if 9 ≤ i ∧ 1 < c.toNat then none else if 128 ≤ c.toNat then dnum (i + 1) (acc + c.toNat % 128 * 128 ^ i) r else if c.toNat = 0 ∧ i ≠ 0 then none else some (acc + c.toNat * 128 ^ i, r)

/-- What a decoding method comes to: it tells a value and what is left, or panics. -/
def Told {α : Type} (D p : Nat) (w : World) (f : α → Value) (o : Option (α × List UInt8)) (e : Ending) (w' : World) : Prop :=
  Upd (At p) w w' ∧ (match o with
    | some (a, r) => e = .returned (f a) ∧ Rd w' D p r false
    | none => (∃ pv, e = .panicked [{ v := .iface 225 pv, recovered := false }]) ∧ ∃ r, Rd w' D p r false)
def u64v (n : Nat) : Value := .int .u64 n

theorem pow_128 (i : Nat) : (2 : Nat) ^ (7 * i) = 128 ^ i := by rw [Nat.pow_mul]
theorem pow_le {i : Nat} (h : i ≤ 8) : (128 : Nat) ^ i ≤ 72057594037927936 := by
  have := Nat.pow_le_pow_right (n := 128) (by decide) h
  have e : (128 : Nat) ^ 8 = 72057594037927936 := by decide
  omega
/-- What one byte of a number adds. -/
theorem step_pack (i acc c : Nat) (hi : i ≤ 9) (hacc : acc < 128 ^ i) (hc : c < 256) (h9 : i = 9 → c ≤ 1) :
    ∃ m y z : Nat, bits .andNot .u8 (c : Int) 128 = (m : Int) ∧ IntKind.u64.wrap (m : Int) = (m : Int) ∧ IntKind.u64.wrap ((m : Int) * 2 ^ (7 * i)) = (y : Int) ∧ bits .or .u64 (acc : Int) (y : Int) = (z : Int) ∧ z = acc + c % 128 * 128 ^ i ∧ z < 128 ^ (i + 1) ∧ z < 18446744073709551616 := by
  have hpow : ((2 : Int) ^ (7 * i)) = ((128 ^ i : Nat) : Int) := by rw [← pow_128]; simp
  have hm : c &&& 127 = c % 128 := nat_mask7 c
  have hA := u8_andNot_nat c 128 hc (by decide)
  have e127 : 255 - 128 = 127 := by decide
  rw [e127, hm] at hA
  have hmul : c % 128 * 128 ^ i < 128 ^ (i + 1) := by
    rw [Nat.pow_succ, Nat.mul_comm (128 ^ i) 128]
    exact (Nat.mul_lt_mul_right (Nat.pow_pos (by decide))).2 (Nat.mod_lt _ (by decide))
  have hz : acc + c % 128 * 128 ^ i < 128 ^ (i + 1) := by
    have h1 : c % 128 + 1 ≤ 128 := by omega
    have h2 := Nat.mul_le_mul_right (128 ^ i) h1
    rw [Nat.add_mul, Nat.one_mul] at h2
    rw [Nat.pow_succ, Nat.mul_comm (128 ^ i) 128]
    omega
  have hzz : acc + c % 128 * 128 ^ i < 18446744073709551616 := by
    rcases Nat.lt_or_ge i 9 with h | h
    · have h3 := pow_le (i := i) (by omega)
      have : 128 ^ (i + 1) ≤ 9223372036854775808 := by rw [Nat.pow_succ]; omega
      omega
    · obtain rfl : i = 9 := by omega
      have hc1 := h9 rfl
      have e : (128 : Nat) ^ 9 = 9223372036854775808 := by decide
      rw [e] at hacc ⊢
      have : c % 128 ≤ 1 := by omega
      omega
  refine ⟨c % 128, c % 128 * 128 ^ i, acc + c % 128 * 128 ^ i, hA, ?_, ?_, ?_, rfl, hz, hzz⟩
  · simp [IntKind.wrap, IntKind.bits, IntKind.signed]; omega
  · rw [hpow]
    have : ((c % 128 : Nat) : Int) * ((128 ^ i : Nat) : Int) = ((c % 128 * 128 ^ i : Nat) : Int) := by push_cast; rfl
    rw [this]
    generalize c % 128 * 128 ^ i = q at *
    simp [IntKind.wrap, IntKind.bits, IntKind.signed]; omega
  · have h := u64_or_nat acc (c % 128 * 128 ^ i) (by omega) (by omega)
    rw [h]
    have hcm : acc ||| c % 128 * 128 ^ i = acc + c % 128 * 128 ^ i := by
      rw [Nat.or_comm, Nat.add_comm]
      exact nat_join (7 * i) _ _ (by rw [pow_128]; exact Nat.mul_mod_left _ _) (by rw [pow_128]; exact hacc)
    rw [hcm]

theorem dnum_more {i acc c : Nat} {b : UInt8} {r : List UInt8} (hb : b.toNat = c) (h9 : ¬ (9 ≤ i ∧ 1 < c)) (h : 128 ≤ c) : dnum i acc (b :: r) = dnum (i + 1) (acc + c % 128 * 128 ^ i) r := by
  subst hb; rw [dnum, if_neg h9, if_pos h]
theorem dnum_great {i acc c : Nat} {b : UInt8} {r : List UInt8} (hb : b.toNat = c) (h9 : 9 ≤ i ∧ 1 < c) : dnum i acc (b :: r) = none := by
  subst hb; rw [dnum, if_pos h9]
theorem dnum_zero {i acc c : Nat} {b : UInt8} {r : List UInt8} (hb : b.toNat = c) (h0 : c = 0) (hi : i ≠ 0) : dnum i acc (b :: r) = none := by
  subst hb; rw [dnum, if_neg (by omega), if_neg (by omega), if_pos ⟨h0, hi⟩]
theorem dnum_last {i acc c : Nat} {b : UInt8} {r : List UInt8} (hb : b.toNat = c) (h9 : ¬ (9 ≤ i ∧ 1 < c)) (h : ¬ 128 ≤ c) (h0 : ¬ (c = 0 ∧ i ≠ 0)) : dnum i acc (b :: r) = some (acc + c % 128 * 128 ^ i, r) := by
  subst hb; rw [dnum, if_neg h9, if_neg h, if_neg h0, Nat.mod_eq_of_lt (by omega : b.toNat < 128)]
theorem dnum_lt : ∀ (l : List UInt8) (i acc n : Nat) (r : List UInt8), i ≤ 9 → acc < 128 ^ i → dnum i acc l = some (n, r) → n < 18446744073709551616
  | [], _, _, _, _, _, _, h => by simp [dnum] at h
  | c :: t, i, acc, n, r, hi, hacc, h => by
    rw [dnum] at h
    split at h
    · cases h
    · rename_i h9
      obtain ⟨m, y, z, -, -, -, -, hz, hz1, hz2⟩ := step_pack i acc c.toNat hi hacc c.toNat_lt (by omega)
      split at h
      · refine dnum_lt t (i + 1) _ n r ?_ ?_ h
        · rcases Nat.lt_or_ge i 9 with h1 | h1
          · omega
          · have : ¬ 1 < c.toNat := by omega
            omega
        · rw [hz] at hz1; exact hz1
      · split at h
        · cases h
        · rename_i h128 _
          injection h with h
          injection h with h1 h2
          rw [← h1, ← Nat.mod_eq_of_lt (show c.toNat < 128 by omega), ← hz]
          exact hz2

set_option maxRecDepth 100000 in
set_option maxHeartbeats 1600000 in
theorem num_any (D p : Nat) (l : List UInt8) (w : World) (hR : Rd w D p l false) :
    Calls Tryz.prog 149 #[.pointer (some ⟨p, 0, none⟩)] w fun e w' => Told D p w u64v (dnum 0 0 l) e w' := by
  replace hR := hide hR
  go_enter Tryz.func149, Tryz.ntmps149
  go_wp2_with fail
  go_loopw [3, 4] (fun z s wr => ∃ (i acc : Nat) (l' : List UInt8), i ≤ 9 ∧ acc < 128 ^ i ∧ z = .int .u64 acc ∧ s = .int .i64 ((7 * i : Nat) : Int) ∧ Rd wr D p l' false ∧ Upd (At p) w wr ∧ dnum i acc l' = dnum 0 0 l) (fun _ s _ => 64 - (intOf s).toNat)
  case atStart => exact ⟨0, 0, l, Nat.zero_le _, by simp, rfl, rfl, hR.out, .refl _ _, rfl⟩
  case round =>
    obtain ⟨i, acc, l', hi, hacc, rfl, rfl, hR', hU, hE⟩ := hrel
    replace hU := hide hU
    generalize hs : 7 * i = s at *
    replace hs := hide hs
    replace hacc := hide hacc
    cases l' with
    | nil =>
      replace hE := hide hE
      go_wp2_with fail
      refine (next_any D p [] false _ hR').mono ?_
      rintro e w2 ⟨hU2, ⟨pv, rfl⟩, hR2⟩
      go_wp2_with fail
      refine ⟨rfl, ?_⟩
      rw [← hE.out]
      exact ⟨hU.out.then hU2, ⟨_, rfl⟩, _, hR2⟩
    | cons b r =>
      replace hR' := hide hR'
      have hb := b.toNat_lt
      generalize hbc : b.toNat = c at *
      replace hbc := hide hbc
      by_cases h9 : 9 ≤ i ∧ 1 < c
      · rw [dnum_great hbc.out h9] at hE
        replace hE := hide hE
        have h63 : ¬ (s : Int) < 63 := by have := hs.out; omega
        have hc1 : ¬ (c : Int) ≤ 1 := by omega
        go_wp2_with fail
        refine (next_any D p (b :: r) false _ hR'.out).mono ?_
        rintro e w2 ⟨hU2, rfl, hR2⟩
        rw [hbc.out]
        go_wp2_with fail
        refine (need_any _ _).mono ?_
        rintro e w' ⟨rfl, -, h⟩
        obtain ⟨pv, rfl⟩ := h (by simp; omega)
        go_wp2_with fail
        refine ⟨rfl, ?_⟩
        rw [← hE.out]
        exact ⟨hU.out.then hU2, ⟨_, rfl⟩, _, hR2⟩
      · obtain ⟨m, y, z, hm, hw1, hw2, ho, hz, hz1, hz2⟩ := step_pack i acc c hi hacc.out hb (by omega)
        rw [hs.out] at hw2
        have hmin : min s 64 = s := by have := hs.out; omega
        replace hz := hide hz
        replace hz1 := hide hz1
        by_cases hge : 128 ≤ c
        · rw [dnum_more hbc.out h9 hge, ← hz.out] at hE
          replace hE := hide hE
          have hi8 : i < 9 := by omega
          have h63 : (s : Int) < 63 := by have := hs.out; omega
          go_wp2_with fail
          refine (next_any D p (b :: r) false _ hR'.out).mono ?_
          rintro e w2 ⟨hU2, rfl, hR2⟩
          rw [hbc.out]
          go_wp2_with fail
          refine (need_any _ _).mono ?_
          rintro e w' ⟨rfl, h, -⟩
          obtain rfl := h (by simp)
          go_wp2_with fail
          go_roundw
          case rel => exact ⟨i + 1, z, r, by omega, hz1.out, rfl, by have := hs.out; go_num, hR2, hU.out.then hU2, hE.out⟩
          case measure => simp [intOf]; omega
        · by_cases h0 : c = 0 ∧ i ≠ 0
          · rw [dnum_zero hbc.out h0.1 h0.2] at hE
            replace hE := hide hE
            have hc0 : ((c : Int) != 0) = false := by simp; omega
            have hs0 : ((s : Int) == 0) = false := by have := hs.out; simp; omega
            by_cases hi8 : i < 9
            · have h63 : (s : Int) < 63 := by have := hs.out; omega
              go_wp2_with fail
              refine (next_any D p (b :: r) false _ hR'.out).mono ?_
              rintro e w2 ⟨hU2, rfl, hR2⟩
              rw [hbc.out]
              go_wp2_with fail
              refine (need_any _ _).mono ?_
              rintro e w' ⟨rfl, h, -⟩
              obtain rfl := h (by simp)
              go_wp2_with fail
              refine (need_any _ _).mono ?_
              rintro e w' ⟨rfl, -, h⟩
              obtain ⟨pv, rfl⟩ := h (by simp)
              go_wp2_with fail
              refine ⟨rfl, ?_⟩
              rw [← hE.out]
              exact ⟨hU.out.then hU2, ⟨_, rfl⟩, _, hR2⟩
            · have h63 : ¬ (s : Int) < 63 := by have := hs.out; omega
              have hc1 : (c : Int) ≤ 1 := by omega
              go_wp2_with fail
              refine (next_any D p (b :: r) false _ hR'.out).mono ?_
              rintro e w2 ⟨hU2, rfl, hR2⟩
              rw [hbc.out]
              go_wp2_with fail
              refine (need_any _ _).mono ?_
              rintro e w' ⟨rfl, h, -⟩
              obtain rfl := h (by simp; try omega)
              go_wp2_with fail
              refine (need_any _ _).mono ?_
              rintro e w' ⟨rfl, -, h⟩
              obtain ⟨pv, rfl⟩ := h (by simp)
              go_wp2_with fail
              refine ⟨rfl, ?_⟩
              rw [← hE.out]
              exact ⟨hU.out.then hU2, ⟨_, rfl⟩, _, hR2⟩
          · rw [dnum_last hbc.out h9 hge h0, ← hz.out] at hE
            replace hE := hide hE
            by_cases hc00 : c = 0
            · have hi0 : i = 0 := by omega
              have h63 : (s : Int) < 63 := by have := hs.out; omega
              have hcb : ((c : Int) != 0) = false := by simp; omega
              have hsb : ((s : Int) == 0) = true := by have := hs.out; simp; omega
              replace hc00 := hide hc00
              replace hi0 := hide hi0
              replace h0 := hide h0
              go_wp2_with fail
              refine (next_any D p (b :: r) false _ hR'.out).mono ?_
              rintro e w2 ⟨hU2, rfl, hR2⟩
              rw [hbc.out]
              go_wp2_with fail
              refine (need_any _ _).mono ?_
              rintro e w' ⟨rfl, h, -⟩
              obtain rfl := h (by simp; try omega)
              go_wp2_with fail
              refine (need_any _ _).mono ?_
              rintro e w' ⟨rfl, h, -⟩
              obtain rfl := h (by simp)
              go_wp2_with fail
              go_ret
              rw [← hE.out]
              exact ⟨hU.out.then hU2, rfl, hR2⟩
            · have hcb : ((c : Int) != 0) = true := by simp; omega
              by_cases hi8 : i < 9
              · have h63 : (s : Int) < 63 := by have := hs.out; omega
                go_wp2_with fail
                refine (next_any D p (b :: r) false _ hR'.out).mono ?_
                rintro e w2 ⟨hU2, rfl, hR2⟩
                rw [hbc.out]
                go_wp2_with fail
                refine (need_any _ _).mono ?_
                rintro e w' ⟨rfl, h, -⟩
                obtain rfl := h (by simp; try omega)
                go_wp2_with fail
                refine (need_any _ _).mono ?_
                rintro e w' ⟨rfl, h, -⟩
                obtain rfl := h (by simp)
                go_wp2_with fail
                go_ret
                rw [← hE.out]
                exact ⟨hU.out.then hU2, rfl, hR2⟩
              · have h63 : ¬ (s : Int) < 63 := by have := hs.out; omega
                have hc1 : (c : Int) ≤ 1 := by omega
                go_wp2_with fail
                refine (next_any D p (b :: r) false _ hR'.out).mono ?_
                rintro e w2 ⟨hU2, rfl, hR2⟩
                rw [hbc.out]
                go_wp2_with fail
                refine (need_any _ _).mono ?_
                rintro e w' ⟨rfl, h, -⟩
                obtain rfl := h (by simp; try omega)
                go_wp2_with fail
                refine (need_any _ _).mono ?_
                rintro e w' ⟨rfl, h, -⟩
                obtain rfl := h (by simp)
                go_wp2_with fail
                go_ret
                rw [← hE.out]
                exact ⟨hU.out.then hU2, rfl, hR2⟩
end Go.Proofs.YtpnboihbifhigaaGreatDoor.Cd
