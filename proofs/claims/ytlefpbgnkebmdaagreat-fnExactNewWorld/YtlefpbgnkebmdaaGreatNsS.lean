/- A new store: what the specification answers. -/
import Derived.Test.YtlefpbgnkebmdaaGreatNsU
import Derived.Deep.RegionLaw
namespace Go.Proofs.YtlefpbgnkebmdaaGreat.Ns
open Go.RowKit Tr Co
set_option linter.unusedVariables false

/-- Whether names rise from a text on, as a code. -/
def chkN : ByteArray → List ByteArray → Int
  | _, [] => 0
  | z, n :: t => if shortB n = false then 11 else if ltB z n = false then 19 else chkN n t
def nsC (l : List ByteArray) : Int := if 4096 < l.length then 2 else if l.length < 1 ∨ 3 < l.length then 6 else chkN em l
def nsL (l : List ByteArray) : List ByteArray := if nsC l = 0 then l else []
/-- What NewStore answers. -/
def NsR (l : List ByteArray) (w : World) (e : Ending) (w' : World) : Prop := (∃ p c t x q y ns, e = .returned (.tuple #[.agg #[.slice p ns.length c, .slice t 0 x, .slice q 0 y, .int .i64 0], .int .i64 (nsC l)]) ∧ ns.map NC.n = nsL l ∧ OwnN w' w.heap.size (.slice p ns.length c) ns) ∧ Below w.heap.size w w'
theorem chkN_at (z : ByteArray) (l : List ByteArray) (k : Nat) (h : k < l.length) : chkN z (l.drop k) = if shortB l[k] = false then 11 else if ltB z l[k] = false then 19 else chkN l[k] (l.drop (k + 1)) := by
  rw [List.drop_eq_getElem_cons h]; rfl
def lastN (l : List ByteArray) (k : Nat) : ByteArray := if k = 0 then em else (l[k - 1]?).getD em
theorem lastN_succ (l : List ByteArray) (k : Nat) (h : k < l.length) : lastN l (k + 1) = l[k] := by unfold lastN; rw [if_neg (by omega)]; simp [List.getElem?_eq_getElem h]
theorem shortB_pos (s : ByteArray) (h : shortB s = true) : 0 < s.size := by
  rcases Nat.eq_zero_or_pos s.size with h0 | h0
  · obtain ⟨⟨l⟩⟩ := s
    cases l with
    | nil => exact absurd h (by decide)
    | cons a l => simp [ByteArray.size] at h0
  · exact h0
theorem rowAt {w : World} {base n : Nat} {e : TypeId} {size : Nat} {v : Value} {xs : List Value} (h : w.ownsRow base e size v n xs) (hn : 0 < n) : ∃ g cap, v = .slice (some ⟨g, 0, none⟩) n cap ∧ base ≤ g ∧ g < w.heap.size := by
  have hlt := h.lt
  obtain ⟨h1, h2⟩ := h
  rcases h2 with ⟨_, h3⟩ | ⟨g, cap, cur, hv, hg, hh, r⟩
  · omega
  · exact ⟨g, cap, hv, hg, (hlt g (by rw [hv]; rfl)).2⟩
theorem step_appN {ops : Array Oper} {o : Oper} {a : Act} {w : World} {K : Act → World → Prop} {Q : Exit → Act → World → Prop} {E : Prop} (hgd : o.guard = none) (s x : Operand)
    (ho : o.op = .call { callee := .builtin .append, args := #[s, x], argTypes := #[22, 22] }) (base n : Nat) (v : Value) (xs : List Value)
    (hs : a.eval s = v) (hown : w.ownsRow base 56 3 v n xs) (ad : Addr) (m c : Nat) (news : List Value) (hx : a.eval x = .slice (some ad) m c) (hl : news.length = m * 3) (hnews : ∀ j u, news[j]? = some u → w.cell? (ad.add j) = some u) (h1 : ∀ u ∈ news, u.oneCell' = true)
    (hn : n ≤ 1000) (hm : m ≤ 1000) (hbase : base ≤ w.heap.size)
    (hK : ∀ v' w', w'.ownsRow base 56 3 v' (n + m) (xs ++ news) → w.grownBy w' v.ownBlock → (v'.ownBlock = v.ownBlock ∨ v'.ownBlock = some w.heap.size) → K (a.put o.dst v') w') : if Region.wanted o (yielded ops a.tmps) = true then Oper.wp Tryz.prog o a w K Q else E := by
  have hw : Region.wanted o (yielded ops a.tmps) = true := by simp [Region.wanted, hgd]
  rw [if_pos hw]
  obtain ⟨i0, hi, hz0, hz1, hz2⟩ := info_parts infoNc
  obtain ⟨v', w', hr, h2, h3, h4, h5⟩ := run_append_own_at (P := Tryz.prog) w base 22 o.type 56 i0 (.agg #[.string em, .slice none 0 0, .slice none 0 0]) 3 64 Tryz.underlying22 hi hz0 hz1 hz2 rfl (by decide) v n xs hown ad m c news hl hnews h1 (by unfold maxLen; omega) (by omega) hbase
  unfold Oper.wp execOp
  simp only [ho, resolve, invoke, builtin, Sem.run_bind, Sem.run_pure, Result.andThen_ok, List.map_toArray, List.map_cons, List.map_nil, hs, hx, hr]
  exact hK v' w' h2 h3 h5
theorem three_new (w : World) (t : NC) (T : TypeId) : ∀ j u, (rowN t)[j]? = some u → (w.alloc (.cells #[.string t.n, .slice t.pa 0 t.ca, .slice t.pb 0 t.cb] T)).cell? ((⟨w.heap.size, 0, none⟩ : Addr).add j) = some u := by
  intro j u hj
  unfold rowN at hj
  match j, hj with
  | 0, hj => simp at hj; subst hj; simp [Addr.add, go_sem]
  | 1, hj => simp at hj; subst hj; simp [Addr.add, go_sem]
  | 2, hj => simp at hj; subst hj; simp [Addr.add, go_sem]
  | j + 3, hj => simp at hj
theorem three_one (t : NC) : ∀ u ∈ rowN t, u.oneCell' = true := by
  intro u hu
  unfold rowN at hu
  simp at hu
  rcases hu with rfl | rfl | rfl <;> rfl
/-- A result block in the first new block, a store that is being made in a later one. -/
structure Mk2 (w W : World) (G : Nat) (a0 b1 b2 : Value) : Prop where
  bel : Below w.heap.size w W
  lo : w.heap.size < G
  r : ∃ x0 x1 x2 x3, S4 W w.heap.size x0 x1 x2 x3
  s : S4 W G a0 b1 b2 (.int .i64 0)
theorem S4.al {U : World} {b : Nat} {a0 a1 a2 a3 : Value} (h : S4 U b a0 a1 a2 a3) (o : Obj) : S4 (U.alloc o) b a0 a1 a2 a3 := h.step ((Below.refl _ _).alloc (Nat.le_refl _) o)
theorem Mk2.next {w W W' : World} {G : Nat} {a0 b1 b2 : Value} (h : Mk2 w W G a0 b1 b2) (hb : Below W.heap.size W W') : Mk2 w W' G a0 b1 b2 := by
  obtain ⟨x0, x1, x2, x3, hr⟩ := h.r
  exact ⟨h.bel.trans (hb.mono h.bel.size), h.lo, ⟨x0, x1, x2, x3, hr.step hb⟩, h.s.step hb⟩
theorem Mk2.out {w W W' : World} {G : Nat} {a0 b1 b2 : Value} {row : Option Nat} (h : Mk2 w W G a0 b1 b2) (hg : W.grownBy W' row) (hr : ∀ g, row = some g → w.heap.size < g ∧ g ≠ G) : Mk2 w W' G a0 b1 b2 := by
  obtain ⟨x0, x1, x2, x3, hr'⟩ := h.r
  exact ⟨h.bel.grown hg h.bel.size (fun k hk => by have := hr k hk; omega), h.lo, ⟨x0, x1, x2, x3, hr'.out hg (fun e => by have := hr _ e.symm; omega)⟩, h.s.out hg (fun e => (hr _ e.symm).2 rfl)⟩
theorem Mk2.put {w W : World} {G : Nat} {a0 b1 b2 : Value} (h : Mk2 w W G a0 b1 b2) (v : Value) : Mk2 w (W.setCell ⟨G, 0, none⟩ v) G v b1 b2 := by
  obtain ⟨x0, x1, x2, x3, hr⟩ := h.r
  have := h.lo
  exact ⟨h.bel.setCell (by simp; omega) _, h.lo, ⟨x0, x1, x2, x3, hr.off v (by omega)⟩, h.s.put v⟩
structure MkF (W : World) (b : Nat) (a0 a1 a2 a3 : Value) : Prop where
  lt : b < W.heap.size
  c0 : W.cell? ⟨b, 0, none⟩ = some a0
  c1 : W.cell? ⟨b, 1, none⟩ = some a1
  c2 : W.cell? ⟨b, 2, none⟩ = some a2
  c3 : W.cell? ⟨b, 3, none⟩ = some a3
  f0 : W.frozen? ⟨b, 0, none⟩ = false
  f1 : W.frozen? ⟨b, 1, none⟩ = false
  f2 : W.frozen? ⟨b, 2, none⟩ = false
  f3 : W.frozen? ⟨b, 3, none⟩ = false
theorem S4.all {W : World} {b : Nat} {a0 a1 a2 a3 : Value} (h : S4 W b a0 a1 a2 a3) : MkF W b a0 a1 a2 a3 := ⟨h.lt, h.cells.1, h.cells.2.1, h.cells.2.2.1, h.cells.2.2.2, h.soft 0, h.soft 1, h.soft 2, h.soft 3⟩


set_option maxRecDepth 4000 in
set_option maxHeartbeats 2000000 in
theorem l11New_any (g : Nat) (c0 : Nat) (l : List ByteArray) (w : World) (hr : ReadS w g 0 l) (hl : l.length ≤ 3) :
    Calls Tryz.prog 10 #[.slice (some ⟨g, 0, none⟩) l.length c0] w fun e w' => (∃ p c t x q y ns, e = .returned (.agg #[.slice p l.length c, .slice t 0 x, .slice q 0 y, .int .i64 0]) ∧ ns.map NC.n = l ∧ OwnN w' w.heap.size (.slice p l.length c) ns) ∧ Below w.heap.size w w' := by
  obtain ⟨iE, hiE, hzE0, hzE1, hzE2⟩ := info_parts infoNc
  have HRD : Hid (ReadS _ _ _ _) := hr
  have M0 : Mk2 w (((((w.alloc (.cells #[.slice none 0 0, .slice none 0 0, .slice none 0 0, .int .i64 0] 26)).alloc (.cells #[] 56)).alloc (.cells #[] 73)).alloc (.cells #[] 41)).alloc (.cells #[.slice (some ⟨w.heap.size + 1, 0, none⟩) 0 0, .slice (some ⟨w.heap.size + 1 + 1, 0, none⟩) 0 0, .slice (some ⟨w.heap.size + 1 + 1 + 1, 0, none⟩) 0 0, .int .i64 0] 26)) (w.heap.size + 1 + 1 + 1 + 1) (.slice (some ⟨w.heap.size + 1, 0, none⟩) 0 0) (.slice (some ⟨w.heap.size + 1 + 1, 0, none⟩) 0 0) (.slice (some ⟨w.heap.size + 1 + 1 + 1, 0, none⟩) 0 0) := by
    refine ⟨by (repeat (first | (with_reducible exact Below.refl _ _) | (with_reducible assumption) | (with_reducible apply below_drewN) | (with_reducible apply Below.drew) | ((with_reducible refine Below.setCell ?_ ?_ _); rotate_left; focus (first | (simp; done) | (simp; omega) | omega)) | ((with_reducible refine Below.alloc ?_ ?_ _); rotate_left; focus (first | (simp; done) | (simp; omega) | omega)))), by omega, ⟨_, _, _, _, ((((S4.new w _ _ _ _).al _).al _).al _).al _⟩, ?_⟩
    have h := S4.new ((((w.alloc (.cells #[.slice none 0 0, .slice none 0 0, .slice none 0 0, .int .i64 0] 26)).alloc (.cells #[] 56)).alloc (.cells #[] 73)).alloc (.cells #[] 41)) (.slice (some ⟨w.heap.size + 1, 0, none⟩) 0 0) (.slice (some ⟨w.heap.size + 1 + 1, 0, none⟩) 0 0) (.slice (some ⟨w.heap.size + 1 + 1 + 1, 0, none⟩) 0 0) (.int .i64 0)
    rw [show ((((w.alloc (.cells #[.slice none 0 0, .slice none 0 0, .slice none 0 0, .int .i64 0] 26)).alloc (.cells #[] 56)).alloc (.cells #[] 73)).alloc (.cells #[] 41)).heap.size = w.heap.size + 1 + 1 + 1 + 1 by simp] at h
    exact h
  have O0 : OwnN (((((w.alloc (.cells #[.slice none 0 0, .slice none 0 0, .slice none 0 0, .int .i64 0] 26)).alloc (.cells #[] 56)).alloc (.cells #[] 73)).alloc (.cells #[] 41)).alloc (.cells #[.slice (some ⟨w.heap.size + 1, 0, none⟩) 0 0, .slice (some ⟨w.heap.size + 1 + 1, 0, none⟩) 0 0, .slice (some ⟨w.heap.size + 1 + 1 + 1, 0, none⟩) 0 0, .int .i64 0] 26)) (w.heap.size + 1) (.slice (some ⟨w.heap.size + 1, 0, none⟩) 0 0) [] := by
    have h := World.ownsRow_made (size := 3) (e := 56) (w.alloc (.cells #[.slice none 0 0, .slice none 0 0, .slice none 0 0, .int .i64 0] 26)) #[] 0 (base := w.heap.size + 1) (by simp) (by unfold maxLen; omega) rfl
    rw [show (w.alloc (.cells #[.slice none 0 0, .slice none 0 0, .slice none 0 0, .int .i64 0] 26)).heap.size = w.heap.size + 1 by simp] at h
    exact World.ownsRow.alloc (World.ownsRow.alloc (World.ownsRow.alloc h _) _) _
  clear hr
  go_enter Tryz.func10, Tryz.ntmps10
  go_wp2_with fail
  generalize (((((w.alloc (.cells #[.slice none 0 0, .slice none 0 0, .slice none 0 0, .int .i64 0] 26)).alloc (.cells #[] 56)).alloc (.cells #[] 73)).alloc (.cells #[] 41)).alloc (.cells #[.slice (some ⟨w.heap.size + 1, 0, none⟩) 0 0, .slice (some ⟨w.heap.size + 1 + 1, 0, none⟩) 0 0, .slice (some ⟨w.heap.size + 1 + 1 + 1, 0, none⟩) 0 0, .int .i64 0] 26)) = W0 at M0 O0 ⊢
  obtain ⟨G, hG⟩ : ∃ G, G = w.heap.size + 1 + 1 + 1 + 1 := ⟨_, rfl⟩
  rw [← hG] at M0 ⊢
  have hne0 : (Value.slice (some ⟨w.heap.size + 1, 0, none⟩) 0 0).ownBlock ≠ some G := by intro e; simp [Value.ownBlock] at e; omega
  obtain ⟨B1, hB1⟩ : ∃ B1, B1 = Value.slice (some ⟨w.heap.size + 1 + 1, 0, none⟩) 0 0 := ⟨_, rfl⟩
  obtain ⟨B2, hB2⟩ : ∃ B2, B2 = Value.slice (some ⟨w.heap.size + 1 + 1 + 1, 0, none⟩) 0 0 := ⟨_, rfl⟩
  rw [← hB1, ← hB2] at M0
  have HB1 : Hid (∃ t x, B1 = .slice t 0 x) := ⟨_, _, hB1⟩
  have HB2 : Hid (∃ t x, B2 = .slice t 0 x) := ⟨_, _, hB2⟩
  clear hG hB1 hB2
  go_loopw [4] (fun i wr => ∃ (k : Nat) (pv : Option Addr) (cv : Nat) (ns : List NC), k ≤ l.length ∧ i = .int .i64 k ∧ ns.map NC.n = l.take k ∧ Mk2 w wr G (.slice pv k cv) B1 B2 ∧ OwnN wr (w.heap.size + 1) (.slice pv k cv) ns ∧ (Value.slice pv k cv).ownBlock ≠ some G) (fun i _ => l.length - (intOf i).toNat)
  case atStart => exact ⟨0, _, 0, [], Nat.zero_le _, rfl, rfl, M0, O0, hne0⟩
  case round =>
    obtain ⟨k, pv, cv, ns, hk, rfl, hns, M, hO, hne⟩ := hrel
    have HO : Hid (OwnN _ _ _ _) := hO
    have HM : Hid (Mk2 _ _ _ _ _ _) := M
    have HNS : Hid (ns.map NC.n = l.take k) := hns
    have HNE : Hid (_ ≠ _) := hne
    have hnl : ns.length = k := by have := congrArg List.length hns; simpa [Nat.min_eq_left hk] using this
    have hzG := M.s.lt
    have hlo := M.lo
    clear hO M0 O0 hne0 hns hne
    by_cases hlt : k < l.length
    · have hlt2 : (k : Int) < (l.length : Int) := by omega
      have hrd := HRD.out.step M.bel HRD.out.lt
      have e0 := hrd.cells k hlt
      rw [Nat.zero_add] at e0
      have el := hrd.lt
      obtain ⟨en, hen⟩ : ∃ en, en = l[k] := ⟨_, rfl⟩
      rw [← hen] at e0
      have HTK : Hid (l.take (k + 1) = l.take k ++ [en]) := by show _ = _; rw [hen]; exact List.take_succ_eq_append_getElem hlt
      have F := M.s.all
      obtain ⟨fl, fc0, fc1, fc2, fc3, ff0, ff1, ff2, ff3⟩ := F
      have HOA' : Hid (wr.ownsRow (w.heap.size + 1) 56 3 (.slice pv k cv) k (flatN ns)) := by have h := HO.out; unfold OwnN at h; rw [hnl] at h; exact h
      have HC : Hid (∀ W : World, Calls _ _ _ W _) := fun W => l08New_any en W
      clear hrd hen M HO
      go_wp2_with fail
      go_region_law (first
        | (refine step_appN rfl (.tmp 16) (.tmp 22) rfl (w.heap.size + 1) k (.slice pv k cv) (flatN ns) (by simp [Act.eval]) (O6.out.alloc _) ⟨w6.heap.size, 0, none⟩ 1 1 (rowN ⟨en, np, nc, nq, nd⟩) (by simp [Act.eval]) rfl (three_new _ _ _) (three_one _) (by omega) (by omega) (by simp; omega) ?_; intro v'' w7 o7 g7 at7; have hM7 : Mk2 w w7 G (.slice pv k cv) B1 B2 := (M6.out.next ((Below.refl _ w6).alloc (Nat.le_refl _) (.cells (rowN ⟨en, np, nc, nq, nd⟩).toArray 56))).out g7 (fun g h => ⟨by have := (O6.out.lt g h).1; omega, fun e => HNE.out (by rw [h, e])⟩); have M7 : Hid (Mk2 _ _ _ _ _ _) := hM7; obtain ⟨fl, fc0, fc1, fc2, fc3, ff0, ff1, ff2, ff3⟩ := hM7.s.all; obtain ⟨gv, cw, hvv, hgv, hgl⟩ := rowAt o7 (by omega); subst hvv; clear hM7)
        | (go_simp; go_wp2_with (go_at_call 22; refine (HC.out _).mono ?_; rintro e w6 ⟨⟨np, nc, nq, nd, rfl⟩, hb6⟩; have hB6 : Below wr.heap.size wr w6 := (show Below wr.heap.size wr _ by (repeat (first | (with_reducible exact Below.refl _ _) | (with_reducible assumption) | (with_reducible apply below_drewN) | (with_reducible apply Below.drew) | ((with_reducible refine Below.setCell ?_ ?_ _); rotate_left; focus (first | (simp; done) | (simp; omega) | omega)) | ((with_reducible refine Below.alloc ?_ ?_ _); rotate_left; focus (first | (simp; done) | (simp; omega) | omega))))).trans (hb6.mono (by simp)); have O6 : Hid (World.ownsRow _ _ _ _ _ _ _) := owns_below HOA'.out hB6; have M6 : Hid (Mk2 _ _ _ _ _ _) := HM.out.next hB6; obtain ⟨fl, fc0, fc1, fc2, fc3, ff0, ff1, ff2, ff3⟩ := M6.out.s.all; have hz6 := hB6.size; clear hb6 hB6)))
      all_goals
        have hgG : gv ≠ G := by
          rcases at7 with e | e
          · intro h; subst h; exact HNE.out (by rw [← e]; rfl)
          · intro h; subst h; injection e with e; simp at e; omega
        have HM8 : Hid (Mk2 _ _ _ _ _ _) := M7.out.put (.slice (some ⟨gv, 0, none⟩) (k + 1) cw)
        have HO8 : Hid (OwnN (w7.setCell ⟨G, 0, none⟩ (.slice (some ⟨gv, 0, none⟩) (k + 1) cw)) (w.heap.size + 1) (.slice (some ⟨gv, 0, none⟩) (k + 1) cw) (ns ++ [⟨en, np, nc, nq, nd⟩])) := by
          have h : OwnN w7 (w.heap.size + 1) (.slice (some ⟨gv, 0, none⟩) (k + 1) cw) (ns ++ [⟨en, np, nc, nq, nd⟩]) := by
            unfold OwnN
            rw [flatN_snoc, List.length_append, hnl]
            exact o7
          exact World.ownsRow.kept h grown_set (.inr (fun e => by injection e with e; exact hgG e))
        have HMP : Hid ((ns ++ [(⟨en, np, nc, nq, nd⟩ : NC)]).map NC.n = l.take (k + 1)) := by show _ = _; rw [HTK.out, List.map_append, HNS.out]; rfl
        clear o7 g7 at7 M7 HNS HTK
        go_wp2_with fail
        go_roundw
        case rel => exact ⟨k + 1, _, _, _, by omega, by go_num, HMP.out, HM8.out, HO8.out, fun e => by injection e with e; exact hgG e⟩
        case measure => simp [intOf]; omega
    · obtain rfl : k = l.length := by omega
      obtain ⟨t1, x1, rfl⟩ := HB1.out
      obtain ⟨t2, x2, rfl⟩ := HB2.out
      obtain ⟨fl, fc0, fc1, fc2, fc3, ff0, ff1, ff2, ff3⟩ := M.s.all
      obtain ⟨a0, a1, a2, a3, hrr⟩ := M.r
      obtain ⟨rl, rc0, rc1, rc2, rc3, rf0, rf1, rf2, rf3⟩ := hrr.all
      have hmp : ns.map NC.n = l := by rw [HNS.out, List.take_length]
      have hrb : (Value.slice pv l.length cv).ownBlock = none ∨ (Value.slice pv l.length cv).ownBlock ≠ some w.heap.size := by
        cases hv : (Value.slice pv l.length cv).ownBlock with
        | none => exact .inl rfl
        | some g => exact .inr (fun e => by injection e with e; have := (World.ownsRow.lt HO.out g hv).1; omega)
      have HRB : Hid _ := hrb
      have HMP : Hid _ := hmp
      have hbw := M.bel
      clear hrb hmp M hrr HM HNS HNE
      go_wp2_with fail
      refine bodyPost_ret (v := .agg #[.slice pv l.length cv, .slice t1 0 x1, .slice t2 0 x2, .int .i64 0]) (by simp [results, Tryz.results10, go_sem, *]) rfl ⟨⟨pv, cv, t1, x1, t2, x2, ns, rfl, HMP.out, ?_⟩, ?_⟩
      · exact owns_mono (World.ownsRow.kept (World.ownsRow.kept (World.ownsRow.kept (World.ownsRow.kept HO.out grown_set HRB.out) grown_set HRB.out) grown_set HRB.out) grown_set HRB.out) (Nat.le_succ _)
      · (repeat (first | (with_reducible exact Below.refl _ _) | (with_reducible assumption) | (with_reducible apply below_drewN) | (with_reducible apply Below.drew) | ((with_reducible refine Below.setCell ?_ ?_ _); rotate_left; focus (first | (simp; done) | (simp; omega) | omega)) | ((with_reducible refine Below.alloc ?_ ?_ _); rotate_left; focus (first | (simp; done) | (simp; omega) | omega))))


theorem NsR.bad {l : List ByteArray} {w w' : World} {c : Int} (hc : nsC l = c) (hn : c ≠ 0) (hb : Below w.heap.size w w') : NsR l w (.returned (.tuple #[.agg #[.slice none 0 0, .slice none 0 0, .slice none 0 0, .int .i64 0], .int .i64 c])) w' :=
  ⟨⟨none, 0, none, 0, none, 0, [], by rw [hc]; rfl, by unfold nsL; rw [hc, if_neg hn]; rfl, ⟨rfl, .inl ⟨rfl, rfl⟩⟩⟩, hb⟩
theorem NsR.good {l : List ByteArray} {w w' : World} {p t q : Option Addr} {c x y : Nat} {ns : List NC} (hc : nsC l = 0) (hm : ns.map NC.n = l) (ho : OwnN w' w.heap.size (.slice p l.length c) ns) (hb : Below w.heap.size w w') : NsR l w (.returned (.tuple #[.agg #[.slice p l.length c, .slice t 0 x, .slice q 0 y, .int .i64 0], .int .i64 0])) w' := by
  have he : ns.length = l.length := by have := congrArg List.length hm; simpa using this
  refine ⟨⟨p, c, t, x, q, y, ns, by rw [hc, he], by unfold nsL; rw [if_pos hc]; exact hm, by rw [he]; exact ho⟩, hb⟩
end Go.Proofs.YtlefpbgnkebmdaaGreat.Ns
