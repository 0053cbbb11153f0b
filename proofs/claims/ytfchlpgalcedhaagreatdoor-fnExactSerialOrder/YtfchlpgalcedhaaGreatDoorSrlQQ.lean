/- The queue of those that wait, and who of them is ready: what the program answers. -/
import Derived.Test.YtfchlpgalcedhaaGreatDoorDnsIQ
import Derived.Shelf.SlicesE.Delete
import Derived.Ground.SlgnProg
import Derived.Lib.OwnBridge
import Derived.Lib.Hide
import Derived.RangeFuncBox
import Derived.Maps.AppendAt
import Derived.Deep.RegionHeld3
import Derived.Test.YtfchlpgalcedhaaGreatDoorDnsRQ
namespace Go.Proofs
open Go.RowKit
shelf_lay_g SlLaysE.n45 Slgn 45 at Tryz 55 as Tryz.delInt
end Go.Proofs
namespace Go.Proofs.YtfchlpgalcedhaaGreatDoor.Ce
open Go.RowKit Go.Shelf Tr Co Rea
set_option linter.unusedVariables false

theorem intsV_map (l : List Int) : intsV l = l.map (Value.int .i64) := rfl
theorem map_eraseIdx {α β : Type} (f : α → β) : ∀ (l : List α) (i : Nat), (l.eraseIdx i).map f = (l.map f).eraseIdx i
  | [], _ => rfl
  | _ :: _, 0 => rfl
  | a :: t, i + 1 => by show f a :: (t.eraseIdx i).map f = f a :: (t.map f).eraseIdx i; rw [map_eraseIdx f t i]
theorem natI_erase (l : List Nat) (i : Nat) : natI (l.eraseIdx i) = (natI l).eraseIdx i := map_eraseIdx _ l i
theorem natI_get (l : List Nat) (i : Nat) (h : i < l.length) : (natI l)[i]'(by rw [natI_len]; exact h) = (l[i] : Int) := by unfold natI; simp
/-- From W to W' all that lay in W is as it was, but in one block and in the block of one row. -/
structure Qk (Q : Nat) (r : Option Nat) (W W' : World) : Prop where
  os : W'.os = W.os
  tape : W'.tape = W.tape
  output : W'.output = W.output
  size : W.heap.size ≤ W'.heap.size
  block : ∀ b, b < W.heap.size → b ≠ Q → some b ≠ r → W'.heap[b]? = W.heap[b]?
theorem Qk.below {Q B : Nat} {r : Option Nat} {W W' : World} (h : Qk Q r W W') (hB : B ≤ W.heap.size) (h1 : B ≤ Q) (h2 : ∀ b, r = some b → B ≤ b) : Below B W W' :=
  ⟨h.os, h.tape, h.output, h.size, fun k hk => h.block k (by omega) (by omega) (fun e => by have := h2 k e.symm; omega)⟩
theorem Qk.of_below {Q : Nat} {r : Option Nat} {W W' : World} (h : Below W.heap.size W W') : Qk Q r W W' := ⟨h.os, h.tape, h.output, h.size, fun b hb _ _ => h.block b hb⟩
theorem Qk.of_grown {Q : Nat} {r : Option Nat} {W W' : World} (h : W.grownBy W' r) : Qk Q r W W' := ⟨h.os, h.tape, h.output, h.size, fun b hb _ hr => h.block b hb hr⟩
theorem Qk.trans {Q : Nat} {r : Option Nat} {X Y Z : World} (h : Qk Q r X Y) (k : Qk Q r Y Z) : Qk Q r X Z :=
  ⟨k.os.trans h.os, k.tape.trans h.tape, k.output.trans h.output, Nat.le_trans h.size k.size, fun b hb h1 h2 => (k.block b (Nat.lt_of_lt_of_le hb h.size) h1 h2).trans (h.block b hb h1 h2)⟩
theorem Qk.set {Q : Nat} {r : Option Nat} (W : World) (v : Value) : Qk Q r W (W.setCell ⟨Q, 0, none⟩ v) :=
  have g := grownBy_setCell' W Q v
  ⟨g.os, g.tape, g.output, g.size, fun b hb h1 _ => g.block b hb (fun e => h1 (Option.some.inj e))⟩
theorem Qk.owns {Q : Nat} {r : Option Nat} {W W' : World} (h : Qk Q r W W') {base : Nat} {e : TypeId} {size : Nat} {v : Value} {n : Nat} {xs : List Value} (ho : W.ownsRow base e size v n xs) (h1 : ∀ g, v.ownBlock = some g → g ≠ Q) (h2 : ∀ g, v.ownBlock = some g → some g ≠ r) : W'.ownsRow base e size v n xs := by
  have hlt := ho.lt
  obtain ⟨o1, o2⟩ := ho
  refine ⟨o1, ?_⟩
  rcases o2 with o2 | ⟨g, cap, cur, hv, hg, hh, rr⟩
  · exact .inl o2
  · have hb : v.ownBlock = some g := by rw [hv]; rfl
    exact .inr ⟨g, cap, cur, hv, hg, by rw [h.block g (hlt g hb).2 (h1 g hb) (h2 g hb)]; exact hh, rr⟩

theorem ownI_some {w : World} {base g : Nat} {v : Value} {l : List Int} (h : OwnI w base v l) (hb : v.ownBlock = some g) : ∃ m cap, v = .slice (some ⟨g, 0, none⟩) m cap := by
  rcases h.form with ⟨rfl, _⟩ | ⟨g', cap, rfl, _, _⟩
  · cases hb
  · obtain rfl : g' = g := by simpa [Value.ownBlock] using hb
    exact ⟨_, cap, rfl⟩
theorem ownI_pos {w : World} {base : Nat} {v : Value} {l : List Int} (h : OwnI w base v l) (hl : l ≠ []) : ∃ g m cap, v = .slice (some ⟨g, 0, none⟩) m cap := by
  rcases h.form with ⟨_, h0⟩ | ⟨g', cap, rfl, _, _⟩
  · exact absurd h0 hl
  · exact ⟨_, _, cap, rfl⟩
/-- One of a row of the call's own is taken out. -/
theorem delOwn_any (base : Nat) (v : Value) (l : List Int) (a : Nat) (w : World) (ho : OwnI w base v l) (ha : a < l.length) :
    Calls Tryz.prog 55 #[v, .int .i64 a, .int .i64 ((a + 1 : Nat) : Int)] w fun e w' => ∃ v', e = .returned v' ∧ OwnI w' base v' (l.eraseIdx a) ∧ v'.ownBlock = v.ownBlock ∧ w.grownBy w' v.ownBlock := by
  obtain ⟨i0, hi, hz0, hz1, hz2⟩ := info_parts infoZ
  have ho' : w.ownsRow base 3 1 v l.length (l.map (Value.int .i64)) := ho
  obtain ⟨g, cap, rfl, hbg, hlt, hn, hm, hl, hH⟩ := Lib.holds_of_ownsRow ho' (by
    rintro rfl
    rcases ho.2 with ⟨_, h2⟩ | ⟨_, _, _, h, _⟩
    · omega
    · cases h)
  have hsz : l.toArray.size = l.length := by simp
  have hd := AnyE.slices_Delete Tryz.delInt (Value.int .i64) (fun _ => rfl) 0 Tryz.zeroValue3 i0 hi hz1 g 0 cap a (a + 1) l.toArray w hH (by omega) (by unfold maxLen at hm; omega) (by omega) (by omega)
  rw [hsz] at hd
  refine hd.mono ?_
  rintro e w' ⟨rfl, q, rfl⟩
  have hys : (l.take a ++ l.drop (a + 1) ++ List.replicate (a + 1 - a) (0 : Int)).length = l.length := by simp; omega
  have hrow := Lib.ownsRow_putRow (q := q) (k := l.length - 1) ho' hys (by omega)
  have hk : (l.take a ++ l.drop (a + 1) ++ List.replicate (a + 1 - a) (0 : Int)).take (l.length - 1) = l.eraseIdx a := by
    rw [List.eraseIdx_eq_take_drop_succ, List.take_append_of_le_length (by simp; omega), List.take_of_length_le (by simp; omega)]
  rw [hk] at hrow
  have hle : (l.eraseIdx a).length = l.length - 1 := List.length_eraseIdx_of_lt ha
  refine ⟨_, rfl, ?_, rfl, ?_⟩
  · unfold OwnI
    rw [hle, show l.length - (a + 1 - a) = l.length - 1 by omega]
    exact hrow
  · refine ⟨rfl, rfl, rfl, by simp [Sort.putRow, Sort.mapBlock, Sort.ahead], fun k hk hne => ?_⟩
    have hgk : g ≠ k := fun e => hne (by rw [e]; rfl)
    simp [Sort.putRow, Sort.mapBlock, Sort.ahead, Array.getElem?_modify, hgk]

set_option maxRecDepth 4000 in
set_option maxHeartbeats 1000000 in
theorem add_any (Q base : Nat) (v : Value) (l : List Int) (x : Int) (W : World) (hq : Go.Boxed W Q 62 v) (ho : OwnI W base v l) (hQ : Q < base) (hB : base ≤ W.heap.size) (hlim : l.length ≤ 1000) :
    Calls Tryz.prog 30 #[.pointer (some ⟨Q, 0, none⟩), .int .i64 x] W fun e w' => (∃ u, e = .returned u) ∧ ∃ v', Go.Boxed w' Q 62 v' ∧ OwnI w' base v' (l ++ [x]) ∧ Below Q W w' := by
  have hc := hq.cell
  have hl0 := hq.lt
  have HQ : Hid (Go.Boxed _ _ _ _) := hq
  have HO : Hid (OwnI _ _ _ _) := ho
  clear hq ho
  go_enter Tryz.func30, Tryz.ntmps30
  go_wp2_with (at_builtin; refine appOneI rfl (.tmp 8) (.tmp 10) rfl base _ l x _ rfl rfl (by simp) HO.out hB (by omega) ?_; intro v1 w4 o1 b1'; refine Hid.out ?_)
  refine Lib.hid ?_
  obtain ⟨g1, m1, k1, rfl⟩ := ownI_pos o1 (by simp)
  have q1 : Go.Boxed w4 Q 62 v := (b1'.block Q hQ).trans HQ.out
  have hc1 := q1.cell
  have hf1 := q1.frozen
  have HQ2 : Hid (Go.Boxed (w4.setCell ⟨Q, 0, none⟩ (.slice (some ⟨g1, 0, none⟩) m1 k1)) Q 62 _) := q1.set (.slice (some ⟨g1, 0, none⟩) m1 k1)
  have hne : ∀ g, (Value.slice (some ⟨g1, 0, none⟩) m1 k1).ownBlock = some g → g ≠ Q := fun g hg e => by have := (World.ownsRow.lt o1 g hg).1; omega
  have HO2 : Hid (OwnI (w4.setCell ⟨Q, 0, none⟩ (.slice (some ⟨g1, 0, none⟩) m1 k1)) base (.slice (some ⟨g1, 0, none⟩) m1 k1) (l ++ [x])) := World.ownsRow.kept o1 (grownBy_setCell' w4 Q _) (.inr (fun e => hne Q e rfl))
  have HB2 : Hid (Below Q W (w4.setCell ⟨Q, 0, none⟩ (.slice (some ⟨g1, 0, none⟩) m1 k1))) := (show Below Q W (w4.setCell ⟨Q, 0, none⟩ (.slice (some ⟨g1, 0, none⟩) m1 k1)) from (b1'.mono (Nat.le_of_lt hQ)).setCell (p := ⟨Q, 0, none⟩) (Nat.le_refl _) _)
  clear o1 q1 hne
  go_wp2_with fail
  go_end0
  exact ⟨⟨_, rfl⟩, _, HQ2.out, HO2.out, HB2.out⟩

set_option maxRecDepth 4000 in
set_option maxHeartbeats 1000000 in
theorem isEmpty_any (Q n c : Nat) (p : Option Addr) (W : World) (hc : W.cell? ⟨Q, 0, none⟩ = some (.slice p n c)) (hl : Q < W.heap.size) :
    Calls Tryz.prog 34 #[.pointer (some ⟨Q, 0, none⟩)] W fun e w' => e = .returned (.bool (decide (n = 0))) ∧ Below W.heap.size W w' := by
  by_cases h : n = 0
  · have h2 : (n : Int) = 0 := by omega
    subst h
    go_enter Tryz.func34, Tryz.ntmps34
    go_wp2_with fail
    go_ret
    exact ⟨by simp, Below.refl _ _⟩
  · have h2 : ¬ (n : Int) = 0 := by omega
    go_enter Tryz.func34, Tryz.ntmps34
    go_wp2_with fail
    go_ret
    exact ⟨by simp [h], Below.refl _ _⟩

/-- Who must come ahead of whom, as it is noted. -/
def MatA (W : World) (A : Nat) (E : Nat → Nat → Bool) : Prop := A < W.heap.size ∧ ∀ o k, o < 40 → k < 40 → W.cell? ⟨A, o * 40 + k, none⟩ = some (.bool (E o k))
theorem MatA.next {W W' : World} {A : Nat} {E : Nat → Nat → Bool} (h : MatA W A E) (hb : Below W.heap.size W W') : MatA W' A E :=
  ⟨Nat.lt_of_lt_of_le h.1 hb.size, fun o k ho hk => (hb.cell h.1).trans (h.2 o k ho hk)⟩
/-- Where the first one stands that is so. -/
def FirstP (left : List Nat) (P : Nat → Bool) (i : Int) : Prop := (i = -1 ∧ ∀ u ∈ left, P u = false) ∨ ∃ (a : Nat) (h : a < left.length), i = (a : Int) ∧ P left[a] = true ∧ ∀ (j : Nat) (hj : j < a), P (left[j]'(by omega)) = false
theorem FirstP.any {left : List Nat} {P : Nat → Bool} {i : Int} (h : FirstP left P i) : decide (0 ≤ i) = left.any P := by
  rcases h with ⟨rfl, h⟩ | ⟨a, ha, rfl, h1, _⟩
  · rw [show left.any P = false from by rw [List.any_eq_false]; intro x hx; rw [h x hx]; simp]; rfl
  · rw [show left.any P = true from List.any_eq_true.mpr ⟨_, List.getElem_mem ha, h1⟩]; exact decide_eq_true (by omega)

set_option maxRecDepth 4000 in
set_option maxHeartbeats 1000000 in
theorem aheadAt_any (A b o k : Nat) (x : Bool) (W : World) (hA : W.cell? ⟨A, o * 40 + k, none⟩ = some (.bool x)) (hb : W.cell? ⟨b, 0, none⟩ = some (.int .i64 k)) (ho : o < 40) (hk : k < 40) (hAl : A < W.heap.size) (hbl : b < W.heap.size) :
    Calls Tryz.prog 33 #[.int .i64 o, .pointer (some ⟨A, 0, none⟩), .pointer (some ⟨b, 0, none⟩)] W fun e w' => e = .returned (.bool x) ∧ Below W.heap.size W w' := by
  have ho2 : (o : Int) < 40 := by omega
  have hk2 : (k : Int) < 40 := by omega
  have ho3 : ¬ (o : Int) < 0 := by omega
  have hk3 : ¬ (k : Int) < 0 := by omega
  have s0 : ∀ u : Under W, u.x.cell? ⟨A, o * 40 + k, none⟩ = some (.bool x) := fun u => (u.h.cell hAl).trans hA
  have s1 : ∀ u : Under W, u.x.cell? ⟨b, 0, none⟩ = some (.int .i64 k) := fun u => (u.h.cell hbl).trans hb
  have hnu : Nonempty (Under W) := ⟨⟨W, Below.refl _ _⟩⟩
  clear hA hb
  go_enter Tryz.func33, Tryz.ntmps33
  go_wp2_with fail
  refine wp_region_under (by kernel_rfl) (by kernel_rfl) ?_
  repeat (go_big_quiet_step (fail))
  refine wpQuiet_nil ?_
  rintro _ ⟨u, rfl⟩
  have HU : Hid (Below _ _ _) := u.h
  go_wp2_with fail
  go_ret
  exact ⟨rfl, HU.out⟩

set_option maxRecDepth 4000 in
set_option maxHeartbeats 1000000 in
theorem idxAhead_any (p : Option Addr) (c A b : Nat) (left : List Nat) (P : Nat → Bool) (W : World) (hr : InN W p (natI left)) (hl : left.length ≤ 1000)
    (hf : ∀ U, Below W.heap.size W U → ∀ k, k ∈ left → Calls Tryz.prog 33 #[.int .i64 (k : Int), .pointer (some ⟨A, 0, none⟩), .pointer (some ⟨b, 0, none⟩)] U fun e w' => e = .returned (.bool (P k)) ∧ Below U.heap.size U w') :
    Calls Tryz.prog 54 #[.slice p left.length c, .func (.func 33) #[] #[.pointer (some ⟨A, 0, none⟩), .pointer (some ⟨b, 0, none⟩)]] W fun e w' => (∃ i : Int, e = .returned (.int .i64 i) ∧ FirstP left P i) ∧ Below W.heap.size W w' := by
  have HR : Hid (InN _ _ _) := hr
  have HF : Hid _ := hf
  clear hr hf
  go_enter Tryz.func54, Tryz.ntmps54
  go_wp2_with fail
  go_loopw [8] (fun i wr => ∃ k : Nat, k ≤ left.length ∧ i = .int .i64 k ∧ (∀ (j : Nat) (hj : j < left.length), j < k → P left[j] = false) ∧ Below W.heap.size W wr) (fun i _ => left.length - (intOf i).toNat)
  case atStart => exact ⟨0, Nat.zero_le _, rfl, fun j _ hj => by omega, Below.refl _ _⟩
  case round =>
    obtain ⟨k, hk, rfl, hall, hbel⟩ := hrel
    have HA : Hid _ := hall
    clear hall
    by_cases hlt : k < left.length
    · have hlt2 : (k : Int) < (left.length : Int) := by omega
      rcases HR.out.step hbel with h0 | ⟨g, rfl, gl, x⟩
      · rw [natI_len] at h0; omega
      have x0 := x k (by rw [natI_len]; exact hlt)
      rw [natI_get left k hlt] at x0
      have HK0 := fun U (hU : Below wr.heap.size wr U) => HF.out U (hbel.trans (hU.mono hbel.size)) left[k] (List.getElem_mem _)
      obtain ⟨y, hy⟩ : ∃ y, y = left[k] := ⟨_, rfl⟩
      have HPY : Hid (P left[k] = P y) := by show P left[k] = P y; rw [hy]
      rw [← hy] at x0 HK0
      clear hy x
      cases hP : P y
      · rw [hP] at HK0
        have HK : Hid _ := HK0
        have HPK : Hid (P left[k] = false) := by show P left[k] = false; rw [HPY.out, hP]
        clear hP HK0 HPY
        go_wp2_with fail
        refine (HK.out _ (Below.refl _ _)).mono ?_
        rintro e w1 ⟨rfl, hb⟩
        have hb1 := hbel.trans (hb.mono hbel.size)
        clear hb
        go_wp2_with fail
        go_roundw
        case rel =>
          refine ⟨k + 1, by omega, by go_num, ?_, hb1⟩
          intro j hj hjk
          rcases Nat.lt_or_ge j k with h | h
          · exact HA.out j hj h
          · obtain rfl : j = k := by omega
            exact HPK.out
        case measure => simp [intOf]; omega
      · rw [hP] at HK0
        have HK : Hid _ := HK0
        have HPK : Hid (P left[k] = true) := by show P left[k] = true; rw [HPY.out, hP]
        clear hP HK0 HPY
        go_wp2_with fail
        refine (HK.out _ (Below.refl _ _)).mono ?_
        rintro e w1 ⟨rfl, hb⟩
        have hb1 := hbel.trans (hb.mono hbel.size)
        clear hb
        go_wp2_with fail
        go_ret
        exact ⟨⟨k, rfl, .inr ⟨k, hlt, rfl, HPK.out, fun j hj => HA.out j (by omega) hj⟩⟩, hb1⟩
    · have hlt2 : ¬ (k : Int) < (left.length : Int) := by omega
      go_wp2_with fail
      go_ret
      refine ⟨⟨-1, rfl, .inl ⟨rfl, fun u hu => ?_⟩⟩, hbel⟩
      obtain ⟨j, hj, rfl⟩ := List.mem_iff_getElem.1 hu
      exact HA.out j hj (by omega)

set_option maxRecDepth 4000 in
set_option maxHeartbeats 1000000 in
theorem anyAhead_any (p : Option Addr) (c A b k : Nat) (left : List Nat) (E : Nat → Nat → Bool) (W : World) (hr : InN W p (natI left)) (hl : left.length ≤ 1000) (hA : MatA W A E) (hb : W.cell? ⟨b, 0, none⟩ = some (.int .i64 k)) (hbl : b < W.heap.size) (hk : k < 40) (h40 : ∀ o ∈ left, o < 40) :
    Calls Tryz.prog 53 #[.slice p left.length c, .func (.func 33) #[] #[.pointer (some ⟨A, 0, none⟩), .pointer (some ⟨b, 0, none⟩)]] W fun e w' => e = .returned (.bool (left.any fun o => E o k)) ∧ Below W.heap.size W w' := by
  have HI : Hid (Calls _ _ _ _ _) := idxAhead_any p c A b left (fun o => E o k) W hr hl (fun U hU o ho => aheadAt_any A b o k (E o k) U ((hU.cell hA.1).trans (hA.2 o k (h40 o ho) hk)) ((hU.cell hbl).trans hb) (h40 o ho) hk (Nat.lt_of_lt_of_le hA.1 hU.size) (Nat.lt_of_lt_of_le hbl hU.size))
  obtain ⟨R, hR⟩ : ∃ R, R = left.any fun o => E o k := ⟨_, rfl⟩
  rw [← hR]
  have HRR : Hid (R = _) := hR
  clear hr hA hb hR
  go_enter Tryz.func53, Tryz.ntmps53
  go_wp2_with fail
  refine HI.out.mono ?_
  rintro e w1 ⟨⟨i, rfl, hi⟩, hb⟩
  have HJ : Hid (decide (0 ≤ i) = R) := by show _ = R; rw [HRR.out]; exact hi.any
  clear hi HI HRR
  go_wp2_with fail
  go_ret
  exact ⟨ret_bool HJ.out, hb⟩
set_option maxRecDepth 4000 in
set_option maxHeartbeats 1000000 in
theorem has_any (Q : Nat) (p : Option Addr) (c A b k : Nat) (left : List Nat) (E : Nat → Nat → Bool) (W : World) (hq : W.cell? ⟨Q, 0, none⟩ = some (.slice p left.length c)) (hql : Q < W.heap.size) (hr : InN W p (natI left)) (hl : left.length ≤ 1000) (hA : MatA W A E) (hb : W.cell? ⟨b, 0, none⟩ = some (.int .i64 k)) (hbl : b < W.heap.size) (hk : k < 40) (h40 : ∀ o ∈ left, o < 40) :
    Calls Tryz.prog 32 #[.pointer (some ⟨Q, 0, none⟩), .func (.func 33) #[] #[.pointer (some ⟨A, 0, none⟩), .pointer (some ⟨b, 0, none⟩)]] W fun e w' => e = .returned (.bool (left.any fun o => E o k)) ∧ Below W.heap.size W w' := by
  have HI : Hid (Calls _ _ _ _ _) := anyAhead_any p c A b k left E W hr hl hA hb hbl hk h40
  obtain ⟨R, hR⟩ : ∃ R, R = left.any fun o => E o k := ⟨_, rfl⟩
  rw [← hR] at HI ⊢
  clear hr hA hb hR
  go_enter Tryz.func32, Tryz.ntmps32
  go_wp2_with fail
  refine HI.out.mono ?_
  rintro e w1 ⟨rfl, hb⟩
  go_wp2_with fail
  go_ret
  exact ⟨rfl, hb⟩
set_option maxRecDepth 4000 in
set_option maxHeartbeats 1000000 in
/-- Is one free: nothing that waits comes ahead of it. -/
theorem isFree_any (Q : Nat) (p : Option Addr) (c A k : Nat) (left : List Nat) (E : Nat → Nat → Bool) (W : World) (hq : W.cell? ⟨Q, 0, none⟩ = some (.slice p left.length c)) (hql : Q < W.heap.size) (hr : InN W p (natI left)) (hl : left.length ≤ 1000) (hA : MatA W A E) (hk : k < 40) (h40 : ∀ o ∈ left, o < 40) :
    Calls Tryz.prog 31 #[.int .i64 k, .pointer (some ⟨Q, 0, none⟩), .pointer (some ⟨A, 0, none⟩)] W fun e w' => e = .returned (.bool (freeIn E left k)) ∧ Below W.heap.size W w' := by
  have hb0 : Below W.heap.size W (W.alloc (.cells #[.int .i64 k] 3)) := (Below.refl _ _).alloc (Nat.le_refl _) _
  have hbx := Go.Boxed.new W 3 (.int .i64 k)
  have HI : Hid (Calls _ _ _ _ _) := has_any Q p c A W.heap.size k left E (W.alloc (.cells #[.int .i64 k] 3)) ((hb0.cell hql).trans hq) (Nat.lt_of_lt_of_le hql hb0.size) (hr.step hb0) hl (hA.next hb0) hbx.cell hbx.lt hk h40
  unfold freeIn
  obtain ⟨R, hR⟩ : ∃ R, R = left.any fun o => E o k := ⟨_, rfl⟩
  rw [← hR] at HI ⊢
  clear hr hA hR hbx
  go_enter Tryz.func31, Tryz.ntmps31
  go_wp2_with fail
  refine HI.out.mono ?_
  rintro e w1 ⟨rfl, hb⟩
  have hbw := hb0.trans (hb.mono hb0.size)
  clear hb HI
  go_wp2_with fail
  go_ret
  exact ⟨rfl, hbw⟩

set_option maxRecDepth 4000 in
set_option maxHeartbeats 1000000 in
theorem idxFree_any (p : Option Addr) (c A b : Nat) (left : List Nat) (P : Nat → Bool) (W : World) (hr : InN W p (natI left)) (hl : left.length ≤ 1000)
    (hf : ∀ U, Below W.heap.size W U → ∀ k, k ∈ left → Calls Tryz.prog 31 #[.int .i64 (k : Int), .pointer (some ⟨A, 0, none⟩), .pointer (some ⟨b, 0, none⟩)] U fun e w' => e = .returned (.bool (P k)) ∧ Below U.heap.size U w') :
    Calls Tryz.prog 54 #[.slice p left.length c, .func (.func 31) #[] #[.pointer (some ⟨A, 0, none⟩), .pointer (some ⟨b, 0, none⟩)]] W fun e w' => (∃ i : Int, e = .returned (.int .i64 i) ∧ FirstP left P i) ∧ Below W.heap.size W w' := by
  have HR : Hid (InN _ _ _) := hr
  have HF : Hid _ := hf
  clear hr hf
  go_enter Tryz.func54, Tryz.ntmps54
  go_wp2_with fail
  go_loopw [8] (fun i wr => ∃ k : Nat, k ≤ left.length ∧ i = .int .i64 k ∧ (∀ (j : Nat) (hj : j < left.length), j < k → P left[j] = false) ∧ Below W.heap.size W wr) (fun i _ => left.length - (intOf i).toNat)
  case atStart => exact ⟨0, Nat.zero_le _, rfl, fun j _ hj => by omega, Below.refl _ _⟩
  case round =>
    obtain ⟨k, hk, rfl, hall, hbel⟩ := hrel
    have HA : Hid _ := hall
    clear hall
    by_cases hlt : k < left.length
    · have hlt2 : (k : Int) < (left.length : Int) := by omega
      rcases HR.out.step hbel with h0 | ⟨g, rfl, gl, x⟩
      · rw [natI_len] at h0; omega
      have x0 := x k (by rw [natI_len]; exact hlt)
      rw [natI_get left k hlt] at x0
      have HK0 := fun U (hU : Below wr.heap.size wr U) => HF.out U (hbel.trans (hU.mono hbel.size)) left[k] (List.getElem_mem _)
      obtain ⟨y, hy⟩ : ∃ y, y = left[k] := ⟨_, rfl⟩
      have HPY : Hid (P left[k] = P y) := by show P left[k] = P y; rw [hy]
      rw [← hy] at x0 HK0
      clear hy x
      cases hP : P y
      · rw [hP] at HK0
        have HK : Hid _ := HK0
        have HPK : Hid (P left[k] = false) := by show P left[k] = false; rw [HPY.out, hP]
        clear hP HK0 HPY
        go_wp2_with fail
        refine (HK.out _ (Below.refl _ _)).mono ?_
        rintro e w1 ⟨rfl, hb⟩
        have hb1 := hbel.trans (hb.mono hbel.size)
        clear hb
        go_wp2_with fail
        go_roundw
        case rel =>
          refine ⟨k + 1, by omega, by go_num, ?_, hb1⟩
          intro j hj hjk
          rcases Nat.lt_or_ge j k with h | h
          · exact HA.out j hj h
          · obtain rfl : j = k := by omega
            exact HPK.out
        case measure => simp [intOf]; omega
      · rw [hP] at HK0
        have HK : Hid _ := HK0
        have HPK : Hid (P left[k] = true) := by show P left[k] = true; rw [HPY.out, hP]
        clear hP HK0 HPY
        go_wp2_with fail
        refine (HK.out _ (Below.refl _ _)).mono ?_
        rintro e w1 ⟨rfl, hb⟩
        have hb1 := hbel.trans (hb.mono hbel.size)
        clear hb
        go_wp2_with fail
        go_ret
        exact ⟨⟨k, rfl, .inr ⟨k, hlt, rfl, HPK.out, fun j hj => HA.out j (by omega) hj⟩⟩, hb1⟩
    · have hlt2 : ¬ (k : Int) < (left.length : Int) := by omega
      go_wp2_with fail
      go_ret
      refine ⟨⟨-1, rfl, .inl ⟨rfl, fun u hu => ?_⟩⟩, hbel⟩
      obtain ⟨j, hj, rfl⟩ := List.mem_iff_getElem.1 hu
      exact HA.out j hj (by omega)

set_option maxRecDepth 4000 in
set_option maxHeartbeats 2000000 in
theorem takeFirst_any (Q A base : Nat) (v : Value) (left : List Nat) (E : Nat → Nat → Bool) (W : World) (hq : Go.Boxed W Q 62 v) (ho : OwnI W base v (natI left)) (hQ : Q < base) (hl : left.length ≤ 1000) (hA : MatA W A E) (h40 : ∀ o ∈ left, o < 40) :
    Calls Tryz.prog 35 #[.pointer (some ⟨Q, 0, none⟩), .func (.func 31) #[] #[.pointer (some ⟨Q, 0, none⟩), .pointer (some ⟨A, 0, none⟩)]] W fun e w' =>
      (e = .returned (.tuple #[.int .i64 0, .bool false]) ∧ left.find? (freeIn E left) = none ∧ Below W.heap.size W w') ∨
      ∃ k v', e = .returned (.tuple #[.int .i64 (k : Nat), .bool true]) ∧ left.find? (freeIn E left) = some k ∧ Go.Boxed w' Q 62 v' ∧ OwnI w' base v' (natI (left.erase k)) ∧ v'.ownBlock = v.ownBlock ∧ Qk Q v.ownBlock W w' := by
  obtain ⟨p, c, rfl, hin⟩ := ho.inN
  rw [natI_len] at hq ho ⊢
  have hc := hq.cell
  have hql := hq.lt
  have HI : Hid (Calls _ _ _ _ _) := idxFree_any p c Q A left (freeIn E left) W hin hl (fun U hU k hk => isFree_any Q p c A k left E U ((hU.cell hql).trans hc) (Nat.lt_of_lt_of_le hql hU.size) (hin.step hU) hl (hA.next hU) (h40 k hk) h40)
  have HO : Hid (OwnI _ _ _ _) := ho
  have HQ : Hid (Go.Boxed _ _ _ _) := hq
  clear hin hA ho hq
  go_enter Tryz.func35, Tryz.ntmps35
  go_wp2_with fail
  refine HI.out.mono ?_
  rintro e w1 ⟨⟨i, rfl, hi⟩, hb⟩
  have HB1 : Hid (Below _ _ _) := hb
  have hc1 := (hb.cell (p := ⟨Q, 0, none⟩) hql).trans hc
  have z1 := hb.size
  clear HI hb hc
  rcases hi with ⟨rfl, hno⟩ | ⟨a, ha, rfl, hp, hno⟩
  · have HN : Hid _ := find_not _ _ hno
    clear hno
    go_wp2_with fail
    go_ret2
    exact .inl ⟨rfl, HN.out, HB1.out⟩
  have HF : Hid _ := find_at _ left a ha hp hno
  have HE : Hid (left.erase left[a] = left.eraseIdx a) := erase_at _ left a ha hp hno
  obtain ⟨k, hk⟩ : ∃ k, k = left[a] := ⟨_, rfl⟩
  rw [← hk] at HF HE
  have hneg : ¬ (a : Int) < 0 := by omega
  have ho1 : OwnI w1 base (.slice p left.length c) (natI left) := owns_below HO.out HB1.out
  obtain ⟨p', c', e1, N1⟩ := ho1.inN
  injection e1 with e1 e2 e3
  subst e1
  rcases N1 with h0 | ⟨g, rfl, gl, x⟩
  · rw [natI_len] at h0; omega
  have x0 := x a (by rw [natI_len]; exact ha)
  rw [natI_get left a ha, ← hk] at x0
  have ha2 : (a : Int) < (left.length : Int) := by omega
  have q1 : Go.Boxed w1 Q 62 (.slice (some ⟨g, 0, none⟩) left.length c) := (HB1.out.block Q hql).trans HQ.out
  have HQ1 : Hid (Go.Boxed _ _ _ _) := q1
  have HD : Hid (Calls _ _ _ _ _) := delOwn_any base _ (natI left) a w1 ho1 (by rw [natI_len]; exact ha)
  have hlt1 := World.ownsRow.lt ho1 g rfl
  have hgQ : g ≠ Q := by omega
  clear e2 e3 hk hp hno x ho1 q1 HO HQ
  go_wp2_with fail
  refine HD.out.mono ?_
  rintro e w2 ⟨v2, rfl, o2, hv2, hg2⟩
  obtain ⟨m2, k2, rfl⟩ := ownI_some o2 hv2
  have q2 : Go.Boxed w2 Q 62 (.slice (some ⟨g, 0, none⟩) left.length c) := HQ1.out.kept hg2 (fun e => hgQ (Option.some.inj e).symm)
  have hc2 := q2.cell
  have hf2 := q2.frozen
  have hl2 := q2.lt
  have HQ3 : Hid (Go.Boxed (w2.setCell ⟨Q, 0, none⟩ (.slice (some ⟨g, 0, none⟩) m2 k2)) Q 62 _) := q2.set _
  have HK3 : Hid (Qk Q (some g) W (w2.setCell ⟨Q, 0, none⟩ (.slice (some ⟨g, 0, none⟩) m2 k2))) := ((Qk.of_below HB1.out).trans (Qk.of_grown hg2)).trans (Qk.set w2 _)
  have HO3 : Hid (OwnI (w2.setCell ⟨Q, 0, none⟩ (.slice (some ⟨g, 0, none⟩) m2 k2)) base (.slice (some ⟨g, 0, none⟩) m2 k2) (natI (left.erase k))) := by
    show OwnI _ _ _ _
    rw [HE.out, natI_erase]
    exact World.ownsRow.kept o2 (grownBy_setCell' w2 Q _) (.inr (fun e => hgQ (Option.some.inj e)))
  clear q2 o2 hv2 hg2 HD HQ1
  go_wp2_with fail
  go_ret2
  exact .inr ⟨k, _, rfl, HF.out, HQ3.out, HO3.out, rfl, HK3.out⟩

end Go.Proofs.YtfchlpgalcedhaaGreatDoor.Ce

/- In which order they may have come: the program's answer. -/
namespace Go.Proofs.YtfchlpgalcedhaaGreatDoor.Ce
open Go.RowKit Go.Shelf Tr Co Rea
set_option linter.unusedVariables false
attribute [local go_sem] Oper.semAt_some

theorem set_blk {w : World} {g o : Nat} {v : Value} {c : Array Value} {T : TypeId} (h : w.heap[g]? = some (.cells c T)) : (w.setCell ⟨g, o, none⟩ v).heap[g]? = some (.cells (c.setIfInBounds o v) T) := by
  simp [World.setCell, Array.getElem?_modify, h]

/-- The array of arrays: who is noted to come ahead of whom. -/
def Mx (W : World) (A : Nat) (S : Nat → Nat → Bool) : Prop := ∃ M : Array Value, W.heap[A]? = some (.cells M 57) ∧ M.size = 1600 ∧ ∀ o k, o < 40 → k < 40 → M[o * 40 + k]? = some (.bool (S o k))
theorem zcellsM : Tryz.zeroCells57 = Array.replicate 1600 (.bool false) := by kernel_rfl
theorem Mx.made {w : World} {A : Nat} (h : w.heap[A]? = some (.cells Tryz.zeroCells57 57)) : Mx w A (fun _ _ => false) := by
  refine ⟨_, h, by rw [zcellsM]; simp, fun o k ho hk => ?_⟩
  rw [zcellsM, Array.getElem?_replicate, if_pos (by omega)]
theorem Mx.kept {W W' : World} {A : Nat} {S : Nat → Nat → Bool} (h : Mx W A S) (e : W'.heap[A]? = W.heap[A]?) : Mx W' A S := by
  obtain ⟨M, h1, h2, h3⟩ := h
  exact ⟨M, e.trans h1, h2, h3⟩
theorem Mx.set {W : World} {A : Nat} {S : Nat → Nat → Bool} (h : Mx W A S) (i j : Nat) (hi : i < 40) (hj : j < 40) : Mx (W.setCell ⟨A, i * 40 + j, none⟩ (.bool true)) A (fun o k => S o k || (o == i && k == j)) := by
  obtain ⟨M, h1, h2, h3⟩ := h
  refine ⟨_, set_blk h1, by simpa using h2, fun o k ho hk => ?_⟩
  by_cases e : o = i ∧ k = j
  · obtain ⟨rfl, rfl⟩ := e
    rw [Array.getElem?_setIfInBounds_self_of_lt (by omega)]
    simp
  · rw [Array.getElem?_setIfInBounds_ne (by omega), h3 o k ho hk]
    have : (o == i && k == j) = false := by simp; omega
    show _ = some (Value.bool (S o k || (o == i && k == j)))
    rw [this, Bool.or_false]
theorem Mx.lt {W : World} {A : Nat} {S : Nat → Nat → Bool} (h : Mx W A S) : A < W.heap.size := by
  obtain ⟨M, h1, _⟩ := h
  exact (Array.getElem?_eq_some_iff.1 h1).1
theorem Mx.cell {W : World} {A : Nat} {S : Nat → Nat → Bool} (h : Mx W A S) (o k : Nat) (ho : o < 40) (hk : k < 40) : W.cell? ⟨A, o * 40 + k, none⟩ = some (.bool (S o k)) := by
  obtain ⟨M, h1, h2, h3⟩ := h
  simp only [World.cell?, h1]
  simpa using h3 o k ho hk
theorem Mx.frozen {W : World} {A : Nat} {S : Nat → Nat → Bool} (h : Mx W A S) (o : Nat) : W.frozen? ⟨A, o, none⟩ = false := by
  obtain ⟨M, h1, h2, h3⟩ := h
  simp [World.frozen?, h1]
theorem Mx.mat {W : World} {A : Nat} {S : Nat → Nat → Bool} (h : Mx W A S) : MatA W A S := ⟨h.lt, fun o k ho hk => h.cell o k ho hk⟩
def memP (pre : List (Nat × Nat)) (o k : Nat) : Bool := pre.any fun x => o == x.1 && k == x.2
theorem memP_add (pre : List (Nat × Nat)) (x : Nat × Nat) : memP (pre ++ [x]) = fun o k => memP pre o k || (o == x.1 && k == x.2) := by
  funext o k
  simp [memP, List.any_append]
theorem memP_all (ds : List Dn) : memP (upTo ds.length (otherP ds) ds.length 0) = otherP ds := by
  funext o k
  cases h : otherP ds o k
  · unfold memP
    rw [List.any_eq_false]
    rintro ⟨a, b⟩ hx
    have := (upTo_mem _ _ _ _ _).1 hx
    simp
    rintro rfl rfl
    rw [h] at this
    simp at this
  · unfold memP
    rw [List.any_eq_true]
    refine ⟨(o, k), (upTo_mem _ _ _ _ _).2 ⟨.inl ?_, h⟩, by simp⟩
    unfold otherP edgeP at h
    simp only [Bool.and_eq_true] at h
    cases h1 : ds[o]? with
    | none => rw [h1] at h; simp at h
    | some a =>
      cases h2 : ds[k]? with
      | none => rw [h1, h2] at h; simp at h
      | some b => exact ⟨(List.getElem?_eq_some_iff.1 h1).1, (List.getElem?_eq_some_iff.1 h2).1⟩
theorem memP_nil : memP [] = fun _ _ => false := rfl
theorem upTo_ne (ds : List Dn) : (upTo ds.length (edgeP ds) ds.length 0).filter neP = upTo ds.length (otherP ds) ds.length 0 := by rw [← upTo_other]; rfl
theorem appOneIn {F : Fence} {n : Nat} {ops : Array Oper} {rest : List Oper} {o : Oper} {a : Act} {Q : Exit → Act → World → Prop} {w : World} (hgd : o.guard = none) (s x : Operand)
    (ho : o.op = .call { callee := .builtin .append, args := #[s, x], argTypes := #[24, 24] }) (B : Nat) (v : Value) (l : List Int) (c : Int)
    (ad : Nat) (hs : a.eval s = v) (hx : a.eval x = .slice (some ⟨ad, 0, none⟩) 1 1) (had : ad = w.heap.size) (hown : OwnI w B v l) (hB : B ≤ w.heap.size) (hlim : l.length ≤ 1000000)
    (h : ∀ v' w', OwnI w' B v' (l ++ [c]) → (w.alloc (.cells #[.int .i64 c] 3)).grownBy w' v.ownBlock → wpListIn F n Tryz.prog ops Q rest (a.put o.dst v') w') :
    wpListIn F n Tryz.prog ops Q (o :: rest) a (w.alloc (.cells #[.int .i64 c] 3)) := by
  subst had
  obtain ⟨i0, hi, hz0, hz1, hz2⟩ := info_parts infoZ
  refine wpListIn_append_own _ hgd s x 24 ho B 3 i0 (.int .i64 0) 1 8 Tryz.underlying24 hi hz0 hz1 hz2 rfl (by decide) _ _ _ hs (World.ownsRow.alloc hown _) ⟨w.heap.size, 0, none⟩ 1 1 [.int .i64 c] hx rfl (cellOne _ _ _) (by intro u hu; simp at hu; subst hu; rfl) (by unfold maxLen; omega) (by omega) (by simp; omega) ?_
  intro v' w' hown' hgrow _
  refine h v' w' ?_ hgrow
  unfold OwnI
  rw [intsV_one, List.length_append]
  exact hown'
def lenVI : Value → Nat
  | .slice _ n _ => n
  | _ => 0

set_option maxRecDepth 100000 in
set_option maxHeartbeats 8000000 in
theorem orderOf_any (g c b1 : Nat) (ds : List Dn) (w : World) (h1 : MadeDn w b1 g ds) (hlen : ds.length ≤ 40) (hdn : ∀ v ∈ ds, dnB v = true) :
    Calls Tryz.prog 18 #[.slice (some ⟨g, 0, none⟩) ds.length c] w fun e w' => (∃ v, e = .returned (.tuple #[v, .int .i64 (orC (srlO ds))]) ∧ OwnI w' w.heap.size v (orL (srlO ds))) ∧ Below w.heap.size w w' := by
  have HDN : Hid (∀ x ∈ ds, dnB x = true) := hdn
  have H1 : Hid (MadeDn _ _ _ _) := h1
  obtain ⟨R, hR⟩ : ∃ R, R = srlO ds := ⟨_, rfl⟩
  rw [← hR]
  have HR0 : Hid (R = ordR (otherP ds) (List.range ds.length) []) := hR
  clear hdn h1 hR
  refine (callsIn_wide (n := 4)).1 ?_
  refine callsIn_of_wp_marks Tryz.func18 rfl trivial ?_ rfl
  simp only [Tryz.ntmps18, List.size_toArray, List.length_cons, List.length_nil, Nat.reduceAdd, Nat.reduceSub, Array.replicate_succ, Array.replicate_zero, List.push_toArray, List.append_toArray, List.nil_append, List.cons_append]
  gi_wp2
  refine ⟨trivial, (callsIn_wide.2 (edges_any _ _ _ _)).mono ?_⟩
  rintro e w' ⟨rfl, rfl⟩
  have bO : (w.alloc (.cells Tryz.zeroCells57 57)).heap[w.heap.size]? = some (.cells Tryz.zeroCells57 57) := heap_alloc_new _ _
  have hs1 : (w.alloc (.cells Tryz.zeroCells57 57)).heap.size = w.heap.size + 1 := by simp
  have hl1 : Below w.heap.size w (w.alloc (.cells Tryz.zeroCells57 57)) := (Below.refl _ w).alloc (Nat.le_refl _) _
  generalize w.alloc (.cells Tryz.zeroCells57 57) = Wz at bO hs1 hl1 ⊢
  have m0 : Below (w.heap.size + 1) Wz (Wz.alloc (.cells #[.slice (some ⟨g, 0, none⟩) ds.length c] 27)) := (Below.refl _ _).alloc (by omega) _
  have hbx : (Wz.alloc (.cells #[.slice (some ⟨g, 0, none⟩) ds.length c] 27)).heap[w.heap.size + 1]? = some (.cells #[.slice (some ⟨g, 0, none⟩) ds.length c] 27) := by
    rw [← hs1]; exact heap_alloc_new _ _
  have hsz : (Wz.alloc (.cells #[.slice (some ⟨g, 0, none⟩) ds.length c] 27)).heap.size = w.heap.size + 2 := by simp; omega
  rw [hs1]
  generalize Wz.alloc (.cells #[.slice (some ⟨g, 0, none⟩) ds.length c] 27) = W0 at m0 hbx hsz ⊢
  have hB0 : Below w.heap.size w W0 := hl1.trans (m0.mono (by omega))
  have hM0 : Mx W0 w.heap.size (memP []) := (Mx.made bO).kept (m0.block _ (by omega))
  have HG : Hid (Goes _ _ _ _ _ _ _ _ _ _) := edges_goes w W0 w.heap.size (w.heap.size + 1) g c b1 ds H1.out (by omega) HDN.out hB0 (Nat.le_refl _) (by omega) (by omega) hbx
  have hsz2 : w.heap.size + 2 ≤ W0.heap.size := by omega
  clear m0 bO hl1 hbx hs1 hsz
  gi_wp2
  refine range_goes rfl (by decide) (gf := 50) (lb := #[.pointer (some ⟨w.heap.size + 1, 0, none⟩)]) rfl trivial (enters_of Tryz.func50 (by kernel_rfl) rfl)
    (α := Pr ds.length) (encs := fun x => #[.int .i64 (x.1.1 : Int), .int .i64 (x.1.2 : Int)]) (Kp := Kq w.heap.size) (S := fun ys => prL ys = (upTo ds.length (edgeP ds) ds.length 0).filter neP) (N := ds.length * ds.length) (w0 := W0)
    HG.out Kq.trans (fun U o o' h hc => kq_put U _ o o' h hc) (Below.refl _ _) (fun _ => rfl)
    (fun pre W => Mx W w.heap.size (memP (prL pre)) ∧ Below w.heap.size w W ∧ W0.heap.size ≤ W.heap.size)
    (OwnFrom.and (fun s A B row hs hg hr => Mx.kept hs (hg.block _ hs.lt (fun e => by have := (hr _ e.symm).1; omega))) (OwnFrom.and (ownFrom_below (Nat.le_refl _) (by omega)) (fun s A B row hs hg hr => Nat.le_trans hs hg.size)))
    ⟨hM0, hB0, Nat.le_refl _⟩
    (fun x => { tmps := #[.slice (some ⟨g, 0, none⟩) ds.length c, undef, .slice none 0 0, .int .i64 0, .pointer (some ⟨w.heap.size, 0, none⟩), .int .i64 (x.1.1 : Int), .int .i64 (x.1.2 : Int), undef, undef, undef, undef, undef, undef, .slice (some ⟨g, 0, none⟩) ds.length c, .func (.func 50) #[] #[.pointer (some ⟨w.heap.size + 1, 0, none⟩)], .int .i64 (x.1.1 : Int), .int .i64 (x.1.2 : Int), undef, undef, undef, undef, undef, undef, undef, undef, undef, undef, undef, undef, undef, undef, undef, undef, undef, undef, undef, undef, undef, undef, undef, undef, undef, undef, undef, undef], defers := [] }) ?assign ?body ?done
  case assign =>
    intro l x W K hK
    gi_wp2
    exact hK
  case body =>
    rintro l pre x W ⟨hM, hB, hW0⟩ hpn
    have hx1 := x.2.1
    have hx2 := x.2.2
    have hx3 : (x.1.1 : Int) < 40 := by omega
    have hx4 : (x.1.2 : Int) < 40 := by omega
    have hc := hM.cell x.1.1 x.1.2 (by omega) (by omega)
    have hf := hM.frozen (x.1.1 * 40 + x.1.2)
    have hM2 := hM.set x.1.1 x.1.2 (by omega) (by omega)
    have HMM : Hid (Mx _ _ _) := hM
    have HM2 : Hid (Mx (W.setCell ⟨w.heap.size, x.1.1 * 40 + x.1.2, none⟩ (.bool true)) w.heap.size (memP (prL (pre ++ [x])))) := by
      show Mx _ _ _
      rw [prL_add, memP_add]
      exact hM2
    clear hM hM2
    gi_wp2
    obtain ⟨Mq, hMq, _, _⟩ := HMM.out
    have hgs : W.grownBy (W.setCell ⟨w.heap.size, x.1.1 * 40 + x.1.2, none⟩ (.bool true)) (some w.heap.size) := grown_set
    exact ⟨KeepsFrom.of_grownBy hgs (fun j e => by cases e; omega), kq_set hMq _, HM2.out, hB.setCell (p := ⟨w.heap.size, x.1.1 * 40 + x.1.2, none⟩) (Nat.le_refl _) _, Nat.le_trans hW0 hgs.size⟩
  case done =>
    rintro ys W hys ⟨hM, hB, hW0⟩ hK
    rw [hys, upTo_ne, memP_all] at hM
    have hAl : w.heap.size < W.heap.size := by omega
    have hq0 : Go.Boxed (W.alloc (.cells #[.slice none 0 0] 62)) W.heap.size 62 (.slice none 0 0) := Go.Boxed.new W _ _
    have HK : Hid ((W.alloc (.cells #[.slice none 0 0] 62)).heap[W0.heap.size]? = some (.deferred (some []))) := (heap_alloc_old W _ _ (Array.getElem?_eq_some_iff.1 hK).1).trans hK
    have HM : Hid (Mx (W.alloc (.cells #[.slice none 0 0] 62)) w.heap.size (otherP ds)) := hM.kept (heap_alloc_old W _ _ hM.lt)
    have HBW : Hid (Below w.heap.size w (W.alloc (.cells #[.slice none 0 0] 62))) := hB.alloc (by omega) _
    have hsW : W.heap.size + 1 ≤ (W.alloc (.cells #[.slice none 0 0] 62)).heap.size := by simp
    have hKl : W0.heap.size < W.heap.size := (Array.getElem?_eq_some_iff.1 hK).1
    clear hM hK hB hys HG hM0 hB0
    gi_wp2
    generalize W.alloc (.cells #[.slice none 0 0] 62) = W4 at hq0 HK HM HBW hsW ⊢
    generalize W.heap.size = Q at hq0 hsW hAl hKl ⊢
    gi_loopw [24] (fun i wr => ∃ (k : Nat) (v : Value), k ≤ ds.length ∧ i = .int .i64 k ∧ Go.Boxed wr Q 62 v ∧ OwnI wr (Q + 1) v (natI (List.range k)) ∧ Below Q W4 wr) (fun i _ => ds.length - (intOf i).toNat)
    case atStart => exact ⟨0, _, Nat.zero_le _, rfl, hq0, World.ownsRow_nil _ _ _ _, Below.refl _ _⟩
    case round =>
      obtain ⟨k, v, hk, rfl, hq, hown, hbel⟩ := hrel
      clear hq0
      have hwz := hbel.size
      have HQ : Hid (Go.Boxed _ _ _ _) := hq
      have HO : Hid (OwnI _ _ _ _) := hown
      by_cases hlt : k < ds.length
      · have hlt2 : (k : Int) < (ds.length : Int) := by omega
        have HAD : Hid (Calls _ _ _ _ _) := add_any Q (Q + 1) v (natI (List.range k)) (k : Int) wr hq hown (by omega) (by omega) (by rw [natI_len, List.length_range]; omega)
        clear hq hown
        gi_wp2
        refine ⟨trivial, (callsIn_wide.2 HAD.out).mono ?_⟩
        rintro e w1 ⟨⟨u, rfl⟩, v', hq', hown', hb'⟩
        have hbn := hbel.trans hb'
        have HO' : Hid (OwnI w1 (Q + 1) v' (natI (List.range (k + 1)))) := by
          show OwnI _ _ _ _
          rw [List.range_succ, natI_add]
          exact hown'
        have HQ' : Hid (Go.Boxed _ _ _ _) := hq'
        clear hq' hown' hb' HAD
        gi_wp2
        go_roundw
        case rel => exact ⟨k + 1, v', by omega, by go_num, HQ'.out, HO'.out, hbn⟩
        case measure => simp [intOf]; omega
      obtain rfl : k = ds.length := by omega
      have hlt2 : ¬ (ds.length : Int) < (ds.length : Int) := by omega
      have HB4 : Hid (Below Q W4 wr) := hbel
      clear hq hown
      gi_wp2
      obtain ⟨N5, hN5⟩ : ∃ N, N = wr.heap.size := ⟨_, rfl⟩
      have hQ5 : Q < N5 := by omega
      have hob : ∀ b, v.ownBlock = some b → b < N5 := fun b hb => by have := (World.ownsRow.lt HO.out b hb).2; omega
      have hz5 : N5 ≤ wr.heap.size := by omega
      clear hN5 hwz hbel
      gi_loopw [10] (fun o wr => ∃ (left out : List Nat) (vq : Value), Go.Boxed wr Q 62 vq ∧ OwnI wr (Q + 1) vq (natI left) ∧ (∀ b, vq.ownBlock = some b → b < N5) ∧ OwnI wr N5 o (natI out) ∧ (∀ x ∈ left, x < ds.length) ∧ out.length + left.length = ds.length ∧ R = ordR (otherP ds) left out ∧ N5 ≤ wr.heap.size ∧ Below Q W4 wr) (fun o _ => ds.length - lenVI o)
      case atStart => exact ⟨List.range ds.length, [], v, HQ.out, HO.out, hob, World.ownsRow_nil _ _ _ _, fun x hx => by simpa using hx, by simp, HR0.out, hz5, HB4.out⟩
      case round =>
        obtain ⟨left, out, vq, hq, hown, hvb, hord, hlt40, hcnt, hR1, hzw, hbel⟩ := hrel
        clear HQ HO HB4 hob hz5
        have hwz := hbel.size
        obtain ⟨p, cp, rfl, hin⟩ := hown.inN
        rw [natI_len] at hq hown hvb
        obtain ⟨po, co, rfl, -⟩ := hord.inN
        rw [natI_len] at hord ⊢
        have hKw : wr.heap[W0.heap.size]? = some (.deferred (some [])) := (hbel.block _ hKl).trans HK.out
        have hMw : Mx wr w.heap.size (otherP ds) := HM.out.kept (hbel.block _ hAl)
        have hc := hq.cell
        have hql := hq.lt
        have HE : Hid (Calls _ _ _ _ _) := isEmpty_any Q left.length cp p wr hc hql
        cases left with
        | nil =>
          have hRs : R = some out := by rw [hR1, ordR_nil]
          subst hRs
          have HOO : Hid (OwnI _ _ _ _) := hord
          have HKK : Hid (_ = _) := hKw
          have HBB : Hid (Below _ _ _) := hbel
          clear hR1 HR0 hord hKw hbel hMw hq hown hin hlt40 hc
          gi_wp2
          refine ⟨trivial, (callsIn_wide.2 HE.out).mono ?_⟩
          rintro e w1 ⟨rfl, hb1⟩
          have hz1 := hb1.size
          have hK1 : w1.heap[W0.heap.size]? = some (.deferred (some [])) := (hb1.block _ (by omega)).trans HKK.out
          have hO1 : OwnI w1 N5 _ (natI out) := owns_below HOO.out hb1
          have hb2 : Below Q W4 w1 := HBB.out.trans (hb1.mono (by omega))
          have hbw : Below w.heap.size w w1 := HBW.out.trans (hb2.mono (by omega))
          have HK1 : Hid (_ = _) := hK1
          have HO1 : Hid (OwnI _ _ _ _) := hO1
          have HBW1 : Hid (Below _ _ _) := hbw
          clear hb1 hK1 hO1 hb2 hbw HKK HOO HBB HE
          gi_wp2
          refine ⟨by simp, .inl ⟨_, _, rfl, run_takeDeferred HK1.out, ?_⟩⟩
          refine ⟨.tuple #[.slice po out.length co, .int .i64 0], by simp [results, Tryz.f18, go_sem], ⟨_, rfl, ownI_lower (base := N5) (ownsRow_putObj HO1.out _ HK1.out rfl) (by omega)⟩, HBW1.out.trans (belowK_b (w := w) (Nat.le_refl _) w1 W0.heap.size _ _ (by omega) HK1.out rfl rfl)⟩
        | cons a t =>
          have hne : a :: t ≠ [] := by simp
          have hdec : decide ((a :: t).length = 0) = false := by simp
          rw [hdec] at HE
          have hl40 : (a :: t).length ≤ 40 := by omega
          generalize a :: t = left at *
          have HQ : Hid (Go.Boxed _ _ _ _) := hq
          have HO : Hid (OwnI _ _ _ _) := hown
          have HOO : Hid (OwnI _ _ _ _) := hord
          have HKK : Hid (_ = _) := hKw
          have HMM : Hid (Mx _ _ _) := hMw
          have HBB : Hid (Below _ _ _) := hbel
          have HR1 : Hid (R = _) := hR1
          have H40 : Hid (∀ x ∈ left, x < 40) := fun x hx => by have := hlt40 x hx; omega
          have HLT : Hid (∀ x ∈ left, x < ds.length) := hlt40
          have HNE : Hid (left ≠ []) := hne
          have HVB : Hid (∀ b, (Value.slice p left.length cp).ownBlock = some b → Q + 1 ≤ b ∧ b < N5) := fun b hb => ⟨(World.ownsRow.lt hown b hb).1, hvb b hb⟩
          clear hR1 HR0 hord hKw hbel hMw hq hown hin hlt40 hc hne hvb hdec
          gi_wp2
          refine ⟨trivial, (callsIn_wide.2 HE.out).mono ?_⟩
          rintro e w1 ⟨rfl, hb1⟩
          have hz1 := hb1.size
          have q1 : Go.Boxed w1 Q 62 _ := (hb1.block _ hql).trans HQ.out
          have o1 : OwnI w1 (Q + 1) _ (natI left) := owns_below HO.out hb1
          have HT : Hid (Calls _ _ _ _ _) := takeFirst_any Q w.heap.size (Q + 1) _ left (otherP ds) w1 q1 o1 (by omega) (by omega) (HMM.out.kept (hb1.block _ HMM.out.lt)).mat H40.out
          have HO1 : Hid (OwnI w1 N5 _ (natI out)) := owns_below HOO.out hb1
          have HB1 : Hid (Below Q W4 w1) := HBB.out.trans (hb1.mono (by omega))
          have HK1 : Hid (w1.heap[W0.heap.size]? = some (.deferred (some []))) := (hb1.block _ (by omega)).trans HKK.out
          clear hb1 q1 o1 HOO HBB HKK HMM HE HQ HO
          gi_wp2
          refine ⟨trivial, (callsIn_wide.2 HT.out).mono ?_⟩
          rintro e w2 (⟨rfl, hf, hb2⟩ | ⟨k, v', rfl, hf, hq2, ho2, hv2, hk2⟩)
          · have hRn : R = none := by rw [HR1.out]; exact ordR_none _ left out HNE.out hf
            subst hRn
            have hz2 := hb2.size
            have HK2 : Hid (w2.heap[W0.heap.size]? = some (.deferred (some []))) := (hb2.block _ (by omega)).trans HK1.out
            have HBW2 : Hid (Below w.heap.size w w2) := HBW.out.trans ((HB1.out.trans (hb2.mono (by omega))).mono (by omega))
            clear hf hb2 HO1 HB1 HK1 HR1 HT HVB
            gi_wp2
            refine ⟨by simp, .inl ⟨_, _, rfl, run_takeDeferred HK2.out, ?_⟩⟩
            refine ⟨.tuple #[.slice none 0 0, .int .i64 19], by simp [results, Tryz.f18, go_sem], ⟨_, rfl, World.ownsRow_nil _ _ _ _⟩, HBW2.out.trans (belowK_b (w := w) (Nat.le_refl _) w2 W0.heap.size _ _ (by omega) HK2.out rfl rfl)⟩
          · have hmem : k ∈ left := List.mem_of_find?_eq_some hf
            have hlen : (left.erase k).length + 1 = left.length := by
              rw [List.length_erase_of_mem hmem]
              have := List.length_pos_of_mem hmem
              omega
            have HR2 : Hid (R = ordR (otherP ds) (left.erase k) (out ++ [k])) := by show R = _; rw [HR1.out, ordR_some _ left out k hf]
            have HLT2 : Hid (∀ x ∈ left.erase k, x < ds.length) := fun x hx => HLT.out x (List.mem_of_mem_erase hx)
            have hz2 := hk2.size
            have hob1 := World.ownsRow.lt HO1.out
            have o2 : OwnI w2 N5 _ (natI out) := hk2.owns HO1.out (fun b hb => by have := (hob1 b hb).1; omega) (fun b hb e => by have := (hob1 b hb).1; have := HVB.out b e.symm; omega)
            have hK2 : w2.heap[W0.heap.size]? = some (.deferred (some [])) := (hk2.block _ (by omega) (by omega) (fun e => by have := HVB.out _ e.symm; omega)).trans HK1.out
            have hB2 : Below Q W4 w2 := HB1.out.trans (hk2.below (by omega) (Nat.le_refl _) (fun b hb => by have := HVB.out b hb; omega))
            have hlo : (natI out).length ≤ 1000000 := by rw [natI_len]; omega
            have HVB2 : Hid (∀ b, v'.ownBlock = some b → b < N5) := fun b hb => by rw [hv2] at hb; exact (HVB.out b hb).2
            have HQ2 : Hid (Go.Boxed _ _ _ _) := hq2
            have HO2 : Hid (OwnI _ _ _ _) := ho2
            have HB2 : Hid (Below _ _ _) := hB2
            have HZ : Hid (N5 ≤ w2.heap.size) := by show N5 ≤ w2.heap.size; omega
            have HOB : Hid (∀ b, (Value.slice po out.length co).ownBlock = some b → N5 ≤ b) := fun b hb => (World.ownsRow.lt o2 b hb).1
            have HO3 : Hid (OwnI _ _ _ _) := o2
            clear hf hq2 ho2 hv2 hk2 hK2 hB2 o2 hob1 HR1 HO1 HB1 HK1 HT HVB hmem hlt HLT
            gi_wp2_with (gi_at_builtin; refine appOneIn rfl (.tmp 40) (.tmp 42) rfl N5 _ (natI out) (k : Int) _ rfl rfl rfl HO3.out HZ.out hlo ?_; intro v5 w5 o5 hg5; rw [← natI_add] at o5; obtain ⟨p5, c5, rfl, -⟩ := o5.inN; rw [natI_len, List.length_append, List.length_singleton] at o5 ⊢; have HO5 : Hid (OwnI _ _ _ _) := o5; have HG5 : Hid (World.grownBy _ _ _) := hg5; clear o5 hg5)
            have hba : Below w2.heap.size w2 (w2.alloc (.cells #[.int .i64 (k : Int)] 3)) := (Below.refl _ _).alloc (Nat.le_refl _) _
            have hsa := hba.size
            have hsg := HG5.out.size
            have hq5 : Go.Boxed w5 Q 62 v' := (HQ2.out.alloc _).kept HG5.out (fun e => by have := HOB.out Q e.symm; omega)
            have ho5 : OwnI w5 (Q + 1) v' (natI (left.erase k)) := World.ownsRow.kept (World.ownsRow.alloc HO2.out _) HG5.out (by
              cases hv : v'.ownBlock with
              | none => exact .inl rfl
              | some b => exact .inr (fun e => by have := HVB2.out b hv; have := HOB.out b e.symm; omega))
            have hb5 : Below Q W4 w5 := (HB2.out.alloc (by have := HB2.out.size; omega) _).grown HG5.out (by omega) (fun b hb => by have := HOB.out b hb; omega)
            have hz5 : N5 ≤ w5.heap.size := by have := HZ.out; omega
            clear hba hsa hsg HO3 HQ2 HO2 HB2 HZ HOB HG5
            go_roundw
            case rel => exact ⟨left.erase k, out ++ [k], v', hq5, ho5, HVB2.out, HO5.out, HLT2.out, by rw [List.length_append, List.length_singleton]; omega, HR2.out, hz5, hb5⟩
            case measure => simp [lenVI]; omega

end Go.Proofs.YtfchlpgalcedhaaGreatDoor.Ce

/- SerialOrder: the program's answer. -/
namespace Go.Proofs.YtfchlpgalcedhaaGreatDoor.Ce
open Go.RowKit Go.Shelf Tr Co Rea
set_option linter.unusedVariables false

set_option maxRecDepth 4000 in
set_option maxHeartbeats 4000000 in
theorem implSrl_any (g c b1 : Nat) (l : List Dn) (w : World) (h1 : MadeDn w b1 g l) (hlen : l.length ≤ 1048576) (hs : ∀ v ∈ l, szDn v) :
    Calls Tryz.prog 7 #[.slice (some ⟨g, 0, none⟩) l.length c] w fun e w' => SrR l w e w' := by
  have HC0 : Hid (Calls _ _ _ _ _) := donesRise_any g c b1 l w h1 hlen hs
  have H1 : Hid (MadeDn _ _ _ _) := h1
  clear h1 hs
  unfold SrR
  by_cases t0 : 4096 < l.length
  · have t1 : (4096 : Int) < (l.length : Int) := by omega
    have e1 : srlC l = 2 := by unfold srlC; rw [if_pos t0]
    have e2 : srlL l = [] := by
      unfold srlL
      rw [if_neg]
      intro h
      have := (ser_parts l h).1
      omega
    rw [e1, e2]
    clear HC0
    go_enter Tryz.func7, Tryz.ntmps7
    go_wp2_with fail
    go_ret2
    exact ⟨⟨_, rfl, OwnI.nil _ _⟩, Below.refl _ _⟩
  have t1 : ¬ (4096 : Int) < (l.length : Int) := by omega
  by_cases t2 : 40 < l.length
  · have t3 : (40 : Int) < (l.length : Int) := by omega
    have hD : serB l = false := by unfold serB; rw [decide_eq_false (by omega), Bool.and_false]
    have e1 : srlC l = 1 := by unfold srlC; rw [if_neg t0, hD]; rfl
    have e2 : srlL l = [] := by unfold srlL; rw [hD]; rfl
    rw [e1, e2]
    clear HC0
    go_enter Tryz.func7, Tryz.ntmps7
    go_wp2_with fail
    go_ret2
    exact ⟨⟨_, rfl, OwnI.nil _ _⟩, Below.refl _ _⟩
  have t3 : ¬ (40 : Int) < (l.length : Int) := by omega
  cases hZ : rizB 0 l
  · have hD : serB l = false := by unfold serB; rw [hZ, Bool.false_and]
    have e1 : srlC l = 1 := by unfold srlC; rw [if_neg t0, hD]; rfl
    have e2 : srlL l = [] := by unfold srlL; rw [hD]; rfl
    rw [e1, e2]
    rw [hZ] at HC0
    clear hD e1 e2 hZ
    go_enter Tryz.func7, Tryz.ntmps7
    go_wp2_with fail
    refine HC0.out.mono ?_
    rintro e w1 ⟨rfl, hb⟩
    go_wp2_with fail
    go_ret2
    exact ⟨⟨_, rfl, OwnI.nil _ _⟩, hb⟩
  have hD : serB l = true := by unfold serB; rw [hZ, decide_eq_true (by omega)]; rfl
  have e1 : srlC l = orC (srlO l) := by unfold srlC; rw [if_neg t0, hD]; rfl
  have e2 : srlL l = orL (srlO l) := by unfold srlL; rw [hD]; rfl
  rw [e1, e2]
  have HDN : Hid (∀ x ∈ l, dnB x = true) := (ser_parts l hD).2
  rw [hZ] at HC0
  have HO0 : Hid (∀ W : World, MadeDn W b1 g l → Calls _ _ _ W _) := fun W hW => orderOf_any g c b1 l W hW (by omega) HDN.out
  obtain ⟨R, hR⟩ : ∃ R, R = srlO l := ⟨_, rfl⟩
  rw [← hR] at HO0 ⊢
  clear hR hD hZ e1 e2
  go_enter Tryz.func7, Tryz.ntmps7
  go_wp2_with fail
  refine HC0.out.mono ?_
  rintro e w1 ⟨rfl, hb⟩
  have hz1 := hb.size
  have HO1 : Hid (Calls _ _ _ _ _) := HO0.out w1 (H1.out.next hb)
  clear HO0 HC0
  go_wp2_with fail
  refine HO1.out.mono ?_
  rintro e w2 ⟨⟨v, rfl, ho⟩, hb2⟩
  have hbw : Below w.heap.size w w2 := hb.trans (hb2.mono hz1)
  have HO2 : Hid (OwnI _ _ _ _) := ownI_lower ho hz1
  clear ho HO1 hb hb2
  go_wp2_with fail
  go_ret2
  exact ⟨⟨_, rfl, HO2.out⟩, hbw⟩

end Go.Proofs.YtfchlpgalcedhaaGreatDoor.Ce

/- Are they a list of chapter 13: the specification's answer. -/
namespace Go.Proofs.YtfchlpgalcedhaaGreatDoor.Ce
open Go.RowKit Go.ChangeShapes Go.WideShapes Go.ChangeAt Go.Joins Tr Co Rea
set_option linter.unusedVariables false

set_option maxRecDepth 8000 in
set_option maxHeartbeats 4000000 in
theorem l12Dones_any (g c b1 : Nat) (l : List Dn) (w : World) (h1 : MadeDn w b1 g l) (hlen : l.length ≤ 1048576) (hs : ∀ v ∈ l, szDn v) :
    Calls Tryz.prog 14 #[.slice (some ⟨g, 0, none⟩) l.length c] w fun e w' => e = .returned (.bool (serB l)) ∧ Below w.heap.size w w' := by
  have H1 : Hid (MadeDn _ _ _ _) := h1
  have HS : Hid (∀ v ∈ l, szDn v) := hs
  clear h1 hs
  obtain ⟨R, hR⟩ : ∃ R, R = serB l := ⟨_, rfl⟩
  rw [← hR]
  obtain ⟨N, hN⟩ : ∃ N, N = decide (l.length ≤ 40) := ⟨_, rfl⟩
  have HR : Hid (R = (rizB (lastD l 0) (l.drop 0) && N)) := by show R = _; rw [hR, hN]; rfl
  have HNN : Hid (N = decide (l.length ≤ 40)) := hN
  clear hR hN
  go_enter Tryz.func14, Tryz.ntmps14
  go_wp2_with fail
  go_loopw [3] (fun i wr => ∃ (k : Nat), k ≤ l.length ∧ i = .int .i64 k ∧ R = (rizB (lastD l k) (l.drop k) && N) ∧ Below w.heap.size w wr) (fun i _ => l.length - (intOf i).toNat)
  case atStart => exact ⟨0, Nat.zero_le _, rfl, HR.out, Below.refl _ _⟩
  case round =>
    obtain ⟨k, hk, rfl, hrk, hbel⟩ := hrel
    clear HR
    by_cases hlt : k < l.length
    · have hlt2 : (k : Int) < (l.length : Int) := by omega
      have R1 := H1.out.next hbel
      obtain ⟨gr, gc, ⟨x0, x1, x2, x3, x4, x5⟩, u0, u1, u2⟩ := R1.cells k hlt
      have hg1 := R1.lt
      have hsk := HS.out l[k] (List.getElem_mem _)
      rw [rizB_step _ l k hlt] at hrk
      have HLA : Hid (lastD l (k + 1) = l[k].at_) := lastD_succ l k hlt
      have hlast : (k = 0 ∧ lastD l k = 0) ∨ ∃ m, k = m + 1 ∧ wr.cell? ⟨g, m * 6 + 1, none⟩ = some (.int .i64 (lastD l k)) := by
        cases k with
        | zero => exact .inl ⟨rfl, rfl⟩
        | succ m =>
          obtain ⟨_, _, ⟨_, e1, _⟩, _⟩ := R1.cells m (by omega)
          exact .inr ⟨m, rfl, by rw [lastD_succ l m (by omega)]; exact e1⟩
      obtain ⟨z, hz⟩ : ∃ z, z = lastD l k := ⟨_, rfl⟩
      rw [← hz] at hrk hlast
      obtain ⟨x, hx⟩ : ∃ x, x = l[k] := ⟨_, rfl⟩
      rw [← hx] at x0 x1 x2 x3 x4 x5 u0 u1 hsk hrk HLA
      have HC : Hid (∀ W : World, Below wr.heap.size wr W → Calls _ _ _ W _) := fun W hW => specDone_any x.sn x.at_ gr gc x.rs.length x.cs.length b1 x.di x.do_ x.rs x.cs W (u0.next hW) (u1.next hW) hsk.r0 hsk.s0 hsk.r1 hsk.s1
      have hdb : doneB x.sn x.at_ x.rs x.cs = dnB x := rfl
      rw [hdb] at HC
      have HPOS : Hid (dnB x = true → 0 < x.at_) := dnB_pos x
      have HRK : Hid (R = _) := hrk
      clear hz hx hdb R1 u0 u1 u2 hsk hrk
      have hnu : Nonempty (Under wr) := ⟨⟨wr, Below.refl _ _⟩⟩
      have hfork : True := trivial
      · clear hfork
        have s0 : ∀ u : Under wr, u.x.cell? ⟨g, k * 6, none⟩ = some (.int .i64 x.sn) := fun u => (u.h.cell hg1).trans x0
        have s1 : ∀ u : Under wr, u.x.cell? ⟨g, k * 6 + 1, none⟩ = some (.int .i64 x.at_) := fun u => (u.h.cell hg1).trans x1
        have s2 : ∀ u : Under wr, u.x.cell? ⟨g, k * 6 + 2, none⟩ = some (.slice (some ⟨gr, 0, none⟩) x.rs.length x.rs.length) := fun u => (u.h.cell hg1).trans x2
        have s3 : ∀ u : Under wr, u.x.cell? ⟨g, k * 6 + 3, none⟩ = some (.slice (some ⟨gc, 0, none⟩) x.cs.length x.cs.length) := fun u => (u.h.cell hg1).trans x3
        have s4 : ∀ u : Under wr, u.x.cell? ⟨g, k * 6 + 4, none⟩ = some (.bool x.di) := fun u => (u.h.cell hg1).trans x4
        have s5 : ∀ u : Under wr, u.x.cell? ⟨g, k * 6 + 5, none⟩ = some (.bool x.do_) := fun u => (u.h.cell hg1).trans x5
        clear x0 x1 x2 x3 x4 x5
        cases hD : dnB x
        · rw [hD] at HC
          have HF : Hid (R = false) := by show R = false; rw [HRK.out, hD]; cases decide (z < x.at_) <;> rfl
          clear hD HRK hlast HPOS
          go_wp2_with fail
          refine wp_region_under (by kernel_rfl) (by kernel_rfl) ?_
          repeat (go_big_quiet_step ((go_at_call 24; exact calls_under _ (HC.out _ (Under.h _)))))
          refine wpQuiet_nil ?_
          rintro _ ⟨u, rfl⟩
          have hbw := hbel.trans (u.h.mono hbel.size)
          go_wp2_with fail
          go_ret
          exact ⟨ret_bool' HF.out.symm, hbw⟩
        rw [hD] at HC
        have hpos := HPOS.out hD
        by_cases t1 : z < x.at_
        case neg =>
          have HF : Hid (R = false) := by show R = false; rw [HRK.out, decide_eq_false t1]; rfl
          rcases hlast with ⟨hk0, hz0⟩ | ⟨m, hkm, hcm⟩
          · omega
          have hkn : decide ((0 : Int) < (k : Int)) = true := decide_eq_true (by omega)
          have hkn2 : decide (0 < k) = true := decide_eq_true (by omega)
          have hks : (k : Int) - 1 = (m : Int) := by omega
          have hml : (m : Int) < (l.length : Int) := by omega
          have hzi' : decide (x.at_ ≤ z) = true := decide_eq_true (by omega)
          have r0 : ∀ u : Under wr, u.x.cell? ⟨g, m * 6 + 1, none⟩ = some (.int .i64 z) := fun u => (u.h.cell hg1).trans hcm
          clear hD HRK HPOS hkm hcm t1 hpos
          go_wp2_with fail
          refine wp_region_under (by kernel_rfl) (by kernel_rfl) ?_
          repeat (go_big_quiet_step ((go_at_call 24; exact calls_under _ (HC.out _ (Under.h _)))))
          refine wpQuiet_nil ?_
          rintro _ ⟨u, rfl⟩
          have hbw := hbel.trans (u.h.mono hbel.size)
          go_wp2_with fail
          go_ret
          exact ⟨ret_bool' HF.out.symm, hbw⟩
        have hzi' : decide (x.at_ ≤ z) = false := decide_eq_false (by omega)
        have hsplit : (decide ((0 : Int) < (k : Int)) = false ∧ decide (0 < k) = false) ∨ ∃ m : Nat, (decide ((0 : Int) < (k : Int)) = true ∧ decide (0 < k) = true) ∧ (k : Int) - 1 = (m : Int) ∧ (m : Int) < (l.length : Int) ∧ ∀ u : Under wr, u.x.cell? ⟨g, m * 6 + 1, none⟩ = some (.int .i64 z) := by
          rcases hlast with ⟨hk0, _⟩ | ⟨m, hkm, hcm⟩
          · exact .inl ⟨decide_eq_false (by omega), decide_eq_false (by omega)⟩
          · exact .inr ⟨m, ⟨decide_eq_true (by omega), decide_eq_true (by omega)⟩, by omega, by omega, fun u => (u.h.cell hg1).trans hcm⟩
        have HF : Hid (R = (rizB (lastD l (k + 1)) (l.drop (k + 1)) && N)) := by show R = _; rw [HRK.out, hD, decide_eq_true t1, HLA.out]; rfl
        clear hlast HRK HPOS hD t1 hpos
        rcases hsplit with ⟨hkn, hkn2⟩ | ⟨m, ⟨hkn, hkn2⟩, hks, hml, r0⟩
        all_goals
          go_wp2_with fail
          refine wp_region_under (by kernel_rfl) (by kernel_rfl) ?_
          repeat (go_big_quiet_step ((go_at_call 24; exact calls_under _ (HC.out _ (Under.h _)))))
          refine wpQuiet_nil ?_
          rintro _ ⟨u, rfl⟩
          have hbw := hbel.trans (u.h.mono hbel.size)
          go_wp2_with fail
          go_roundw
          case rel => exact ⟨k + 1, by omega, by go_num, HF.out, hbw⟩
          case measure => simp [intOf]; omega
    · have hlt2 : ¬ (k : Int) < (l.length : Int) := by omega
      rw [rizB_end _ l k (by omega), Bool.true_and, HNN.out] at hrk
      subst hrk
      by_cases h30 : l.length ≤ 40
      · have h31 : (l.length : Int) ≤ 40 := by omega
        rw [decide_eq_true h30]
        go_wp2_with fail
        go_ret
        exact ⟨by first | rfl | exact ret_bool' (by simp), hbel⟩
      · have h31 : ¬ (l.length : Int) ≤ 40 := by omega
        rw [decide_eq_false h30]
        go_wp2_with fail
        go_ret
        exact ⟨by first | rfl | exact ret_bool' (by simp), hbel⟩

end Go.Proofs.YtfchlpgalcedhaaGreatDoor.Ce

/- In which order they may have come: the specification's answer. -/
namespace Go.Proofs.YtfchlpgalcedhaaGreatDoor.Ce
open Go.RowKit Go.ChangeShapes Go.WideShapes Go.ChangeAt Go.Joins Tr Co Rea
set_option linter.unusedVariables false

def OwnB (W : World) (base : Nat) (v : Value) (T : List Bool) : Prop := W.ownsRow base 4 1 v T.length (T.map Value.bool)
theorem infoBo : (Tryz.prog.info? 4).map (fun i => (i.zero, i.size, i.bytes)) = some (some (.bool false), 1, 1) := by kernel_rfl
theorem make_bs (n : Nat) (hn : n ≤ 1048576) : ∃ M : Array Value, (∀ W : World, (Instr.makeSlice 53 (.int .i64 (n : Int)) (.int .i64 (n : Int))).run Tryz.prog W = .ok (.slice (some ⟨W.heap.size, 0, none⟩) n n) (W.alloc (.cells M 4))) ∧ M.toList = List.replicate n (.bool false) := by
  obtain ⟨i0, hi, hz0, hz1, hz2⟩ := info_parts infoBo
  refine ⟨madeCells (Value.bool false).cells (n * 1), fun W => ?_, ?_⟩
  · have h := run_make (P := Tryz.prog) W 53 4 i0 (.bool false) Tryz.underlying53 hi hz0 .i64 .i64 (n : Int) (n : Int) (by omega) (by omega) (by rw [hz2]; omega) (by omega)
    rw [hz1] at h
    simpa using h
  · apply List.ext_getElem?
    intro j
    by_cases hj : j < n
    · simp [madeCells, Value.cells, hj, Nat.mod_one]
    · simp [madeCells, Value.cells, hj]
theorem own_bs (w : World) {M : Array Value} {n : Nat} (hM : M.toList = List.replicate n (.bool false)) (hn : n ≤ 1048576) {base : Nat} (hb : base ≤ w.heap.size) : OwnB (w.alloc (.cells M 4)) base (.slice (some ⟨w.heap.size, 0, none⟩) n n) (List.replicate n false) := by
  have hs : M.size = n := by rw [← Array.length_toList, hM]; simp
  refine ⟨by simp, .inr ⟨w.heap.size, n, M, by simp, hb, heap_alloc_new w _, by simp, by unfold maxLen; omega, by rw [hs]; omega, ?_⟩⟩
  rw [hM]
  simp
theorem OwnB.get {W : World} {base g n c : Nat} {T : List Bool} (h : OwnB W base (.slice (some ⟨g, 0, none⟩) n c) T) (i : Nat) (hi : i < T.length) : W.cell? ⟨g, i, none⟩ = some (.bool (T.getD i false)) :=
  owns_cell h i _ (by rw [List.getElem?_map, List.getElem?_eq_getElem hi, List.getD_eq_getElem?_getD, List.getElem?_eq_getElem hi]; rfl)
theorem OwnB.set {W : World} {base g n c : Nat} {T : List Bool} (h : OwnB W base (.slice (some ⟨g, 0, none⟩) n c) T) (hn : T.length = n) (i : Nat) (b : Bool) : OwnB (W.setCell ⟨g, i, none⟩ (.bool b)) base (.slice (some ⟨g, 0, none⟩) n c) (T.set i b) := by
  subst hn
  have := (World.ownsRow.stored h i (.bool b)).1
  unfold OwnB
  rw [List.length_set, List.map_set]
  exact this
theorem OwnB.frozen {W : World} {base g n c : Nat} {T : List Bool} (h : OwnB W base (.slice (some ⟨g, 0, none⟩) n c) T) (hn : T.length = n) (k : Nat) : W.frozen? ⟨g, k, none⟩ = false := by
  subst hn
  exact World.ownsRow.frozenAt h k
def lenV : Value → Nat
  | .slice _ n _ => n
  | _ => 0
theorem other_self (l : List Dn) (k : Nat) : otherP l k k = false := by unfold otherP; simp
theorem other_ne (l : List Dn) (i k : Nat) (hi : i < l.length) (hk : k < l.length) (h : i ≠ k) : otherP l i k = aheadD l[i] l[k] := by
  unfold otherP; rw [edgeP_at l i hi k hk]; simp [h]

/-- What a round of the search keeps: a place was found, or none of those that were looked at is free. -/
def SrchS (E : Nat → Nat → Bool) (w wr : World) (gT n : Nat) (T : List Bool) (out : List Nat) (v f : Value) (k : Nat) : Prop :=
  (f = .bool false ∧ OwnI wr w.heap.size v (natI out) ∧ OwnB wr w.heap.size (.slice (some ⟨gT, 0, none⟩) n n) T ∧ ∀ j, j < k → freeU E T j n = false) ∨
  (∃ q, q < n ∧ f = .bool true ∧ OwnI wr w.heap.size v (natI (out ++ [q])) ∧ OwnB wr w.heap.size (.slice (some ⟨gT, 0, none⟩) n n) (T.set q true) ∧ (leftT n T).find? (freeIn E (leftT n T)) = some q)

set_option maxRecDepth 8000 in
set_option maxHeartbeats 8000000 in
theorem l12Order_any (g c b1 : Nat) (l : List Dn) (w : World) (h1 : MadeDn w b1 g l) (hlen : l.length ≤ 40) (hdn : ∀ v ∈ l, dnB v = true) :
    Calls Tryz.prog 15 #[.slice (some ⟨g, 0, none⟩) l.length c] w fun e w' => (∃ v, e = .returned (.tuple #[v, .bool (srlO l).isSome]) ∧ OwnI w' w.heap.size v (orL (srlO l))) ∧ Below w.heap.size w w' := by
  have H1 : Hid (MadeDn _ _ _ _) := h1
  have HDN : Hid (∀ x ∈ l, dnB x = true) := hdn
  obtain ⟨R, hR⟩ : ∃ R, R = srlO l := ⟨_, rfl⟩
  rw [← hR]
  obtain ⟨E, hE⟩ : ∃ E, E = otherP l := ⟨_, rfl⟩
  have HE : Hid (E = otherP l) := hE
  have HR0 : Hid (R = ordR E (leftT l.length (List.replicate l.length false)) []) := by show R = _; rw [hR, leftT_new, hE]; rfl
  obtain ⟨M, hM, hMl⟩ := make_bs l.length (by omega)
  have HML : Hid _ := hMl
  have HO0 : Hid (OwnI _ w.heap.size _ []) := OwnI.made w w.heap.size (Nat.le_refl _)
  clear h1 hdn hR hE hMl
  go_enter Tryz.func15, Tryz.ntmps15
  go_wp2_with fail
  have hb1 : Below w.heap.size w (w.alloc (.cells #[] 3)) := (Below.refl _ _).alloc (Nat.le_refl _) _
  have hs1 : (w.alloc (.cells #[] 3)).heap.size = w.heap.size + 1 := by simp
  have HT0 : Hid (OwnB _ w.heap.size _ _) := own_bs (w.alloc (.cells #[] 3)) HML.out (by omega) (base := w.heap.size) hb1.size
  have HO1 : Hid (OwnI _ w.heap.size _ []) := World.ownsRow.alloc HO0.out (.cells M 4)
  have hb2 : Below w.heap.size w ((w.alloc (.cells #[] 3)).alloc (.cells M 4)) := hb1.alloc hb1.size _
  rw [hs1] at HT0
  generalize (w.alloc (.cells #[] 3)).alloc (.cells M 4) = W0 at HT0 HO1 hb2 ⊢
  obtain ⟨gT, hgT⟩ : ∃ gT, gT = w.heap.size + 1 := ⟨_, rfl⟩
  have hgw : w.heap.size ≤ gT := by omega
  rw [← hgT] at HT0 ⊢
  clear hM HML HO0 hb1 hs1 hgT
  go_loopw [4] (fun v wr => ∃ (out : List Nat) (T : List Bool), T.length = l.length ∧ out.length + (leftT l.length T).length = l.length ∧ OwnI wr w.heap.size v (natI out) ∧ OwnB wr w.heap.size (.slice (some ⟨gT, 0, none⟩) l.length l.length) T ∧ R = ordR E (leftT l.length T) out ∧ Below w.heap.size w wr) (fun v _ => l.length - lenV v)
  case atStart => exact ⟨[], List.replicate l.length false, by simp, by rw [leftT_new]; simp, HO1.out, HT0.out, HR0.out, hb2⟩
  case round =>
    obtain ⟨out, T, hTl, hcnt, hown, hown2, hR1, hbel⟩ := hrel
    obtain ⟨p, cp, rfl, -⟩ := hown.inN
    rw [natI_len] at hown ⊢
    have HO2 : Hid (OwnI _ _ _ _) := hown
    have HT2 : Hid (OwnB _ _ _ _) := hown2
    have HR2 : Hid (R = _) := hR1
    clear HO1 HT0 HR0 hown hown2 hR1
    by_cases hfull : out.length < l.length
    case neg =>
      have hfull2 : ¬ (out.length : Int) < (l.length : Int) := by omega
      have hnil : leftT l.length T = [] := nil_of_len _ (by omega)
      have hRs : R = some out := by rw [HR2.out, hnil, ordR_nil]
      subst hRs
      clear HR2 HE hnil
      go_wp2_with fail
      go_ret2
      exact ⟨⟨_, rfl, HO2.out⟩, hbel⟩
    have hfull2 : (out.length : Int) < (l.length : Int) := by omega
    have HNE : Hid (leftT l.length T ≠ []) := fun h => by rw [h] at hcnt; simp at hcnt; omega
    go_wp2_with fail
    go_loopw [4, 6, 7] (fun v f i wr => ∃ k : Nat, k ≤ l.length ∧ i = .int .i64 k ∧ SrchS E w wr gT l.length T out v f k ∧ Below w.heap.size w wr) (fun _ _ i _ => l.length - (intOf i).toNat)
    case atStart => exact ⟨0, Nat.zero_le _, rfl, .inl ⟨rfl, HO2.out, HT2.out, fun j hj => by omega⟩, hbel⟩
    case round =>
      obtain ⟨k, hk, rfl, hsr, hbel2⟩ := hrel
      clear HO2 HT2
      rcases hsr with ⟨rfl, hown, hown2, hnone⟩ | ⟨q, hq, rfl, hown, hown2, hfind⟩
      case inr =>
        have HO3 : Hid (OwnI _ _ _ _) := hown
        have HT3 : Hid (OwnB _ _ _ _) := hown2
        have HF : Hid (_ = _) := hfind
        clear hown hown2 hfind
        have hmem : q ∈ leftT l.length T := List.mem_of_find?_eq_some HF.out
        have hlen : (leftT l.length (T.set q true)).length + 1 = (leftT l.length T).length := by
          rw [leftT_set T l.length q (by omega), List.length_erase_of_mem hmem]
          have := List.length_pos_of_mem hmem
          omega
        have HR3 : Hid (R = ordR E (leftT l.length (T.set q true)) (out ++ [q])) := by
          show R = _
          rw [HR2.out, ordR_some E _ out q HF.out, leftT_set T l.length q (by omega)]
        obtain ⟨p3, c3, rfl, -⟩ := HO3.out.inN
        clear HR2 HF hmem HNE
        by_cases hkk : (k : Int) < (l.length : Int)
        all_goals
          go_wp2_with fail
          go_roundw
          case rel => exact ⟨out ++ [q], T.set q true, by rw [List.length_set]; exact hTl, by rw [List.length_append, List.length_singleton]; omega, HO3.out, HT3.out, HR3.out, hbel2⟩
          case measure => simp [lenV, natI_len]; omega
      have HO3 : Hid (OwnI _ _ _ _) := hown
      have HT3 : Hid (OwnB _ _ _ _) := hown2
      have HN3 : Hid (∀ j, j < k → freeU E T j l.length = false) := hnone
      clear hown hown2 hnone
      by_cases hlt : k < l.length
      case neg =>
        have hlt2 : ¬ (k : Int) < (l.length : Int) := by omega
        have hRn : R = none := by rw [HR2.out]; exact ordR_none E _ out HNE.out (pick_none E T l.length (fun j hj => HN3.out j (by omega)))
        subst hRn
        clear HR2 HE HN3 HT3 HO3 HNE
        go_wp2_with fail
        refine bodyPost_ret (v := .tuple #[.slice (some ⟨wr.heap.size, 0, none⟩) 0 0, .bool false]) (by simp [results, Tryz.results15, go_sem]) rfl ⟨⟨_, rfl, OwnI.made wr _ hbel2.size⟩, hbel2.alloc hbel2.size _⟩
      have hlt2 : (k : Int) < (l.length : Int) := by omega
      have tk := HT3.out.get k (by omega)
      obtain ⟨tb, htb⟩ : ∃ tb, tb = T.getD k false := ⟨_, rfl⟩
      have HF0 : Hid ((!tb) = freeU E T k 0) := by show (!tb) = _; rw [htb, freeU_zero]
      rw [← htb] at tk
      have tl := cell_lt tk
      clear htb
      go_wp2_with fail
      go_loopw [8, 9] (fun f i wr3 => ∃ j : Nat, j ≤ l.length ∧ i = .int .i64 j ∧ f = .bool (freeU E T k j) ∧ Below wr.heap.size wr wr3) (fun _ i _ => l.length - (intOf i).toNat)
      case atStart => exact ⟨0, Nat.zero_le _, rfl, by rw [← HF0.out], Below.refl _ _⟩
      case round =>
        obtain ⟨j, hj, rfl, rfl, hb3⟩ := hrel
        obtain ⟨fb, hfb⟩ : ∃ fb, fb = freeU E T k j := ⟨_, rfl⟩
        rw [← hfb]
        have HFB : Hid (fb = _) := hfb
        have hbw3 : Below w.heap.size w wr := hbel2.trans (hb3.mono hbel2.size)
        have HO4 : Hid (OwnI wr _ _ _) := owns_below HO3.out hb3
        have HT4 : Hid (OwnB wr _ _ _) := owns_below HT3.out hb3
        clear hfb HF0 HO3 HT3 tk tl
        cases fb
        · have HFN : Hid (freeU E T k l.length = false) := freeU_stop E T k j l.length HFB.out.symm hj
          by_cases hjl : (j : Int) < (l.length : Int)
          all_goals
            go_wp2_with fail
            go_roundw
            case rel =>
              refine ⟨k + 1, by omega, by go_num, .inl ⟨rfl, HO4.out, HT4.out, fun j' hj' => ?_⟩, hbw3⟩
              rcases Nat.lt_or_ge j' k with h | h
              · exact HN3.out j' h
              · obtain rfl : j' = k := by omega
                exact HFN.out
            case measure => simp [intOf]; omega
        by_cases hjl : j < l.length
        case neg =>
          obtain rfl : j = l.length := by omega
          have hjl2 : ¬ (l.length : Int) < (l.length : Int) := by omega
          have hll := List.length_filter_le (fun i => !(T.getD i false)) (List.range l.length)
          have hlo : (natI out).length ≤ 1000000 := by rw [natI_len]; omega
          have hz3 := hbw3.size
          go_wp2_with (at_builtin; refine appOneG rfl (.tmp 65) (.tmp 67) rfl w.heap.size _ (natI out) (k : Int) _ rfl rfl (by simp) HO4.out hz3 hlo ?_; intro v1 w4 o1 hg1; refine Hid.out ?_)
          refine Lib.hid ?_
          have hA4 : OwnB (wr.alloc (.cells #[.int .i64 (k : Int)] 3)) w.heap.size _ T := World.ownsRow.alloc HT4.out _
          have hA5 : OwnI (wr.alloc (.cells #[.int .i64 (k : Int)] 3)) w.heap.size _ (natI out) := World.ownsRow.alloc HO4.out _
          have hT5 : OwnB w4 w.heap.size _ T := World.ownsRow.kept hA4 hg1 (rows_ne hA4 hA5 (by decide))
          have tk5 := hT5.get k (by omega)
          have tf5 := hT5.frozen hTl k
          have tl5 := cell_lt tk5
          have HT6 : Hid (OwnB (w4.setCell ⟨gT, k, none⟩ (.bool true)) w.heap.size _ (T.set k true)) := hT5.set hTl k true
          have HO6 : Hid (OwnI (w4.setCell ⟨gT, k, none⟩ (.bool true)) w.heap.size v1 (natI (out ++ [k]))) := by
            show OwnI _ _ _ _
            rw [natI_add]
            exact World.ownsRow.kept o1 grown_set (rows_ne o1 hT5 (by decide))
          have hb4 : Below w.heap.size w (wr.alloc (.cells #[.int .i64 (k : Int)] 3)) := hbw3.alloc hz3 _
          have hb5 : Below w.heap.size w w4 := hb4.grown hg1 (by simp; omega) (fun b hb => (World.ownsRow.lt HO4.out b hb).1)
          have HB6 : Hid (Below w.heap.size w (w4.setCell ⟨gT, k, none⟩ (.bool true))) := (show Below w.heap.size w (w4.setCell ⟨gT, k, none⟩ (.bool true)) from hb5.setCell (p := ⟨gT, k, none⟩) hgw _)
          have HP : Hid (_ = some k) := pick_some E T l.length k hlt HFB.out.symm HN3.out
          clear hA4 hA5 hT5 o1 hg1 hb4 hb5 HO4 HT4 HFB HN3
          go_wp2_with fail
          go_roundw
          case rel => exact ⟨k + 1, by omega, by go_num, .inr ⟨k, hlt, rfl, HO6.out, HT6.out, HP.out⟩, HB6.out⟩
          case measure => simp [intOf]; omega
        have hjl2 : (j : Int) < (l.length : Int) := by omega
        have tj := HT4.out.get j (by omega)
        obtain ⟨tb, htb⟩ : ∃ tb, tb = T.getD j false := ⟨_, rfl⟩
        rw [← htb] at tj
        have HTB : Hid (tb = _) := htb
        have tl4 := cell_lt tj
        have hnu : Nonempty (Under wr) := ⟨⟨wr, Below.refl _ _⟩⟩
        clear htb
        cases tb
        case true =>
          have t0 : ∀ u : Under wr, u.x.cell? ⟨gT, j, none⟩ = some (.bool true) := fun u => (u.h.cell tl4).trans tj
          clear tj
          go_wp2_with fail
          refine wp_region_under (by kernel_rfl) (by kernel_rfl) ?_
          repeat (go_big_quiet_step ((go_at_call 25; fail)))
          refine wpQuiet_nil ?_
          rintro _ ⟨u, rfl⟩
          have hb5 := hb3.trans (u.h.mono hb3.size)
          go_wp2_with fail
          go_roundw
          case rel => exact ⟨j + 1, by omega, by go_num, by rw [freeU_succ, ← HFB.out, ← HTB.out]; rfl, hb5⟩
          case measure => simp [intOf]; omega
        have t0 : ∀ u : Under wr, u.x.cell? ⟨gT, j, none⟩ = some (.bool false) := fun u => (u.h.cell tl4).trans tj
        clear tj
        by_cases hjk : j = k
        · have hjk2 : ((j : Int) == (k : Int)) = true := by simp [hjk]
          have HEK : Hid (E j k = false) := by show E j k = false; rw [HE.out, hjk, other_self]
          clear hjk
          go_wp2_with fail
          refine wp_region_under (by kernel_rfl) (by kernel_rfl) ?_
          repeat (go_big_quiet_step ((go_at_call 25; fail)))
          refine wpQuiet_nil ?_
          rintro _ ⟨u, rfl⟩
          have hb5 := hb3.trans (u.h.mono hb3.size)
          go_wp2_with fail
          go_roundw
          case rel => exact ⟨j + 1, by omega, by go_num, by rw [freeU_succ, ← HFB.out, ← HTB.out, HEK.out]; rfl, hb5⟩
          case measure => simp [intOf]; omega
        have hjk2 : ((j : Int) == (k : Int)) = false := by simp; omega
        have R1 := H1.out.next hbw3
        obtain ⟨gr, gc, ⟨x0, x1, x2, x3, x4, x5⟩, u0, u1, u2⟩ := R1.cells j hjl
        obtain ⟨kr, kc, ⟨y0, y1, y2, y3, y4, y5⟩, v0, v1, v2⟩ := R1.cells k hlt
        have hg1 := R1.lt
        have hdx := dn_parts l[j] (HDN.out _ (List.getElem_mem _))
        have hdy := dn_parts l[k] (HDN.out _ (List.getElem_mem _))
        have HEK : Hid (E j k = aheadD l[j] l[k]) := by show E j k = _; rw [HE.out, other_ne l j k hjl hlt hjk]
        obtain ⟨x, hx⟩ : ∃ x, x = l[j] := ⟨_, rfl⟩
        rw [← hx] at x0 x1 x2 x3 x4 x5 u0 u1 hdx HEK
        obtain ⟨y, hy⟩ : ∃ y, y = l[k] := ⟨_, rfl⟩
        rw [← hy] at y0 y1 y2 y3 y4 y5 v0 v1 hdy HEK
        have HC : Hid (∀ W : World, Below wr.heap.size wr W → Calls _ _ _ W _) := fun W hW => l09Ahead_any x.sn x.at_ y.sn y.at_ x.di x.do_ y.di y.do_ (some ⟨gc, 0, none⟩) (some ⟨kr, 0, none⟩) x.cs.length x.cs.length y.rs.length y.rs.length gr kc x.rs.length y.cs.length b1 x.rs y.cs W (u0.next hW) (v1.next hW) hdx.1 hdy.2.1 hdx.2.2.1 hdy.2.2.2
        have hab : aheadB x.sn x.at_ y.sn y.at_ x.rs y.cs = aheadD x y := rfl
        rw [hab] at HC
        obtain ⟨ab, hABe⟩ : ∃ ab, ab = aheadD x y := ⟨_, rfl⟩
        rw [← hABe] at HC HEK
        have s0 : ∀ u : Under wr, u.x.cell? ⟨g, j * 6, none⟩ = some (.int .i64 x.sn) := fun u => (u.h.cell hg1).trans x0
        have s1 : ∀ u : Under wr, u.x.cell? ⟨g, j * 6 + 1, none⟩ = some (.int .i64 x.at_) := fun u => (u.h.cell hg1).trans x1
        have s2 : ∀ u : Under wr, u.x.cell? ⟨g, j * 6 + 2, none⟩ = some (.slice (some ⟨gr, 0, none⟩) x.rs.length x.rs.length) := fun u => (u.h.cell hg1).trans x2
        have s3 : ∀ u : Under wr, u.x.cell? ⟨g, j * 6 + 3, none⟩ = some (.slice (some ⟨gc, 0, none⟩) x.cs.length x.cs.length) := fun u => (u.h.cell hg1).trans x3
        have s4 : ∀ u : Under wr, u.x.cell? ⟨g, j * 6 + 4, none⟩ = some (.bool x.di) := fun u => (u.h.cell hg1).trans x4
        have s5 : ∀ u : Under wr, u.x.cell? ⟨g, j * 6 + 5, none⟩ = some (.bool x.do_) := fun u => (u.h.cell hg1).trans x5
        have r0 : ∀ u : Under wr, u.x.cell? ⟨g, k * 6, none⟩ = some (.int .i64 y.sn) := fun u => (u.h.cell hg1).trans y0
        have r1 : ∀ u : Under wr, u.x.cell? ⟨g, k * 6 + 1, none⟩ = some (.int .i64 y.at_) := fun u => (u.h.cell hg1).trans y1
        have r2 : ∀ u : Under wr, u.x.cell? ⟨g, k * 6 + 2, none⟩ = some (.slice (some ⟨kr, 0, none⟩) y.rs.length y.rs.length) := fun u => (u.h.cell hg1).trans y2
        have r3 : ∀ u : Under wr, u.x.cell? ⟨g, k * 6 + 3, none⟩ = some (.slice (some ⟨kc, 0, none⟩) y.cs.length y.cs.length) := fun u => (u.h.cell hg1).trans y3
        have r4 : ∀ u : Under wr, u.x.cell? ⟨g, k * 6 + 4, none⟩ = some (.bool y.di) := fun u => (u.h.cell hg1).trans y4
        have r5 : ∀ u : Under wr, u.x.cell? ⟨g, k * 6 + 5, none⟩ = some (.bool y.do_) := fun u => (u.h.cell hg1).trans y5
        clear x0 x1 x2 x3 x4 x5 y0 y1 y2 y3 y4 y5 u0 u1 u2 v0 v1 v2 hdx hdy R1 hx hy hab hABe hjk
        cases ab
        all_goals
          go_wp2_with fail
          refine wp_region_under (by kernel_rfl) (by kernel_rfl) ?_
          repeat (go_big_quiet_step ((go_at_call 25; exact calls_under _ (HC.out _ (Under.h _)))))
          refine wpQuiet_nil ?_
          rintro _ ⟨u, rfl⟩
          have hb5 := hb3.trans (u.h.mono hb3.size)
          go_wp2_with fail
          go_roundw
          case rel => exact ⟨j + 1, by omega, by go_num, by rw [freeU_succ, ← HFB.out, ← HTB.out, HEK.out]; rfl, hb5⟩
          case measure => simp [intOf]; omega

set_option maxRecDepth 4000 in
set_option maxHeartbeats 4000000 in
theorem specSrl_any (g c b1 : Nat) (l : List Dn) (w : World) (h1 : MadeDn w b1 g l) (hlen : l.length ≤ 1048576) (hs : ∀ v ∈ l, szDn v) :
    Calls Tryz.prog 5 #[.slice (some ⟨g, 0, none⟩) l.length c] w fun e w' => SrR l w e w' := by
  have HC0 : Hid (Calls _ _ _ _ _) := l12Dones_any g c b1 l w h1 hlen hs
  have H1 : Hid (MadeDn _ _ _ _) := h1
  clear h1 hs
  unfold SrR
  by_cases t0 : 4096 < l.length
  · have t1 : (4096 : Int) < (l.length : Int) := by omega
    have e1 : srlC l = 2 := by unfold srlC; rw [if_pos t0]
    have e2 : srlL l = [] := by
      unfold srlL
      rw [if_neg]
      intro h
      have := (ser_parts l h).1
      omega
    rw [e1, e2]
    clear HC0
    go_enter Tryz.func5, Tryz.ntmps5
    go_wp2_with fail
    refine bodyPost_ret (v := .tuple #[.slice (some ⟨w.heap.size, 0, none⟩) 0 0, .int .i64 2]) (by simp [results, Tryz.results5, go_sem]) rfl ⟨⟨_, rfl, OwnI.made w _ (Nat.le_refl _)⟩, by (repeat (first | (with_reducible exact Below.refl _ _) | (with_reducible assumption) | (with_reducible apply below_drewN) | (with_reducible apply Below.drew) | ((with_reducible refine Below.setCell ?_ ?_ _); rotate_left; focus (first | (simp; done) | (simp; omega) | omega)) | ((with_reducible refine Below.alloc ?_ ?_ _); rotate_left; focus (first | (simp; done) | (simp; omega) | omega))))⟩
  have t1 : ¬ (4096 : Int) < (l.length : Int) := by omega
  cases hD : serB l
  · have e1 : srlC l = 1 := by unfold srlC; rw [if_neg t0, hD]; rfl
    have e2 : srlL l = [] := by unfold srlL; rw [hD]; rfl
    rw [e1, e2]
    rw [hD] at HC0
    clear hD e1 e2
    go_enter Tryz.func5, Tryz.ntmps5
    go_wp2_with fail
    refine HC0.out.mono ?_
    rintro e w1 ⟨rfl, hb⟩
    go_wp2_with fail
    refine bodyPost_ret (v := .tuple #[.slice (some ⟨w1.heap.size, 0, none⟩) 0 0, .int .i64 1]) (by simp [results, Tryz.results5, go_sem]) rfl ⟨⟨_, rfl, OwnI.made w1 _ hb.size⟩, hb.alloc hb.size _⟩
  have e1 : srlC l = orC (srlO l) := by unfold srlC; rw [if_neg t0, hD]; rfl
  have e2 : srlL l = orL (srlO l) := by unfold srlL; rw [hD]; rfl
  rw [e1, e2]
  obtain ⟨hl40, hdn⟩ := ser_parts l hD
  have HDN : Hid (∀ x ∈ l, dnB x = true) := hdn
  rw [hD] at HC0
  clear hD e1 e2 hdn
  have HO0 : Hid (∀ W : World, MadeDn W b1 g l → Calls _ _ _ W _) := fun W hW => l12Order_any g c b1 l W hW hl40 HDN.out
  obtain ⟨R, hR⟩ : ∃ R, R = srlO l := ⟨_, rfl⟩
  rw [← hR] at HO0 ⊢
  clear hR
  go_enter Tryz.func5, Tryz.ntmps5
  go_wp2_with fail
  refine HC0.out.mono ?_
  rintro e w1 ⟨rfl, hb⟩
  have hz1 := hb.size
  have HO1 : Hid (Calls _ _ _ _ _) := HO0.out w1 (H1.out.next hb)
  clear HO0 HC0
  go_wp2_with fail
  refine HO1.out.mono ?_
  rintro e w2 ⟨⟨v, rfl, ho⟩, hb2⟩
  have hbw : Below w.heap.size w w2 := hb.trans (hb2.mono hz1)
  have HO2 : Hid (OwnI _ _ _ _) := ownI_lower ho hz1
  clear ho HO1 hb hb2
  cases R with
  | none =>
    go_wp2_with fail
    refine bodyPost_ret (v := .tuple #[.slice (some ⟨w2.heap.size, 0, none⟩) 0 0, .int .i64 19]) (by simp [results, Tryz.results5, go_sem]) rfl ⟨⟨_, rfl, OwnI.made w2 _ hbw.size⟩, hbw.alloc hbw.size _⟩
  | some t =>
    go_wp2_with fail
    go_ret2
    exact ⟨⟨_, rfl, HO2.out⟩, hbw⟩

end Go.Proofs.YtfchlpgalcedhaaGreatDoor.Ce

/- The law's own walk of SerialOrder. -/
namespace Go.Proofs.YtfchlpgalcedhaaGreatDoor.SrlOrdf
open Go.RowKit Tr Co Rea Ce
set_option linter.unusedVariables false

theorem own_in {w : World} {base n c : Nat} {p : Option Addr} {l : List Int} (h : OwnI w base (.slice p n c) l) : InN w p l := by
  obtain ⟨q, d, e, N⟩ := h.inN
  injection e with e1 e2 e3
  subst e1
  exact N
theorem mkD_le' (l : List Dn) (r : Int) (h0 : 0 ≤ r) (h1 : r + (cntD l : Int) ≤ 1048576) : Ty.mkD l ≤ 10485760 := by
  have := Ty.mkD_le l
  omega
set_option maxRecDepth 8000 in
set_option maxHeartbeats 4000000 in
theorem walk (a : Option Addr) (cap : Nat) (l : List Dn) (hl : l.length ≤ maxLen) (hm : ∀ v ∈ l, maxDn v) (w : World) (hin : InDn w a l) :
    Calls Tryz.prog 3 #[.slice a l.length cap] w fun e w' => e = .returned (.bool true) ∧ Below w.heap.size w w' := by
  have HZ : Hid (Calls _ _ _ _ _) := szDoneS_tot a cap l 1048576 w hin hl hm (by omega) (by omega)
  go_enter Tryz.func3, Tryz.ntmps3
  go_wp2_with fail
  refine HZ.out.mono ?_
  rintro e w1 ⟨⟨r, rfl, hr⟩, hb1⟩
  clear HZ
  rcases hr with hneg | ⟨hr0, hr1, hr2, hr3⟩
  · go_wp2_with fail
    go_ret
    exact ⟨rfl, hb1⟩
  have hnn : ¬ r < 0 := by omega
  have hmk := mkD_le' l r hr0 hr1
  have HTO : Hid (∀ W : World, Below w.heap.size w W → Calls _ _ _ W _) := fun W hW => Ty.toDoneS_any a cap l W (hin.step hW) hr2 hr3
  have HEQ : Hid (∀ (g1 g2 b1 b2 : Nat) (W : World), Ce.MadeDn W b1 g1 l → Ce.MadeDn W b2 g2 l → Calls _ _ _ W _) := fun g1 g2 b1 b2 W x y => eqDoneS_same g1 g2 l.length l.length b1 b2 l W x y hr2 hr3
  have HS0 := fun (g b : Nat) (W : World) (hW : Ce.MadeDn W b g l) => specSrl_any g l.length b l W hW hr2 hr3
  have HI0 := fun (g b : Nat) (W : World) (hW : Ce.MadeDn W b g l) => implSrl_any g l.length b l W hW hr2 hr3
  have hE := srlL_len l
  obtain ⟨E, hEe⟩ : ∃ E, E = srlL l := ⟨_, rfl⟩
  obtain ⟨C, hCe⟩ : ∃ C, C = srlC l := ⟨_, rfl⟩
  unfold SrR at HS0 HI0
  rw [← hEe, ← hCe] at HS0 HI0
  rw [← hEe] at hE
  have HS : Hid (∀ (g b : Nat) (W : World), Ce.MadeDn W b g l → Calls Tryz.prog 5 #[.slice (some ⟨g, 0, none⟩) l.length l.length] W fun e w' => (∃ v, e = .returned (.tuple #[v, .int .i64 C]) ∧ OwnI w' W.heap.size v E) ∧ Below W.heap.size W w') := HS0
  have HI : Hid (∀ (g b : Nat) (W : World), Ce.MadeDn W b g l → Calls Tryz.prog 7 #[.slice (some ⟨g, 0, none⟩) l.length l.length] W fun e w' => (∃ v, e = .returned (.tuple #[v, .int .i64 C]) ∧ OwnI w' W.heap.size v E) ∧ Below W.heap.size W w') := HI0
  have HSZ : Hid (l.length ≤ 1048576 ∧ Ty.mkD l ≤ 10485760 ∧ ∀ d ∈ l, d.rs.length ≤ 1048576 ∧ d.cs.length ≤ 1048576 ∧ ∀ x ∈ d.rs, x.f.length ≤ 1048576 ∧ ∀ y ∈ x.f, y.length ≤ 1048576) := ⟨hr2, hmk, fun d hd => ⟨(hr3 d hd).r0, (hr3 d hd).s0, fun x hx => ⟨((hr3 d hd).r1 x hx).f0, ((hr3 d hd).r1 x hx).len⟩⟩⟩
  have HB1 : Hid (Below w.heap.size w w1) := hb1
  have z1 := hb1.size
  clear HS0 HI0 hEe hCe hin hr1 hr3 hm hmk hb1
  go_wp2_with fail
  refine (HTO.out _ HB1.out).mono ?_
  rintro e w2 ⟨⟨g2, rfl, O2⟩, hb⟩
  have z2 := hb.size
  have HB2 : Hid (Below w.heap.size w w2) := HB1.out.trans (hb.mono z1)
  have HO2 : Hid (Ty.MadeDn _ _ _ _) := O2
  clear hb O2 HB1
  go_wp2_with fail
  refine (HS.out g2 _ _ HO2.out.old).mono ?_
  rintro e w3 ⟨⟨v3, rfl, P3⟩, hb⟩
  have z3 := hb.size
  have HB3 : Hid (Below w.heap.size w w3) := HB2.out.trans (hb.mono (Nat.le_trans z1 z2))
  have HP3 : Hid (OwnI w3 w2.heap.size v3 E ∧ ∀ g, v3.ownBlock = some g → g < w3.heap.size) := ⟨P3, fun g hg => (World.ownsRow.lt P3 g hg).2⟩
  clear hb P3 HO2 HB2
  go_wp2_with fail
  refine (HTO.out _ HB3.out).mono ?_
  rintro e w4 ⟨⟨g4, rfl, O4⟩, hb⟩
  have z4 := hb.size
  have HB34 : Hid (Below w3.heap.size w3 w4) := hb
  have HO4 : Hid (Ty.MadeDn _ _ _ _) := O4
  clear hb O4
  go_wp2_with fail
  refine (HI.out g4 _ _ HO4.out.old).mono ?_
  rintro e w5 ⟨⟨v5, rfl, P5⟩, hb⟩
  have z5 := hb.size
  have HB45 : Hid (Below w4.heap.size w4 w5) := hb
  have hlb5 := World.ownsRow.lt P5
  obtain ⟨p5, c5, rfl, N5⟩ := P5.inN
  have hP3 := HP3.out
  have e3 : OwnI w5 w2.heap.size v3 E := owns_below (owns_below hP3.1 HB34.out) hb
  obtain ⟨p3, c3, rfl, N3⟩ := e3.inN
  have HP5 : Hid (OwnI w5 w4.heap.size (.slice p5 E.length c5) E) := P5
  have HP3' : Hid (OwnI w5 w2.heap.size (.slice p3 E.length c3) E) := e3
  have HL3 : Hid (∀ g, (Value.slice p3 E.length c3).ownBlock = some g → g < w3.heap.size) := hP3.2
  have HL5 : Hid (∀ g, (Value.slice p5 E.length c5).ownBlock = some g → w4.heap.size ≤ g) := fun g hg => (hlb5 g hg).1
  have HQ5 : Hid (Calls _ _ _ _ _) := eqIntS_same p5 p3 c5 c3 E w5 N5 N3 (by omega)
  clear hb P5 HP3 hP3 e3 N5 N3 hlb5
  go_wp2_with fail
  refine HQ5.out.mono ?_
  rintro e w6 ⟨rfl, hb⟩
  have z6 := hb.size
  have HB56 : Hid (Below w5.heap.size w5 w6) := hb
  have HB36 : Hid (Below w3.heap.size w3 w6) := HB34.out.trans ((HB45.out.trans (hb.mono z5)).mono z4)
  clear hb HQ5
  go_wp2_with fail
  refine (HTO.out _ (HB3.out.trans (HB36.out.mono (by omega)))).mono ?_
  rintro e w7 ⟨⟨g7, rfl, O7⟩, hb⟩
  have z7 := hb.size
  have HB57 : Hid (Below w5.heap.size w5 w7) := HB56.out.trans (hb.mono z6)
  have HB47 : Hid (Below w4.heap.size w4 w7) := HB45.out.trans (HB57.out.mono z5)
  have HO7 : Hid (Ce.MadeDn _ _ _ _) := O7.old
  clear hb O7 HB56
  go_wp2_with fail
  refine (HEQ.out g4 g7 _ _ _ (HO4.out.next HB47.out).old HO7.out).mono ?_
  rintro e w8 ⟨rfl, hb⟩
  have z8 := hb.size
  have HB58 : Hid (Below w5.heap.size w5 w8) := HB57.out.trans (hb.mono (by omega))
  have HB48 : Hid (Below w4.heap.size w4 w8) := HB47.out.trans (hb.mono (by omega))
  have HB38 : Hid (Below w3.heap.size w3 w8) := HB34.out.trans (HB48.out.mono z4)
  have HM8 : Hid (Calls _ _ _ _ _) := Ty.markDoneS_any w3.heap.size w4.heap.size g4 l.length l 1 w8 (HO4.out.sh.mk' (Ty.Mk.of_below HB48.out)) (by omega) (by have := HSZ.out.2.1; omega) HSZ.out.1 HSZ.out.2.2
  clear hb HB57 HB47 HO7 HEQ HB36 HB45 HB34
  go_wp2_with fail
  refine HM8.out.mono ?_
  rintro e w9 ⟨rfl, hm9⟩
  have hk9 : ¬ (((1 + Ty.mkD l : Nat) : Int) < 0) := by omega
  have z9 := hm9.chg.size
  have O5 := owns_below HP5.out HB58.out
  have O3 := owns_below HP3'.out HB58.out
  have M5 : OwnI w9 w4.heap.size (.slice p5 E.length c5) E := hm9.chg.owns O5 (fun g hg => .inr (HL5.out g hg))
  have M3 : OwnI w9 w2.heap.size (.slice p3 E.length c3) E := hm9.chg.owns O3 (fun g hg => .inl (HL3.out g hg))
  have HB9 : Hid (Below w.heap.size w w9) := (HB3.out.trans (HB38.out.mono (by omega))).trans (hm9.chg.below (by omega) (by omega))
  have HQ9 : Hid (Calls _ _ _ _ _) := eqIntS_same p5 p3 c5 c3 E w9 (own_in M5) (own_in M3) (by omega)
  have HM5 : Hid (OwnI w9 w4.heap.size (.slice p5 E.length c5) E) := M5
  have HM3 : Hid (OwnI w9 w2.heap.size (.slice p3 E.length c3) E) := M3
  clear hm9 O5 O3 M5 M3 HM8 HB58 HB48 HB38 HO4 HP5 HP3' HB3
  go_wp2_with fail
  refine HQ9.out.mono ?_
  rintro e w10 ⟨rfl, hb⟩
  have z10 := hb.size
  have HB10 : Hid (Below w.heap.size w w10) := HB9.out.trans (hb.mono (by omega))
  have K5 : OwnI w10 w4.heap.size (.slice p5 E.length c5) E := owns_below HM5.out hb
  have HK3 : Hid (OwnI w10 w2.heap.size (.slice p3 E.length c3) E) := owns_below HM3.out hb
  have HK5 : Hid (Calls _ _ _ _ _) := markIntS_any w4.heap.size _ E 1 w10 K5 (by omega) (by omega)
  clear hb K5 HM5 HM3 HQ9 HB9
  go_wp2_with fail
  refine HK5.out.mono ?_
  rintro e w11 ⟨rfl, K5, hg⟩
  have z11 := hg.size
  have K3 : OwnI w11 w2.heap.size (.slice p3 E.length c3) E := World.ownsRow.kept HK3.out hg (by
    cases h : (Value.slice p3 E.length c3).ownBlock with
    | none => exact .inl rfl
    | some g =>
      refine .inr (fun h2 => ?_)
      have a1 := HL3.out g h
      have a2 := HL5.out g h2.symm
      omega)
  have HB11 : Hid (Below w.heap.size w w11) := HB10.out.grown hg (by omega) (fun k hk => by have := HL5.out k hk; omega)
  have HH : Hid (Calls _ _ _ _ _) := heldIntS_any p5 c5 E.length 1 w11 (own_in K5) (by omega) (by omega)
  have HK5' : Hid (OwnI w11 w4.heap.size (.slice p5 E.length c5) (marksN 1 E.length)) := K5
  have HK3' : Hid (OwnI w11 w2.heap.size (.slice p3 E.length c3) E) := K3
  clear hg K3 K5 HK5 HK3 HB10
  go_wp2_with fail
  refine HH.out.mono ?_
  rintro e w12 ⟨rfl, hb⟩
  have hk12 : ¬ (((1 + E.length : Nat) : Int) < 0) := by omega
  have z12 := hb.size
  have HB12 : Hid (Below w.heap.size w w12) := HB11.out.trans (hb.mono (by omega))
  have HR5 : Hid (OwnI w12 w4.heap.size (.slice p5 E.length c5) (marksN 1 E.length)) := owns_below HK5'.out hb
  have HR3 : Hid (OwnI w12 w2.heap.size (.slice p3 E.length c3) E) := owns_below HK3'.out hb
  clear hb HH HK5' HK3' HB11
  go_wp2_with fail
  refine (HTO.out _ HB12.out).mono ?_
  rintro e w13 ⟨⟨g13, rfl, O13⟩, hb⟩
  have z13 := hb.size
  have HB13 : Hid (Below w12.heap.size w12 w13) := hb
  have HO13 : Hid (Ce.MadeDn _ _ _ _) := O13.old
  clear hb O13
  go_wp2_with fail
  refine (HI.out g13 _ _ HO13.out).mono ?_
  rintro e w14 ⟨⟨v14, rfl, P14⟩, hb⟩
  have z14 := hb.size
  have HB14 : Hid (Below w12.heap.size w12 w14) := HB13.out.trans (hb.mono z13)
  obtain ⟨p14, c14, rfl, N14⟩ := P14.inN
  have HQ : Hid (Calls _ _ _ _ _) := eqIntS_same p14 p3 c14 c3 E w14 N14 (own_in (owns_below HR3.out HB14.out)) (by omega)
  clear hb P14 N14 HB13 HO13
  go_wp2_with fail
  refine HQ.out.mono ?_
  rintro e w15 ⟨rfl, hb⟩
  have z15 := hb.size
  have hB15 : Below w12.heap.size w12 w15 := HB14.out.trans (hb.mono (by omega))
  have HB15 : Hid (Below w.heap.size w w15) := HB12.out.trans (hB15.mono (by omega))
  have HQ2 : Hid (Calls _ _ _ _ _) := heldIntS_any p5 c5 E.length 1 w15 (own_in (owns_below HR5.out hB15)) (by omega) (by omega)
  clear hb hB15 HQ HB14 HR3 HR5
  go_wp2_with fail
  refine HQ2.out.mono ?_
  rintro e w16 ⟨rfl, hb⟩
  have HB16 : Hid (Below w.heap.size w w16) := HB15.out.trans (hb.mono (by omega))
  clear hb HQ2 HB15 HB12
  go_wp2_with fail
  go_ret
  exact ⟨rfl, HB16.out⟩

end Go.Proofs.YtfchlpgalcedhaaGreatDoor.SrlOrdf
