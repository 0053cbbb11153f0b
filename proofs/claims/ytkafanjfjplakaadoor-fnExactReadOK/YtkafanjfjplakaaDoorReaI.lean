/- Reads: whether one is right, what the laws' own helpers on one answer, and one that comes in, opened. -/
import Derived.Test.YtkafanjfjplakaaDoorFiltI
import Derived.Test.YtkafanjfjplakaaDoorFiltS
import Derived.Test.YtkafanjfjplakaaDoorRowD
import Derived.Test.YtkafanjfjplakaaDoorOpenF
import Derived.Deep.RegionHeld3
namespace Go.Proofs.YtkafanjfjplakaaDoor.Rea
open Go.RowKit Go.ChangeShapes Go.WideShapes Go.ChangeAt Go.Joins
set_option linter.unusedVariables false

theorem madeR_next {w w' : World} {base g : Nat} {f : List (List Trm)} (h : MadeC w base g f) (hb : Below w.heap.size w w') : MadeC w' base g f :=
  ⟨h.ge, Nat.lt_of_lt_of_le h.lt hb.size, fun i hi => by
    obtain ⟨gi, cap, h1, h2, h3⟩ := h.cells i hi
    exact ⟨gi, cap, (hb.cell h.lt).trans h1, h2, h3.next hb⟩⟩
theorem madeR_mono {w : World} {base base' g : Nat} {f : List (List Trm)} (h : MadeC w base g f) (hb : base' ≤ base) : MadeC w base' g f :=
  ⟨Nat.le_trans hb h.ge, h.lt, fun i hi => by
    obtain ⟨gi, cap, h1, h2, h3⟩ := h.cells i hi
    exact ⟨gi, cap, h1, Nat.le_trans hb h2, h3⟩⟩
/-- A box of two cells. -/
structure BoxR (w W : World) (a b : Value) : Prop where
  bel : Below w.heap.size w W
  lt : w.heap.size < W.heap.size
  c0 : W.cell? ⟨w.heap.size, 0, none⟩ = some a
  c1 : W.cell? ⟨w.heap.size, 1, none⟩ = some b
theorem BoxR.start (w : World) (a b : Value) (T : TypeId) : BoxR w (w.alloc (.cells #[a, b] T)) a b :=
  ⟨(Below.refl _ _).alloc (Nat.le_refl _) _, by simp, by simp [go_sem], by simp [go_sem]⟩
theorem BoxR.step {w W W' : World} {a b : Value} (h : BoxR w W a b) (hb : Below W.heap.size W W') : BoxR w W' a b :=
  ⟨h.bel.trans (hb.mono h.bel.size), Nat.lt_of_lt_of_le h.lt hb.size, (hb.cell h.lt).trans h.c0, (hb.cell h.lt).trans h.c1⟩
/-- Whether a read is right. -/
def readB (s : ByteArray) (f : List (List Trm)) : Bool := shortB s && filtB f
structure SzR (s : ByteArray) (f : List (List Trm)) : Prop where
  s0 : s.size ≤ 1048576
  f0 : f.length ≤ 1048576
  f1 : ∀ l ∈ f, szC l
theorem SzR.mx {s : ByteArray} {f : List (List Trm)} (h : SzR s f) : s.size ≤ maxLen := by have := h.s0; unfold maxLen; omega
theorem SzR.len {s : ByteArray} {f : List (List Trm)} (h : SzR s f) : ∀ l ∈ f, l.length ≤ 1048576 := fun l hl => (h.f1 l hl).1
structure MaxR (s : ByteArray) (f : List (List Trm)) : Prop where
  s0 : s.size ≤ maxLen
  f0 : f.length ≤ maxLen
  f1 : ∀ l ∈ f, maxC l

set_option maxRecDepth 4000 in
set_option maxHeartbeats 1000000 in
theorem readOK_any (s : ByteArray) (p : Option Addr) (cap : Nat) (f : List (List Trm)) (w : World) (hr : RowC w p f) (hs : SzR s f) :
    Calls Tryd.prog 7 #[.agg #[.string s, .slice p f.length cap]] w fun e w' => e = .returned (.bool (readB s f)) ∧ Below w.heap.size w w' := by
  have X0 := BoxR.start w (.string s) (.slice p f.length cap) 33
  have HN : Hid (∀ W : World, Calls _ _ _ W _) := fun W => shortNameOK_any s W hs.mx
  have HF : Hid (∀ W : World, RowC W p f → Calls _ _ _ W _) := fun W hW => filterOK_any p cap f W hW hs.f0 hs.f1
  have HR : Hid (RowC _ _ _) := hr
  unfold readB
  clear hr hs
  cases hb1 : shortB s
  · rw [hb1] at HN
    have hbw := X0.bel
    go_enter Tryd.func7, Tryd.ntmps7
    go_wp2_with fail
    refine (HN.out _).mono ?_
    rintro e w1 ⟨rfl, rfl⟩
    go_wp2_with fail
    go_ret
    exact ⟨rfl, hbw⟩
  · rw [hb1] at HN
    have c1 := X0.c1
    go_enter Tryd.func7, Tryd.ntmps7
    go_wp2_with fail
    refine (HN.out _).mono ?_
    rintro e w1 ⟨rfl, rfl⟩
    go_wp2_with fail
    refine (HF.out _ (HR.out.next X0.bel)).mono ?_
    rintro e w2 ⟨rfl, hb⟩
    have hbw := (X0.step hb).bel
    clear hb
    go_wp2_with fail
    go_ret
    exact ⟨rfl, hbw⟩
set_option maxRecDepth 4000 in
set_option maxHeartbeats 1000000 in
theorem specRead_any (s : ByteArray) (p : Option Addr) (cap : Nat) (f : List (List Trm)) (w : World) (hr : RowC w p f) (hs : SzR s f) :
    Calls Tryd.prog 5 #[.agg #[.string s, .slice p f.length cap]] w fun e w' => e = .returned (.bool (readB s f)) ∧ Below w.heap.size w w' := by
  have X0 := BoxR.start w (.string s) (.slice p f.length cap) 33
  have HN : Hid (∀ W : World, Calls _ _ _ W _) := fun W => l01Name_any s W hs.mx
  have HF : Hid (∀ W : World, RowC W p f → Calls _ _ _ W _) := fun W hW => specFilt_any p cap f W hW hs.f0 hs.f1
  have HR : Hid (RowC _ _ _) := hr
  unfold readB
  clear hr hs
  cases hb1 : shortB s
  · rw [hb1] at HN
    have hbw := X0.bel
    go_enter Tryd.func5, Tryd.ntmps5
    go_wp2_with fail
    refine (HN.out _).mono ?_
    rintro e w1 ⟨rfl, rfl⟩
    go_wp2_with fail
    go_ret
    exact ⟨rfl, hbw⟩
  · rw [hb1] at HN
    have c1 := X0.c1
    go_enter Tryd.func5, Tryd.ntmps5
    go_wp2_with fail
    refine (HN.out _).mono ?_
    rintro e w1 ⟨rfl, rfl⟩
    go_wp2_with fail
    refine (HF.out _ (HR.out.next X0.bel)).mono ?_
    rintro e w2 ⟨rfl, hb⟩
    have hbw := (X0.step hb).bel
    clear hb
    go_wp2_with fail
    go_ret
    exact ⟨rfl, hbw⟩
set_option maxRecDepth 4000 in
set_option maxHeartbeats 1000000 in
theorem szRead_any (s : ByteArray) (p : Option Addr) (cap : Nat) (f : List (List Trm)) (c0 : Int) (w : World) (hin : InCl w p f) (hm : MaxR s f) (h0 : 0 ≤ c0) (h1 : c0 ≤ 1048576) :
    Calls Tryd.prog 4 #[.agg #[.string s, .slice p f.length cap], .int .i64 c0] w fun e w' => (∃ r : Int, e = .returned (.int .i64 r) ∧ (r < 0 ∨ (0 ≤ r ∧ r ≤ c0 ∧ SzR s f))) ∧ Below w.heap.size w w' := by
  have X0 := BoxR.start w (.string s) (.slice p f.length cap) 26
  have hbw := X0.bel
  have hmx := hm.s0
  unfold maxLen at hmx
  by_cases hover : c0 < (s.size : Int)
  · have hneg : c0 - (s.size : Int) < 0 := by omega
    go_enter Tryd.func4, Tryd.ntmps4
    go_wp2_with fail
    go_ret
    exact ⟨⟨-1, rfl, .inl (by omega)⟩, hbw⟩
  · have hpos : ¬ c0 - (s.size : Int) < 0 := by omega
    have HF : Hid (Calls _ _ _ _ _) := szFilter_any p cap f (c0 - s.size) _ (hin.step X0.bel) hm.f0 hm.f1 (by omega) (by omega)
    have c1 := X0.c1
    clear hin hm
    go_enter Tryd.func4, Tryd.ntmps4
    go_wp2_with fail
    refine HF.out.mono ?_
    rintro e w1 ⟨⟨r, rfl, hr⟩, hb⟩
    have hbw1 := (X0.step hb).bel
    clear hb
    rcases hr with hneg | ⟨hr0, hr1, hr2, hr3⟩
    · go_wp2_with fail
      go_ret
      exact ⟨⟨-1, rfl, .inl (by omega)⟩, hbw1⟩
    · have hnn : ¬ r < 0 := by omega
      have HR3 : Hid (∀ l ∈ f, szC l) := hr3
      clear hr3
      go_wp2_with fail
      go_ret
      exact ⟨⟨r, rfl, .inr ⟨hr0, by omega, ⟨by omega, hr2, HR3.out⟩⟩⟩, hbw1⟩
set_option maxRecDepth 4000 in
set_option maxHeartbeats 1000000 in
theorem filterMade_any (a : Option Addr) (cap : Nat) (f : List (List Trm)) (w : World) (hin : InCl w a f) (hlen : f.length ≤ 1048576) (hs : ∀ l ∈ f, l.length ≤ 1048576) :
    Calls Tryd.prog 12 #[.agg #[.slice a f.length cap]] w fun e w' => (∃ g, e = .returned (.agg #[.slice (some ⟨g, 0, none⟩) f.length f.length]) ∧ MadeC w' w.heap.size g f) ∧ Below w.heap.size w w' := by
  have hb0 : Below w.heap.size w (((w.alloc (.cells #[.slice a f.length cap] 24)).alloc (.cells #[.slice none 0 0] 31)).alloc (.cells #[.slice none 0 0] 31)) := (((Below.refl _ _).alloc (Nat.le_refl _) _).alloc (by simp) _).alloc (by simp; omega) _
  have HC : Hid (Calls _ _ _ _ _) := toClauseS_any a cap f _ (hin.step hb0) hlen hs
  clear hin hs
  go_enter Tryd.func12, Tryd.ntmps12
  go_wp2_with fail
  refine HC.out.mono ?_
  rintro e w1 ⟨⟨g, rfl, hR⟩, hb⟩
  obtain ⟨hc, hf⟩ := Go.Proofs.YtkafanjfjplakaaDoor.bcell hb
  have hz : w.heap.size + 2 < w1.heap.size := by have := hb.size; simp at this; omega
  have hbw : Below w.heap.size w w1 := hb0.trans (hb.mono (by simp; omega))
  simp at hR
  have HR : Hid (MadeC _ _ _ _) := hR
  clear hb HC hR hb0
  go_wp2_with fail
  refine bodyPost_ret (v := .agg #[.slice (some ⟨g, 0, none⟩) f.length f.length]) (by simp [results, Tryd.results12, go_sem, *]) rfl ⟨⟨g, rfl, ?_⟩, ?_⟩
  · exact madeR_mono ((HR.out.set (by omega)).set (by omega)) (by omega)
  · (repeat (first | (with_reducible exact Below.refl _ _) | (with_reducible assumption) | (with_reducible apply below_drewN) | (with_reducible apply Below.drew) | ((with_reducible refine Below.setCell ?_ ?_ _); rotate_left; focus (first | (simp; done) | (simp; omega) | omega)) | ((with_reducible refine Below.alloc ?_ ?_ _); rotate_left; focus (first | (simp; done) | (simp; omega) | omega))))
/-- Blocks of two cells that are being made: the answer's and the one that is filled. -/
structure MkR (w W : World) (a b x y z u : Value) : Prop where
  bel : Below w.heap.size w W
  lt : w.heap.size + 2 < W.heap.size
  c0 : W.cell? ⟨w.heap.size, 0, none⟩ = some a
  c1 : W.cell? ⟨w.heap.size, 1, none⟩ = some b
  d0 : W.cell? ⟨w.heap.size + 1, 0, none⟩ = some x
  d1 : W.cell? ⟨w.heap.size + 1, 1, none⟩ = some y
  e0 : W.cell? ⟨w.heap.size + 2, 0, none⟩ = some z
  e1 : W.cell? ⟨w.heap.size + 2, 1, none⟩ = some u
  df : ∀ o, W.frozen? ⟨w.heap.size + 1, o, none⟩ = false
  ef : ∀ o, W.frozen? ⟨w.heap.size + 2, o, none⟩ = false
theorem MkR.start (w : World) (a b x y z u : Value) (T T2 T3 : TypeId) : MkR w (((w.alloc (.cells #[a, b] T)).alloc (.cells #[x, y] T2)).alloc (.cells #[z, u] T3)) a b x y z u :=
  ⟨(((Below.refl _ _).alloc (Nat.le_refl _) _).alloc (by simp) _).alloc (by simp; omega) _, by simp, by simp [go_sem], by simp [go_sem], by simp [go_sem], by simp [go_sem], by simp [go_sem], by simp [go_sem], fun o => by simp [go_sem], fun o => by simp [go_sem]⟩
theorem MkR.next {w W W' : World} {a b x y z u : Value} (h : MkR w W a b x y z u) (hb : Below W.heap.size W W') : MkR w W' a b x y z u := by
  have hl := h.lt
  have hc : ∀ b o, b < W.heap.size → W'.cell? ⟨b, o, none⟩ = W.cell? ⟨b, o, none⟩ := fun b o hh => hb.cell (p := ⟨b, o, none⟩) hh
  have hf : ∀ b o, b < W.heap.size → W'.frozen? ⟨b, o, none⟩ = W.frozen? ⟨b, o, none⟩ := fun b o hh => hb.frozen (p := ⟨b, o, none⟩) hh
  exact ⟨h.bel.trans (hb.mono (by omega)), Nat.lt_of_lt_of_le h.lt hb.size, (hc _ _ (by omega)).trans h.c0, (hc _ _ (by omega)).trans h.c1, (hc _ _ (by omega)).trans h.d0, (hc _ _ (by omega)).trans h.d1, (hc _ _ (by omega)).trans h.e0, (hc _ _ (by omega)).trans h.e1, fun o => (hf _ _ (by omega)).trans (h.df o), fun o => (hf _ _ (by omega)).trans (h.ef o)⟩
set_option maxRecDepth 4000 in
set_option maxHeartbeats 1000000 in
theorem toRead_any (s : ByteArray) (p : Option Addr) (cap : Nat) (f : List (List Trm)) (w : World) (hin : InCl w p f) (hs : SzR s f) :
    Calls Tryd.prog 6 #[.agg #[.string s, .slice p f.length cap]] w fun e w' => (∃ g, e = .returned (.agg #[.string s, .slice (some ⟨g, 0, none⟩) f.length f.length]) ∧ MadeC w' w.heap.size g f) ∧ Below w.heap.size w w' := by
  have M0 := MkR.start w (.string s) (.slice p f.length cap) (.string em) (.slice none 0 0) (.string s) (.slice none 0 0) 26 33 33
  have HC : Hid (Calls _ _ _ _ _) := filterMade_any p cap f _ (hin.step M0.bel) hs.f0 hs.len
  clear hin hs
  go_enter Tryd.func6, Tryd.ntmps6
  go_wp2_with fail
  refine HC.out.mono ?_
  rintro e w1 ⟨⟨g, rfl, hR⟩, hb⟩
  have HR : Hid (MadeC _ _ _ _) := madeR_mono (base' := w.heap.size + 3) hR (by simp)
  obtain ⟨mb, ml, c0, c1, d0, d1, e0, e1, mdf, mef⟩ := M0.next hb
  clear hb HC hR M0
  go_wp2_with fail
  refine bodyPost_ret (v := .agg #[.string s, .slice (some ⟨g, 0, none⟩) f.length f.length]) (by simp [results, Tryd.results6, go_sem, *]) rfl ⟨⟨g, rfl, ?_⟩, ?_⟩
  · exact madeR_mono (((HR.out.set (by omega)).set (by omega)).set (by omega)) (by omega)
  · (repeat (first | (with_reducible exact Below.refl _ _) | (with_reducible assumption) | (with_reducible apply below_drewN) | (with_reducible apply Below.drew) | ((with_reducible refine Below.setCell ?_ ?_ _); rotate_left; focus (first | (simp; done) | (simp; omega) | omega)) | ((with_reducible refine Below.alloc ?_ ?_ _); rotate_left; focus (first | (simp; done) | (simp; omega) | omega))))
set_option maxRecDepth 4000 in
set_option maxHeartbeats 1000000 in
theorem eqRead_same (s : ByteArray) (p1 p2 : Option Addr) (c1 c2 : Nat) (f : List (List Trm)) (w : World) (h1 : RowC w p1 f) (h2 : RowC w p2 f) (hs : SzR s f) :
    Calls Tryd.prog 8 #[.agg #[.string s, .slice p1 f.length c1], .agg #[.string s, .slice p2 f.length c2]] w fun e w' => e = .returned (.bool true) ∧ Below w.heap.size w w' := by
  have hb0 : Below w.heap.size w ((w.alloc (.cells #[.string s, .slice p1 f.length c1] 33)).alloc (.cells #[.string s, .slice p2 f.length c2] 33)) := ((Below.refl _ _).alloc (Nat.le_refl _) _).alloc (by simp) _
  have HC : Hid (Calls _ _ _ _ _) := eqFilter_same p1 p2 c1 c2 f _ (h1.next hb0) (h2.next hb0) hs.f0 hs.len
  clear h1 h2 hs
  go_enter Tryd.func8, Tryd.ntmps8
  go_wp2_with fail
  refine HC.out.mono ?_
  rintro e w1 ⟨rfl, hb⟩
  have hbw := hb0.trans (hb.mono hb0.size)
  clear hb
  go_wp2_with fail
  go_ret
  exact ⟨rfl, hbw⟩
theorem cellsRd : Tryd.prog.cellsOf 26 = 2 := by kernel_rfl
theorem cellsRF : Tryd.prog.cellsOf 24 = 1 := by kernel_rfl
theorem cellsRT : Tryd.prog.cellsOf 9 = 1 := by kernel_rfl
theorem cellsRC : Tryd.prog.cellsOf 22 = 1 := by kernel_rfl
set_option maxRecDepth 100000 in
theorem open_read {H : Type} {enc : TypeId × Value → H} {w : World} {base b0 : Nat} {spare : Nat → Bool} {held : Bool} {r : Reach} {v : Value} {d : DataW H} {ps : List MemPlace}
    (hv : Value.okWide Tryd.prog w r b0 26 v) (h : DataW.Trod enc Tryd.prog w base spare held 26 v d ps) :
    ∃ (s : ByteArray) (p : Option Addr) (cap : Nat) (f : List (List Trm)), v = .agg #[.string s, .slice p f.length cap] ∧ MaxR s f ∧ InCl w p f := by
  obtain ⟨cs, rfl, hsz⟩ := okWide_struct Tryd.underlying26 hv
  obtain ⟨fuel, hf⟩ := h
  rw [cellsRd] at hsz
  obtain ⟨l⟩ := cs
  match l, hsz with
  | [c0, c1], _ =>
    obtain ⟨y0, y1, n, _, _, t0, t1⟩ := trod_struct2 Tryd.underlying26 (show DataW.trod enc Tryd.prog w base spare held fuel 26 [c0, c1] = some _ by simpa [Value.cells] using hf)
    obtain ⟨z0, n', _, _, u0⟩ := trod_struct1 Tryd.underlying24 t1
    obtain ⟨pf, ln, cf, f, e1, hln, hf1, hf2, hf3⟩ := open_clauses u0
    obtain ⟨hi, e0, _, hh⟩ := DataW.trod_string Tryd.underlying9 t0
    simp [cellsRF, cellsRT, cellsRC] at e0 e1
    subst e0 e1 hln
    exact ⟨hi, pf, cf, f, rfl, ⟨hh, hf1, hf2⟩, hf3⟩
theorem keepR {w W w0 : World} {a b : Value} {bx : Nat} {x y : Value} (X : BoxR w W a b) (m : bx < W.heap.size) (e0 : W.cell? ⟨bx, 0, none⟩ = some x) (e1 : W.cell? ⟨bx, 1, none⟩ = some y) (hb : Below W.heap.size W w0) :
    w0.cell? ⟨w.heap.size, 0, none⟩ = some a ∧ w0.cell? ⟨w.heap.size, 1, none⟩ = some b ∧ w0.cell? ⟨bx, 0, none⟩ = some x ∧ w0.cell? ⟨bx, 1, none⟩ = some y :=
  ⟨(hb.cell X.lt).trans X.c0, (hb.cell X.lt).trans X.c1, (hb.cell m).trans e0, (hb.cell m).trans e1⟩

end Go.Proofs.YtkafanjfjplakaaDoor.Rea
