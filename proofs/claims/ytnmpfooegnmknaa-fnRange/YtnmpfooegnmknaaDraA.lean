/- Drafts: a tree while entries come and go, as the program keeps it. -/
import Derived.Test.YtnmpfooegnmknaaPutK
import Derived.Test.YtnmpfooegnmknaaPutN
import Derived.Test.YtnmpfooegnmknaaTrK
import Derived.Test.YtnmpfooegnmknaaFulP
namespace Go.Proofs.Ytnmpfooegnmknaa.Tr
open Go.RowKit
set_option linter.unusedVariables false

theorem PlaceE.uniq {l : List Ent} {e : Ent} {i j : Nat} {b c : Bool} (h : PlaceE l e i b) (h' : PlaceE l e j c) : i = j ∧ b = c := by
  have hij : i = j := by
    rcases Nat.lt_trichotomy i j with hh | hh | hh
    · have hl : i < l.length := Nat.lt_of_lt_of_le hh h'.le
      have := h'.lo i hl hh
      rw [h.hi i hl (Nat.le_refl _)] at this; cases this
    · exact hh
    · have hl : j < l.length := Nat.lt_of_lt_of_le hh h.le
      have := h.lo j hl hh
      rw [h'.hi j hl (Nat.le_refl _)] at this; cases this
  subst hij
  refine ⟨rfl, ?_⟩
  cases b <;> cases c
  · rfl
  · exact absurd (h.at_.2 (h'.at_.1 rfl)) (by simp)
  · exact absurd (h'.at_.2 (h.at_.1 rfl)) (by simp)
  · rfl
theorem placeE_ex (e : Ent) : ∀ l : List Ent, RiseE l → ∃ i b, PlaceE l e i b
  | [], _ => ⟨0, false, Nat.le_refl _, fun q h => absurd h (by simp), fun q h => absurd h (by simp), ⟨fun h => (by cases h), fun ⟨h, _⟩ => absurd h (by simp)⟩⟩
  | x :: t, hs => by
    have hst : RiseE t := fun i j hi hj hij => hs (i + 1) (j + 1) (by simpa using hi) (by simpa using hj) (by omega)
    cases hx : lessE x e with
    | true =>
      obtain ⟨i, b, h⟩ := placeE_ex e t hst
      refine ⟨i + 1, b, by have := h.le; simpa using this, ?_, ?_, ?_⟩
      · intro q hq hqi
        cases q with
        | zero => exact hx
        | succ q => exact h.lo q (by simpa using hq) (by omega)
      · intro q hq hqi
        cases q with
        | zero => omega
        | succ q => exact h.hi q (by simpa using hq) (by omega)
      · rw [h.at_]
        constructor
        · rintro ⟨h1, h2⟩; exact ⟨by simpa using h1, by simpa using h2⟩
        · rintro ⟨h1, h2⟩; exact ⟨by simpa using h1, by simpa using h2⟩
    | false =>
      have hall : ∀ q (h : q < (x :: t).length), 0 ≤ q → lessE (x :: t)[q] e = false := by
        intro q hq _
        cases q with
        | zero => exact hx
        | succ q =>
          rw [Bool.eq_false_iff]
          intro hc
          have h1 := hs 0 (q + 1) (by simp) hq (by omega)
          have := lessE_trans h1 hc
          exact absurd (show lessE x e = true from this) (by rw [hx]; simp)
      by_cases hxe : x = e
      · exact ⟨0, true, Nat.zero_le _, fun q h h2 => absurd h2 (by omega), hall, ⟨fun _ => ⟨by simp, hxe⟩, fun _ => rfl⟩⟩
      · exact ⟨0, false, Nat.zero_le _, fun q h h2 => absurd h2 (by omega), hall, ⟨fun h => (by cases h), fun ⟨_, h⟩ => absurd h hxe⟩⟩
theorem entryPlace_at (b o : Nat) (p : Pg) (e : Ent) (i : Nat) (there : Bool) (w : World) (hr : PageAtA w b o p) (hs : RiseE p.es) (hl : p.es.length ≤ 1048576) (hP : PlaceE p.es e i there) :
    Calls Try.prog 94 #[.pointer (some ⟨b, o, none⟩), .agg #[.string e.key, .int .i64 e.id]] w fun e' w' => e' = .returned (.tuple #[.int .i64 i, .bool there]) ∧ Below w.heap.size w w' :=
  (entryPlace_any b o p e w hr hs hl).mono fun e' w' ⟨⟨j, c, he, h⟩, hb⟩ => by
    obtain ⟨rfl, rfl⟩ := hP.uniq h
    exact ⟨he, hb⟩

/-- A draft: its two cells, and its row of pointers; the pages lie elsewhere. -/
structure Draft (w : World) (base d gp cp : Nat) (ps : List (Option Addr)) (f : List Pg) (next : Int) : Prop where
  bd : base ≤ d
  lt : d < w.heap.size
  dg : d ≠ gp
  c0 : w.cell? ⟨d, 0, none⟩ = some (.slice (some ⟨gp, 0, none⟩) f.length cp)
  c1 : w.cell? ⟨d, 1, none⟩ = some (.int .i64 next)
  z0 : w.frozen? ⟨d, 0, none⟩ = false
  z1 : w.frozen? ⟨d, 1, none⟩ = false
  own : w.ownsRow base 91 1 (.slice (some ⟨gp, 0, none⟩) f.length cp) f.length (ps.map Value.pointer)
  pages : ∀ i (h : i < f.length), ∃ b o q c, ps[i]? = some (some ⟨b, o, none⟩) ∧ PgC w b o q c f[i] ∧ b ≠ d ∧ b ≠ gp ∧ (∀ b' o', q = some ⟨b', o', none⟩ → b' ≠ d ∧ b' ≠ gp)
def DraftE (w : World) (base d : Nat) (f : List Pg) (next : Int) : Prop := ∃ gp cp ps, Draft w base d gp cp ps f next
theorem Draft.next {w w' : World} {base d gp cp : Nat} {ps : List (Option Addr)} {f : List Pg} {nx : Int} (h : Draft w base d gp cp ps f nx) (hb : Below w.heap.size w w') : Draft w' base d gp cp ps f nx :=
  ⟨h.bd, Nat.lt_of_lt_of_le h.lt hb.size, h.dg, (hb.cell h.lt).trans h.c0, (hb.cell h.lt).trans h.c1, (hb.frozen (p := ⟨d, 0, none⟩) h.lt).trans h.z0, (hb.frozen (p := ⟨d, 1, none⟩) h.lt).trans h.z1, owns_below h.own hb, fun i hi => by
    obtain ⟨b, o, q, c, h1, h2, h3⟩ := h.pages i hi
    exact ⟨b, o, q, c, h1, h2.next hb, h3⟩⟩
theorem Draft.plen {w : World} {base d gp cp : Nat} {ps : List (Option Addr)} {f : List Pg} {nx : Int} (h : Draft w base d gp cp ps f nx) : ps.length = f.length := by
  have := h.own.1; simpa using this
theorem Draft.cellP {w : World} {base d gp cp : Nat} {ps : List (Option Addr)} {f : List Pg} {nx : Int} (h : Draft w base d gp cp ps f nx) (i : Nat) (a : Option Addr) (hi : ps[i]? = some a) : w.cell? ⟨gp, i, none⟩ = some (.pointer a) :=
  owns_cell h.own i _ (by rw [List.getElem?_map, hi]; rfl)
theorem Draft.ptr {w : World} {base d gp cp : Nat} {ps : List (Option Addr)} {f : List Pg} {nx : Int} (h : Draft w base d gp cp ps f nx) : PtrP w gp f :=
  ⟨(h.own.lt gp rfl).2, fun i hi => by
    obtain ⟨b, o, q, c, h1, h2, _⟩ := h.pages i hi
    exact ⟨b, o, h.cellP i _ h1, h2.pageAt⟩⟩
/-- One pointer exchanged. -/
theorem Draft.set {w : World} {base d gp cp : Nat} {ps : List (Option Addr)} {f : List Pg} {nx : Int} (h : Draft w base d gp cp ps f nx) {k b o c : Nat} {q : Option Addr} {p : Pg} (hk : k < f.length) (hp : PgC w b o q c p) (h1 : b ≠ d) (h2 : b ≠ gp) (h3 : ∀ b' o', q = some ⟨b', o', none⟩ → b' ≠ d ∧ b' ≠ gp) :
    Draft (w.setCell ⟨gp, k, none⟩ (.pointer (some ⟨b, o, none⟩))) base d gp cp (ps.set k (some ⟨b, o, none⟩)) (f.set k p) nx := by
  have hg : w.grownBy (w.setCell ⟨gp, k, none⟩ (.pointer (some ⟨b, o, none⟩))) (some gp) := grown_set
  have hd : ∀ x, (w.setCell ⟨gp, k, none⟩ (.pointer (some ⟨b, o, none⟩))).cell? ⟨d, x, none⟩ = w.cell? ⟨d, x, none⟩ := fun x => World.cell?_of_block (hg.block d h.lt (fun e => h.dg (Option.some.inj e)))
  have hf : ∀ x, (w.setCell ⟨gp, k, none⟩ (.pointer (some ⟨b, o, none⟩))).frozen? ⟨d, x, none⟩ = w.frozen? ⟨d, x, none⟩ := fun x => by
    have := hg.block d h.lt (fun e => h.dg (Option.some.inj e))
    simp only [World.frozen?, this]
  have hpl := h.plen
  have hs := (World.ownsRow.stored h.own k (.pointer (some ⟨b, o, none⟩))).1
  rw [← List.map_set] at hs
  refine ⟨h.bd, Nat.lt_of_lt_of_le h.lt hg.size, h.dg, ?_, (hd 1).trans h.c1, (hf 0).trans h.z0, (hf 1).trans h.z1, ?_, ?_⟩
  · rw [List.length_set]; exact (hd 0).trans h.c0
  · rw [List.length_set]; exact hs
  · intro i hi
    rw [List.length_set] at hi
    by_cases e : i = k
    · subst e
      rw [List.getElem_set_self]
      exact ⟨b, o, q, c, List.getElem?_set_self (by omega), hp.grown hg h2 (fun b' o' e => (h3 b' o' e).2), h1, h2, h3⟩
    · rw [List.getElem_set_ne (fun x => e x.symm)]
      obtain ⟨b1, o1, q1, c1, g1, g2, g3, g4, g5⟩ := h.pages i hi
      exact ⟨b1, o1, q1, c1, (List.getElem?_set_ne (fun x => e x.symm)).trans g1, g2.grown hg g4 (fun b' o' e => (g5 b' o' e).2), g3, g4, g5⟩
theorem grown_putRow {w : World} {g q : Nat} {ds : Array (Option Addr)} : w.grownBy (Sort.putRow Value.pointer (Sort.ahead w q) g 0 ds) (some g) := by
  refine ⟨rfl, rfl, rfl, by simp [Sort.putRow, Sort.mapBlock, Sort.ahead], fun k hk hne => ?_⟩
  have : g ≠ k := fun e => hne (by rw [e])
  simp [Sort.putRow, Sort.mapBlock, Sort.ahead, Array.getElem?_modify, this]
/-- One pointer taken out, by Delete. -/
theorem Draft.cut {w : World} {base d gp cp : Nat} {ps : List (Option Addr)} {f : List Pg} {nx : Int} (h : Draft w base d gp cp ps f nx) {k q : Nat} (hk : k < f.length) :
    Draft ((Sort.putRow Value.pointer (Sort.ahead w q) gp 0 (ps.take k ++ ps.drop (k + 1) ++ List.replicate (k + 1 - k) none).toArray).setCell ⟨d, 0, none⟩ (.slice (some ⟨gp, 0, none⟩) (f.length - 1) cp)) base d gp cp (ps.eraseIdx k) (f.eraseIdx k) nx := by
  have hpl := h.plen
  obtain ⟨ys, hys⟩ : ∃ ys, ys = ps.take k ++ ps.drop (k + 1) ++ List.replicate (k + 1 - k) none := ⟨_, rfl⟩
  have hyl : ys.length = f.length := by rw [hys]; simp only [List.length_append, List.length_take, List.length_drop, List.length_replicate]; omega
  have hyt : ys.take (f.length - 1) = ps.eraseIdx k := by
    rw [hys, List.eraseIdx_eq_take_drop_succ, List.take_append_of_le_length (by simp only [List.length_append, List.length_take, List.length_drop]; omega)]
    rw [List.take_of_length_le (by simp only [List.length_append, List.length_take, List.length_drop]; omega)]
  rw [← hys]
  have hle : (f.eraseIdx k).length = f.length - 1 := List.length_eraseIdx_of_lt hk
  have ho := Lib.ownsRow_putRow (q := q) (k := f.length - 1) h.own hyl (by omega)
  rw [hyt] at ho
  have hg1 : w.grownBy (Sort.putRow Value.pointer (Sort.ahead w q) gp 0 ys.toArray) (some gp) := grown_putRow
  generalize Sort.putRow Value.pointer (Sort.ahead w q) gp 0 ys.toArray = W8 at ho hg1 ⊢
  have hd1 : W8.heap[d]? = w.heap[d]? := hg1.block d h.lt (fun e => h.dg (Option.some.inj e))
  have hd : ∀ x, W8.cell? ⟨d, x, none⟩ = w.cell? ⟨d, x, none⟩ := fun x => World.cell?_of_block hd1
  have hf : ∀ x, W8.frozen? ⟨d, x, none⟩ = w.frozen? ⟨d, x, none⟩ := fun x => by simp only [World.frozen?, hd1]
  have hg2 : W8.grownBy (W8.setCell ⟨d, 0, none⟩ (.slice (some ⟨gp, 0, none⟩) (f.length - 1) cp)) (some d) := grown_set
  have e0 := (hd 0).trans h.c0
  have e1 := (hd 1).trans h.c1
  have y0 := (hf 0).trans h.z0
  have y1 := (hf 1).trans h.z1
  clear hd hf hd1 hys
  refine ⟨h.bd, Nat.lt_of_lt_of_le (Nat.lt_of_lt_of_le h.lt hg1.size) hg2.size, h.dg, ?_, ?_, ?_, ?_, ?_, ?_⟩
  · rw [hle]; simp [go_sem, *]
  · simp [go_sem, *]
  · simp [go_sem, *]
  · simp [go_sem, *]
  · rw [hle]
    exact ho.kept hg2 (.inr (fun e => h.dg (Option.some.inj e).symm))
  · intro i hi
    rw [hle] at hi
    by_cases hik : i < k
    · rw [List.getElem_eraseIdx_of_lt _ hik]
      obtain ⟨b1, o1, q1, c1, g1, g2, g3, g4, g5⟩ := h.pages i (by omega)
      exact ⟨b1, o1, q1, c1, by rw [List.getElem?_eraseIdx_of_lt hik]; exact g1, (g2.grown hg1 g4 (fun b' o' e => (g5 b' o' e).2)).grown hg2 g3 (fun b' o' e => (g5 b' o' e).1), g3, g4, g5⟩
    · rw [List.getElem_eraseIdx_of_ge _ (by omega)]
      obtain ⟨b1, o1, q1, c1, g1, g2, g3, g4, g5⟩ := h.pages (i + 1) (by omega)
      exact ⟨b1, o1, q1, c1, by rw [List.getElem?_eraseIdx_of_ge (by omega)]; exact g1, (g2.grown hg1 g4 (fun b' o' e => (g5 b' o' e).2)).grown hg2 g3 (fun b' o' e => (g5 b' o' e).1), g3, g4, g5⟩
theorem Draft.holds {w : World} {base d gp cp : Nat} {ps : List (Option Addr)} {f : List Pg} {nx : Int} (h : Draft w base d gp cp ps f nx) : Sort.Holds Value.pointer w gp 0 ps.toArray ∧ f.length ≤ cp ∧ cp ≤ maxLen := by
  obtain ⟨g, cap, hv, _, _, h1, h2, _, h3⟩ := Lib.holds_of_ownsRow h.own (by simp)
  injection hv with hv1 _ hv3
  injection hv1 with hv1
  injection hv1 with hv1
  subst hv1 hv3
  exact ⟨h3, h1, h2⟩

theorem ptrsOf_map (g n : Nat) : ptrsOf g n = ((List.range n).map fun i => (some ⟨g, i * 2, none⟩ : Option Addr)).map Value.pointer := by unfold ptrsOf; rw [List.map_map]; rfl
set_option maxRecDepth 4000 in
set_option maxHeartbeats 2000000 in
theorem draftOf_any (g cap : Nat) (f : List Pg) (next : Int) (w : World) (hF : FullP w g f) (h1 : 1 ≤ f.length) (h60 : f.length ≤ 60) :
    Calls Try.prog 47 #[.agg #[.slice (some ⟨g, 0, none⟩) f.length cap, .int .i64 next]] w fun e' w' => (∃ d, e' = .returned (.pointer (some ⟨d, 0, none⟩)) ∧ DraftE w' w.heap.size d f next) ∧ Below w.heap.size w w' := by
  have hb0 : Below w.heap.size w (w.alloc (.cells #[.slice (some ⟨g, 0, none⟩) f.length cap, .int .i64 next] 37)) := (Below.refl _ _).alloc (Nat.le_refl _) _
  have d0 : (w.alloc (.cells #[.slice (some ⟨g, 0, none⟩) f.length cap, .int .i64 next] 37)).cell? ⟨w.heap.size, 0, none⟩ = some (.slice (some ⟨g, 0, none⟩) f.length cap) := by simp [go_sem]
  have d1 : (w.alloc (.cells #[.slice (some ⟨g, 0, none⟩) f.length cap, .int .i64 next] 37)).cell? ⟨w.heap.size, 1, none⟩ = some (.int .i64 next) := by simp [go_sem]
  have l0 : w.heap.size < (w.alloc (.cells #[.slice (some ⟨g, 0, none⟩) f.length cap, .int .i64 next] 37)).heap.size := by simp
  have HF : Hid (FullP _ _ _) := hF
  clear hF
  go_enter Try.func47, Try.ntmps47
  go_wp2_with fail
  generalize w.alloc (.cells #[.slice (some ⟨g, 0, none⟩) f.length cap, .int .i64 next] 37) = W0 at hb0 d0 d1 l0 ⊢
  go_region_with (go_at_call 56; refine (pointersTo_any g cap f.length _ h60).mono ?_; rintro e' w2 ⟨⟨v, rfl, hv⟩, hb⟩; obtain ⟨gp, cp, rfl, hg1, hg2, hc1, hc2⟩ := owns_form hv (by omega); have hB2 : Below W0.heap.size W0 w2 := (show Below W0.heap.size W0 _ by (repeat (first | (with_reducible exact Below.refl _ _) | (with_reducible assumption) | (with_reducible apply below_drewN) | (with_reducible apply Below.drew) | ((with_reducible refine Below.setCell ?_ ?_ _); rotate_left; focus (first | (simp; done) | (simp; omega) | omega)) | ((with_reducible refine Below.alloc ?_ ?_ _); rotate_left; focus (first | (simp; done) | (simp; omega) | omega))))).trans (hb.mono (by simp)); have HV : Hid (w2.ownsRow W0.heap.size 91 1 (.slice (some ⟨gp, 0, none⟩) f.length cp) f.length (ptrsOf g f.length)) := owns_mono hv (by simp); have e2 := (hB2.cell l0).trans d1; have hz2 := hB2.size; clear hb hv hg1)
  all_goals
    have B8 : Below w2.heap.size w2 (w2.alloc (.cells #[.slice (some ⟨gp, 0, none⟩) f.length cp, .int .i64 next] 130)) := (Below.refl _ _).alloc (Nat.le_refl _) _
    have hbF : Below w.heap.size w w2 := hb0.trans (hB2.mono hb0.size)
    have HB : Hid (Below w.heap.size w (w2.alloc (.cells #[.slice (some ⟨gp, 0, none⟩) f.length cp, .int .i64 next] 130))) := hbF.trans (B8.mono hbF.size)
    have HD : Hid (Draft (w2.alloc (.cells #[.slice (some ⟨gp, 0, none⟩) f.length cp, .int .i64 next] 130)) w.heap.size w2.heap.size gp cp ((List.range f.length).map fun i => (some ⟨g, i * 2, none⟩ : Option Addr)) f next) := by
      have hF2 := HF.out.next hbF
      have hgl := HF.out.lt
      have hwz := hbF.size
      have hgp0 : W0.heap.size ≤ gp := (HV.out.lt gp rfl).1
      have hw0 := hb0.size
      refine ⟨hbF.size, by simp, by omega, by simp [go_sem], by simp [go_sem], by simp [go_sem], by simp [go_sem], ?_, ?_⟩
      · rw [← ptrsOf_map]; exact owns_mono (owns_below HV.out B8) hb0.size
      · intro i hi
        obtain ⟨q, c, hp⟩ := hF2.pages i hi
        obtain ⟨q0, c0, hp0⟩ := HF.out.pages i hi
        have hqq : q = q0 := by
          have := (hbF.cell hgl).trans hp0.row
          rw [hp.row] at this; injection this with this; injection this
        refine ⟨g, i * 2, q, c, by simp [hi], hp.next B8, by omega, by omega, fun b' o' e => ?_⟩
        rcases hp0.form with ⟨h1, _⟩ | ⟨b2, o2, h1, h2⟩
        · rw [hqq, h1] at e; cases e
        · rw [hqq, h1] at e; cases e; omega
    clear B8 hbF
    go_wp2_with fail
    go_ret
    exact ⟨⟨_, rfl, _, _, _, HD.out⟩, HB.out⟩

end Go.Proofs.Ytnmpfooegnmknaa.Tr
