/- Rows of reads: what the laws' own helpers on them answer; ContainsFunc over them. -/
import Derived.Test.YtpfbepbmiillbaaGreatDoorOpenTR
import Derived.Test.YtpfbepbmiillbaaGreatDoorTrMQ
namespace Go.Proofs.YtpfbepbmiillbaaGreatDoor.Rea
open Go.RowKit
set_option linter.unusedVariables false

/-- A read. -/
structure Rdg where
  coll : ByteArray
  f : List (List Trm)
def okR (x : Rdg) : Bool := readB x.coll x.f
theorem infoR : (Tryz.prog.info? 121).map (fun i => (i.zero, i.size, i.bytes)) = some (some (.agg #[.string em, .slice none 0 0]), 2, 40) := by kernel_rfl
/-- Reads that came in. -/
def InRd (w : World) (a : Option Addr) (l : List Rdg) : Prop := l.length = 0 ∨ ∃ b off, a = some ⟨b, off, none⟩ ∧ b < w.heap.size ∧ ∀ i (h : i < l.length), w.cell? ⟨b, off + i * 2, none⟩ = some (.string l[i].coll) ∧ ∃ p cap, w.cell? ⟨b, off + i * 2 + 1, none⟩ = some (.slice p l[i].f.length cap) ∧ InCl w p l[i].f
theorem InRd.step {w w' : World} {a : Option Addr} {l : List Rdg} (h : InRd w a l) (hb : Below w.heap.size w w') : InRd w' a l := by
  rcases h with h | ⟨b, off, ha, hlt, hc⟩
  · exact .inl h
  · exact .inr ⟨b, off, ha, Nat.lt_of_lt_of_le hlt hb.size, fun i hi => by
      obtain ⟨h0, p, cap, h1, h2⟩ := hc i hi
      exact ⟨(hb.cell hlt).trans h0, p, cap, (hb.cell hlt).trans h1, h2.step hb⟩⟩
/-- A row of reads made anew. -/
structure MadeRd (w : World) (base g : Nat) (l : List Rdg) : Prop where
  ge : base ≤ g
  lt : g < w.heap.size
  cells : ∀ i (h : i < l.length), w.cell? ⟨g, i * 2, none⟩ = some (.string l[i].coll) ∧ ∃ gi, w.cell? ⟨g, i * 2 + 1, none⟩ = some (.slice (some ⟨gi, 0, none⟩) l[i].f.length l[i].f.length) ∧ MadeC w base gi l[i].f
theorem MadeRd.next {w w' : World} {base g : Nat} {l : List Rdg} (h : MadeRd w base g l) (hb : Below w.heap.size w w') : MadeRd w' base g l :=
  ⟨h.ge, Nat.lt_of_lt_of_le h.lt hb.size, fun i hi => by
    obtain ⟨h0, gi, h1, h2⟩ := h.cells i hi
    exact ⟨(hb.cell h.lt).trans h0, gi, (hb.cell h.lt).trans h1, madeR_next h2 hb⟩⟩
theorem MadeRd.mono {w : World} {base base' g : Nat} {l : List Rdg} (h : MadeRd w base g l) (hb : base' ≤ base) : MadeRd w base' g l :=
  ⟨Nat.le_trans hb h.ge, h.lt, fun i hi => by
    obtain ⟨h0, gi, h1, h2⟩ := h.cells i hi
    exact ⟨h0, gi, h1, madeR_mono h2 hb⟩⟩
theorem MadeRd.set {w : World} {base g b o : Nat} {v : Value} {l : List Rdg} (h : MadeRd w base g l) (hb : b < base) : MadeRd (w.setCell ⟨b, o, none⟩ v) base g l :=
  ⟨h.ge, by simpa [World.setCell] using h.lt, fun i hi => by
    obtain ⟨h0, gi, h1, h2⟩ := h.cells i hi
    have hg : w.grownBy (w.setCell ⟨b, o, none⟩ v) (some b) := grown_setC
    have hge := h.ge
    have hbk := hg.block g h.lt (fun e => by injection e; omega)
    exact ⟨(World.cell?_of_block (a := ⟨g, i * 2, none⟩) hbk).trans h0, gi, (World.cell?_of_block (a := ⟨g, i * 2 + 1, none⟩) hbk).trans h1, h2.set hb⟩⟩
def szRd (x : Rdg) : Prop := SzR x.coll x.f
def maxRd (x : Rdg) : Prop := MaxR x.coll x.f
theorem take_allRd (p : Rdg → Prop) (l : List Rdg) (k : Nat) (h : k < l.length) (h1 : ∀ v ∈ l.take k, p v) (h2 : p l[k]) : ∀ v ∈ l.take (k + 1), p v := by
  intro v hv
  rw [List.take_succ_eq_append_getElem h] at hv
  rcases List.mem_append.1 hv with hv | hv
  · exact h1 v hv
  · simp at hv; subst hv; exact h2
/-- Which reads stand already at their places. -/
def partRd (w : World) (base : Nat) (xs : List Value) (l : List Rdg) (k : Nat) : Prop := ∀ i (h : i < l.length), i < k → xs[i * 2]? = some (.string l[i].coll) ∧ ∃ g, xs[i * 2 + 1]? = some (.slice (some ⟨g, 0, none⟩) l[i].f.length l[i].f.length) ∧ MadeC w (base + 1) g l[i].f
theorem keepRr {w w0 : World} {g1 g2 i : Nat} {a b c d : Value} (h1 : g1 < w.heap.size) (h2 : g2 < w.heap.size) (x0 : w.cell? ⟨g1, i * 2, none⟩ = some a) (x1 : w.cell? ⟨g1, i * 2 + 1, none⟩ = some b) (y0 : w.cell? ⟨g2, i * 2, none⟩ = some c) (y1 : w.cell? ⟨g2, i * 2 + 1, none⟩ = some d) (hb : Below w.heap.size w w0) :
    w0.cell? ⟨g1, i * 2, none⟩ = some a ∧ w0.cell? ⟨g1, i * 2 + 1, none⟩ = some b ∧ w0.cell? ⟨g2, i * 2, none⟩ = some c ∧ w0.cell? ⟨g2, i * 2 + 1, none⟩ = some d :=
  ⟨(hb.cell (p := ⟨g1, i * 2, none⟩) h1).trans x0, (hb.cell (p := ⟨g1, i * 2 + 1, none⟩) h1).trans x1, (hb.cell (p := ⟨g2, i * 2, none⟩) h2).trans y0, (hb.cell (p := ⟨g2, i * 2 + 1, none⟩) h2).trans y1⟩
set_option maxRecDepth 4000 in
set_option maxHeartbeats 2000000 in
theorem eqReadS_same (g1 g2 c1 c2 b1 b2 : Nat) (l : List Rdg) (w : World) (h1 : MadeRd w b1 g1 l) (h2 : MadeRd w b2 g2 l) (hlen : l.length ≤ 1048576) (hs : ∀ v ∈ l, szRd v) :
    Calls Tryz.prog 119 #[.slice (some ⟨g1, 0, none⟩) l.length c1, .slice (some ⟨g2, 0, none⟩) l.length c2] w fun e w' => e = .returned (.bool true) ∧ Below w.heap.size w w' := by
  have H1 : Hid (MadeRd _ _ _ _) := h1
  have H2 : Hid (MadeRd _ _ _ _) := h2
  have HS : Hid (∀ v ∈ l, szRd v) := hs
  clear h1 h2 hs
  go_enter Tryz.func119, Tryz.ntmps119
  go_wp2_with fail
  go_loopw [5] (fun i wr => ∃ k : Nat, k ≤ l.length ∧ i = .int .i64 k ∧ Below w.heap.size w wr) (fun i _ => l.length - (intOf i).toNat)
  case atStart => exact ⟨0, Nat.zero_le _, rfl, Below.refl _ _⟩
  case round =>
    obtain ⟨k, hk, rfl, hbel⟩ := hrel
    by_cases hlt : k < l.length
    · have hlt2 : (k : Int) < (l.length : Int) := by omega
      have R1 := H1.out.next hbel
      have R2 := H2.out.next hbel
      obtain ⟨x0, ga, x1, xa⟩ := R1.cells k hlt
      obtain ⟨y0, gb, y1, yb⟩ := R2.cells k hlt
      have hg1 := R1.lt
      have hg2 := R2.lt
      have hsk := HS.out l[k] (List.getElem_mem _)
      obtain ⟨x, hx⟩ : ∃ x, x = l[k] := ⟨_, rfl⟩
      rw [← hx] at x0 x1 xa y0 y1 yb hsk
      have HC : Hid (∀ W : World, Below wr.heap.size wr W → Calls Tryz.prog 156 #[.agg #[.string x.coll, .slice (some ⟨ga, 0, none⟩) x.f.length x.f.length], .agg #[.string x.coll, .slice (some ⟨gb, 0, none⟩) x.f.length x.f.length]] W fun e w' => e = .returned (.bool true) ∧ Below W.heap.size W w') := fun W hW => eqRead_same x.coll (some ⟨ga, 0, none⟩) (some ⟨gb, 0, none⟩) x.f.length x.f.length x.f W (.inr ⟨ga, rfl, xa.read.next hW⟩) (.inr ⟨gb, rfl, yb.read.next hW⟩) hsk
      clear hx hsk
      clear R1 R2 xa yb
      go_wp2_with fail
      go_region_held3 (fun w0 => w0.cell? ⟨g1, k * 2, none⟩ = some (.string x.coll) ∧ w0.cell? ⟨g1, k * 2 + 1, none⟩ = some (.slice (some ⟨ga, 0, none⟩) x.f.length x.f.length) ∧ w0.cell? ⟨g2, k * 2, none⟩ = some (.string x.coll) ∧ w0.cell? ⟨g2, k * 2 + 1, none⟩ = some (.slice (some ⟨gb, 0, none⟩) x.f.length x.f.length)) ((refine keepRr hg1 hg2 x0 x1 y0 y1 ?_; (repeat (first | (with_reducible exact Below.refl _ _) | (with_reducible assumption) | (with_reducible apply below_drewN) | (with_reducible apply Below.drew) | ((with_reducible refine Below.setCell ?_ ?_ _); rotate_left; focus (first | (simp; done) | (simp; omega) | omega)) | ((with_reducible refine Below.alloc ?_ ?_ _); rotate_left; focus (first | (simp; done) | (simp; omega) | omega)))))) ((go_at_call 156; refine (HC.out _ (by (repeat (first | (with_reducible exact Below.refl _ _) | (with_reducible assumption) | (with_reducible apply below_drewN) | (with_reducible apply Below.drew) | ((with_reducible refine Below.setCell ?_ ?_ _); rotate_left; focus (first | (simp; done) | (simp; omega) | omega)) | ((with_reducible refine Below.alloc ?_ ?_ _); rotate_left; focus (first | (simp; done) | (simp; omega) | omega)))))).mono ?_; rintro e w2 ⟨rfl, hb⟩; have hB2 : Below wr.heap.size wr w2 := (show Below wr.heap.size wr _ by (repeat (first | (with_reducible exact Below.refl _ _) | (with_reducible assumption) | (with_reducible apply below_drewN) | (with_reducible apply Below.drew) | ((with_reducible refine Below.setCell ?_ ?_ _); rotate_left; focus (first | (simp; done) | (simp; omega) | omega)) | ((with_reducible refine Below.alloc ?_ ?_ _); rotate_left; focus (first | (simp; done) | (simp; omega) | omega))))).trans (hb.mono (by simp)); clear hb))
      all_goals
        have hb2 := hbel.trans (hB2.mono hbel.size)
        go_wp2_with fail
        go_roundw
        case rel => exact ⟨k + 1, by omega, by go_num, hb2⟩
        case measure => simp [intOf]; omega
    · have hlt2 : ¬ (k : Int) < (l.length : Int) := by omega
      go_wp2_with fail
      go_ret
      exact ⟨rfl, hbel⟩

end Go.Proofs.YtpfbepbmiillbaaGreatDoor.Rea
