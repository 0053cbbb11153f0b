/- Rows of collections: what the laws' own helpers on them answer. -/
import Derived.Test.YtpfbepbmiillbaaGreatDoorDefOR
import Derived.Deep.RegionHeld3
namespace Go.Proofs.YtpfbepbmiillbaaGreatDoor.Tx
open Go.RowKit Go.ChangeShapes Go.WideShapes Go.ChangeAt Go.Joins Tr Co
set_option linter.unusedVariables false

/-- Chains and definitions of a collection that was made. -/
def MadeChs (w : World) (base g : Nat) (f : List Chn) : Prop := ∃ lo hi, base ≤ lo ∧ OwnChH w lo hi (.slice (some ⟨g, 0, none⟩) f.length f.length) f
theorem MadeChs.next {w w' : World} {base g : Nat} {f : List Chn} (h : MadeChs w base g f) (hb : Below w.heap.size w w') : MadeChs w' base g f := by
  obtain ⟨lo, hi, h1, h2⟩ := h; exact ⟨lo, hi, h1, h2.next hb⟩
theorem MadeChs.mono {w : World} {base base' g : Nat} {f : List Chn} (h : MadeChs w base g f) (hb : base' ≤ base) : MadeChs w base' g f := by
  obtain ⟨lo, hi, h1, h2⟩ := h; exact ⟨lo, hi, Nat.le_trans hb h1, h2⟩
theorem MadeChs.set {w : World} {base g b o : Nat} {v : Value} {f : List Chn} (h : MadeChs w base g f) (hb : b < base) : MadeChs (w.setCell ⟨b, o, none⟩ v) base g f := by
  obtain ⟨lo, hi, h1, h2⟩ := h; exact ⟨lo, hi, h1, chH_at h2 o b v (by omega)⟩
theorem MadeChs.row {w : World} {base g : Nat} {f : List Chn} (h : MadeChs w base g f) : RowCh w (some ⟨g, 0, none⟩) f := by
  obtain ⟨lo, hi, h1, h2⟩ := h; exact h2.own.rowCh
theorem MadeChs.inCh {w : World} {base g : Nat} {f : List Chn} (h : MadeChs w base g f) : InCh w (some ⟨g, 0, none⟩) f := by
  obtain ⟨lo, hi, h1, h2⟩ := h; exact h2.inCh
def MadeDfs (w : World) (base g : Nat) (f : List Dfn) : Prop := ∃ lo hi, base ≤ lo ∧ OwnDfH w lo hi (.slice (some ⟨g, 0, none⟩) f.length f.length) f
theorem MadeDfs.next {w w' : World} {base g : Nat} {f : List Dfn} (h : MadeDfs w base g f) (hb : Below w.heap.size w w') : MadeDfs w' base g f := by
  obtain ⟨lo, hi, h1, h2⟩ := h; exact ⟨lo, hi, h1, h2.next hb⟩
theorem MadeDfs.mono {w : World} {base base' g : Nat} {f : List Dfn} (h : MadeDfs w base g f) (hb : base' ≤ base) : MadeDfs w base' g f := by
  obtain ⟨lo, hi, h1, h2⟩ := h; exact ⟨lo, hi, Nat.le_trans hb h1, h2⟩
theorem MadeDfs.set {w : World} {base g b o : Nat} {v : Value} {f : List Dfn} (h : MadeDfs w base g f) (hb : b < base) : MadeDfs (w.setCell ⟨b, o, none⟩ v) base g f := by
  obtain ⟨lo, hi, h1, h2⟩ := h; exact ⟨lo, hi, h1, dfH_at h2 o b v (by omega)⟩
theorem MadeDfs.row {w : World} {base g : Nat} {f : List Dfn} (h : MadeDfs w base g f) : RowDf w (some ⟨g, 0, none⟩) f := by
  obtain ⟨lo, hi, h1, h2⟩ := h; exact h2.rowDf
theorem infoCs : (Tryz.prog.info? 63).map (fun i => (i.zero, i.size, i.bytes)) = some (some (.agg #[.string em, .slice none 0 0, .slice none 0 0]), 3, 64) := by kernel_rfl
/-- Those that came in. -/
def InCs (w : World) (a : Option Addr) (l : List Col) : Prop := l.length = 0 ∨ ∃ b off, a = some ⟨b, off, none⟩ ∧ b < w.heap.size ∧ ∀ i (h : i < l.length), ∃ p cp q cq, (w.cell? ⟨b, off + i * 3, none⟩ = some (.string l[i].name) ∧ w.cell? ⟨b, off + i * 3 + 1, none⟩ = some (.slice p l[i].chs.length cp) ∧ w.cell? ⟨b, off + i * 3 + 2, none⟩ = some (.slice q l[i].dfs.length cq)) ∧ InCh w p l[i].chs ∧ InDf w q l[i].dfs
theorem InCs.step {w w' : World} {a : Option Addr} {l : List Col} (h : InCs w a l) (hb : Below w.heap.size w w') : InCs w' a l := by
  rcases h with h | ⟨b, off, ha, hlt, hc⟩
  · exact .inl h
  · exact .inr ⟨b, off, ha, Nat.lt_of_lt_of_le hlt hb.size, fun i hi => by
      obtain ⟨p, cp, q, cq, ⟨x0, x1, x2⟩, y, z⟩ := hc i hi
      exact ⟨p, cp, q, cq, ⟨(hb.cell hlt).trans x0, (hb.cell hlt).trans x1, (hb.cell hlt).trans x2⟩, y.step hb, z.step hb⟩⟩
/-- A row of them made anew. -/
structure MadeCs (w : World) (base g : Nat) (l : List Col) : Prop where
  ge : base ≤ g
  lt : g < w.heap.size
  cells : ∀ i (h : i < l.length), ∃ gr gc, (w.cell? ⟨g, i * 3, none⟩ = some (.string l[i].name) ∧ w.cell? ⟨g, i * 3 + 1, none⟩ = some (.slice (some ⟨gr, 0, none⟩) l[i].chs.length l[i].chs.length) ∧ w.cell? ⟨g, i * 3 + 2, none⟩ = some (.slice (some ⟨gc, 0, none⟩) l[i].dfs.length l[i].dfs.length)) ∧ MadeChs w base gr l[i].chs ∧ MadeDfs w base gc l[i].dfs ∧ True
theorem MadeCs.next {w w' : World} {base g : Nat} {l : List Col} (h : MadeCs w base g l) (hb : Below w.heap.size w w') : MadeCs w' base g l :=
  ⟨h.ge, Nat.lt_of_lt_of_le h.lt hb.size, fun i hi => by
    obtain ⟨gr, gc, ⟨x0, x1, x2⟩, y, z, u⟩ := h.cells i hi
    exact ⟨gr, gc, ⟨(hb.cell h.lt).trans x0, (hb.cell h.lt).trans x1, (hb.cell h.lt).trans x2⟩, y.next hb, z.next hb, u⟩⟩
theorem MadeCs.mono {w : World} {base base' g : Nat} {l : List Col} (h : MadeCs w base g l) (hb : base' ≤ base) : MadeCs w base' g l :=
  ⟨Nat.le_trans hb h.ge, h.lt, fun i hi => by
    obtain ⟨gr, gc, x, y, z, u⟩ := h.cells i hi
    exact ⟨gr, gc, x, y.mono hb, z.mono hb, u⟩⟩
def szCs (x : Col) : Prop := SzCol x
def maxCs (x : Col) : Prop := MaxCol x
theorem take_allCs (p : Col → Prop) (l : List Col) (k : Nat) (h : k < l.length) (h1 : ∀ v ∈ l.take k, p v) (h2 : p l[k]) : ∀ v ∈ l.take (k + 1), p v := by
  intro v hv
  rw [List.take_succ_eq_append_getElem h] at hv
  rcases List.mem_append.1 hv with hv | hv
  · exact h1 v hv
  · simp at hv; subst hv; exact h2
/-- Which of them stand already at their places. -/
def partCs (w : World) (base : Nat) (xs : List Value) (l : List Col) (k : Nat) : Prop := ∀ i (h : i < l.length), i < k → ∃ gr gc, (xs[i * 3]? = some (.string l[i].name) ∧ xs[i * 3 + 1]? = some (.slice (some ⟨gr, 0, none⟩) l[i].chs.length l[i].chs.length) ∧ xs[i * 3 + 2]? = some (.slice (some ⟨gc, 0, none⟩) l[i].dfs.length l[i].dfs.length)) ∧ MadeChs w (base + 1) gr l[i].chs ∧ MadeDfs w (base + 1) gc l[i].dfs ∧ True
theorem keepCs {w w0 : World} {g1 g2 k ga gb ha hb_ : Nat} {x : Col} (h1 : g1 < w.heap.size) (h2 : g2 < w.heap.size) (t0 : w.cell? ⟨g1, k * 3, none⟩ = some (.string x.name)) (t1 : w.cell? ⟨g1, k * 3 + 1, none⟩ = some (.slice (some ⟨ga, 0, none⟩) x.chs.length x.chs.length)) (t2 : w.cell? ⟨g1, k * 3 + 2, none⟩ = some (.slice (some ⟨ha, 0, none⟩) x.dfs.length x.dfs.length)) (t3 : w.cell? ⟨g2, k * 3, none⟩ = some (.string x.name)) (t4 : w.cell? ⟨g2, k * 3 + 1, none⟩ = some (.slice (some ⟨gb, 0, none⟩) x.chs.length x.chs.length)) (t5 : w.cell? ⟨g2, k * 3 + 2, none⟩ = some (.slice (some ⟨hb_, 0, none⟩) x.dfs.length x.dfs.length)) (hb : Below w.heap.size w w0) : w0.cell? ⟨g1, k * 3, none⟩ = some (.string x.name) ∧ w0.cell? ⟨g1, k * 3 + 1, none⟩ = some (.slice (some ⟨ga, 0, none⟩) x.chs.length x.chs.length) ∧ w0.cell? ⟨g1, k * 3 + 2, none⟩ = some (.slice (some ⟨ha, 0, none⟩) x.dfs.length x.dfs.length) ∧ w0.cell? ⟨g2, k * 3, none⟩ = some (.string x.name) ∧ w0.cell? ⟨g2, k * 3 + 1, none⟩ = some (.slice (some ⟨gb, 0, none⟩) x.chs.length x.chs.length) ∧ w0.cell? ⟨g2, k * 3 + 2, none⟩ = some (.slice (some ⟨hb_, 0, none⟩) x.dfs.length x.dfs.length) :=
  ⟨(hb.cell h1).trans t0, (hb.cell h1).trans t1, (hb.cell h1).trans t2, (hb.cell h2).trans t3, (hb.cell h2).trans t4, (hb.cell h2).trans t5⟩
set_option maxRecDepth 4000 in
set_option maxHeartbeats 4000000 in
theorem eqCollS_same (g1 g2 c1 c2 b1 b2 : Nat) (l : List Col) (w : World) (h1 : MadeCs w b1 g1 l) (h2 : MadeCs w b2 g2 l) (hlen : l.length ≤ 1048576) (hs : ∀ v ∈ l, szCs v) :
    Calls Tryz.prog 43 #[.slice (some ⟨g1, 0, none⟩) l.length c1, .slice (some ⟨g2, 0, none⟩) l.length c2] w fun e w' => e = .returned (.bool true) ∧ Below w.heap.size w w' := by
  have H1 : Hid (MadeCs _ _ _ _) := h1
  have H2 : Hid (MadeCs _ _ _ _) := h2
  have HS : Hid (∀ v ∈ l, szCs v) := hs
  clear h1 h2 hs
  go_enter Tryz.func43, Tryz.ntmps43
  go_wp2_with fail
  go_loopw [5] (fun i wr => ∃ k : Nat, k ≤ l.length ∧ i = .int .i64 k ∧ Below w.heap.size w wr) (fun i _ => l.length - (intOf i).toNat)
  case atStart => exact ⟨0, Nat.zero_le _, rfl, Below.refl _ _⟩
  case round =>
    obtain ⟨k, hk, rfl, hbel⟩ := hrel
    by_cases hlt : k < l.length
    · have hlt2 : (k : Int) < (l.length : Int) := by omega
      have R1 := H1.out.next hbel
      have R2 := H2.out.next hbel
      obtain ⟨ga, ha, ⟨t0, t1, t2⟩, u0, u1, u2⟩ := R1.cells k hlt
      obtain ⟨gb, hb_, ⟨t3, t4, t5⟩, v0, v1, v2⟩ := R2.cells k hlt
      have hg1 := R1.lt
      have hg2 := R2.lt
      have hsk := HS.out l[k] (List.getElem_mem _)
      obtain ⟨x, hx⟩ : ∃ x, x = l[k] := ⟨_, rfl⟩
      rw [← hx] at t0 t1 t2 t3 t4 t5 u0 u1 v0 v1 hsk
      have HC : Hid (∀ W : World, Below wr.heap.size wr W → Calls Tryz.prog 79 #[.agg #[.string x.name, .slice (some ⟨ga, 0, none⟩) x.chs.length x.chs.length, .slice (some ⟨ha, 0, none⟩) x.dfs.length x.dfs.length], .agg #[.string x.name, .slice (some ⟨gb, 0, none⟩) x.chs.length x.chs.length, .slice (some ⟨hb_, 0, none⟩) x.dfs.length x.dfs.length]] W fun e w' => e = .returned (.bool true) ∧ Below W.heap.size W w') := fun W hW => eqColl_same x.name (some ⟨ga, 0, none⟩) (some ⟨gb, 0, none⟩) (some ⟨ha, 0, none⟩) (some ⟨hb_, 0, none⟩) x.chs.length x.chs.length x.dfs.length x.dfs.length x.chs x.dfs W (u0.next hW).row (v0.next hW).row (u1.next hW).row (v1.next hW).row hsk.chl hsk.vs hsk.dfl hsk.ps
      clear hx hsk
      clear R1 R2 u0 u1 u2 v0 v1 v2
      go_wp2_with fail
      go_region_held3 (fun w0 => w0.cell? ⟨g1, k * 3, none⟩ = some (.string x.name) ∧ w0.cell? ⟨g1, k * 3 + 1, none⟩ = some (.slice (some ⟨ga, 0, none⟩) x.chs.length x.chs.length) ∧ w0.cell? ⟨g1, k * 3 + 2, none⟩ = some (.slice (some ⟨ha, 0, none⟩) x.dfs.length x.dfs.length) ∧ w0.cell? ⟨g2, k * 3, none⟩ = some (.string x.name) ∧ w0.cell? ⟨g2, k * 3 + 1, none⟩ = some (.slice (some ⟨gb, 0, none⟩) x.chs.length x.chs.length) ∧ w0.cell? ⟨g2, k * 3 + 2, none⟩ = some (.slice (some ⟨hb_, 0, none⟩) x.dfs.length x.dfs.length)) ((refine keepCs hg1 hg2 t0 t1 t2 t3 t4 t5 ?_; (repeat (first | (with_reducible exact Below.refl _ _) | (with_reducible assumption) | (with_reducible apply below_drewN) | (with_reducible apply Below.drew) | ((with_reducible refine Below.setCell ?_ ?_ _); rotate_left; focus (first | (simp; done) | (simp; omega) | omega)) | ((with_reducible refine Below.alloc ?_ ?_ _); rotate_left; focus (first | (simp; done) | (simp; omega) | omega)))))) ((go_at_call 79; refine (HC.out _ (by (repeat (first | (with_reducible exact Below.refl _ _) | (with_reducible assumption) | (with_reducible apply below_drewN) | (with_reducible apply Below.drew) | ((with_reducible refine Below.setCell ?_ ?_ _); rotate_left; focus (first | (simp; done) | (simp; omega) | omega)) | ((with_reducible refine Below.alloc ?_ ?_ _); rotate_left; focus (first | (simp; done) | (simp; omega) | omega)))))).mono ?_; rintro e w2 ⟨rfl, hb⟩; have hB2 : Below wr.heap.size wr w2 := (show Below wr.heap.size wr _ by (repeat (first | (with_reducible exact Below.refl _ _) | (with_reducible assumption) | (with_reducible apply below_drewN) | (with_reducible apply Below.drew) | ((with_reducible refine Below.setCell ?_ ?_ _); rotate_left; focus (first | (simp; done) | (simp; omega) | omega)) | ((with_reducible refine Below.alloc ?_ ?_ _); rotate_left; focus (first | (simp; done) | (simp; omega) | omega))))).trans (hb.mono (by simp)); clear hb))
      all_goals
        have hb2 := hbel.trans (hB2.mono hbel.size)
        go_wp2_with fail
        go_roundw
        case rel => exact ⟨k + 1, by omega, by go_num, hb2⟩
        case measure => simp [intOf]; omega
    · have hlt2 : ¬ (k : Int) < (l.length : Int) := by omega
      go_wp2_with fail
      go_ret
      exact ⟨rfl, hbel⟩

end Go.Proofs.YtpfbepbmiillbaaGreatDoor.Tx
