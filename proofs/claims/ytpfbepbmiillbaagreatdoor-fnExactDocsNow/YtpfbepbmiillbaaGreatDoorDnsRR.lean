/- Rows of committed ones: what the laws' own helpers on them answer. -/
import Derived.Test.YtpfbepbmiillbaaGreatDoorTwcIR
import Derived.Test.YtpfbepbmiillbaaGreatDoorFiltMR
namespace Go.Proofs.YtpfbepbmiillbaaGreatDoor.Ce
open Go.RowKit Go.ChangeShapes Go.WideShapes Go.ChangeAt Go.Joins Tr Co Rea
set_option linter.unusedVariables false

/-- A committed one. -/
structure Dn where
  sn : Int
  at_ : Int
  rs : List Rdg
  cs : List Cgr
  di : Bool
  do_ : Bool
theorem infoDn : (Tryz.prog.info? 81).map (fun i => (i.zero, i.size, i.bytes)) = some (some (.agg #[.int .i64 0, .int .i64 0, .slice none 0 0, .slice none 0 0, .bool false, .bool false]), 6, 72) := by kernel_rfl
/-- Those that came in. -/
def InDn (w : World) (a : Option Addr) (l : List Dn) : Prop := l.length = 0 ∨ ∃ b off, a = some ⟨b, off, none⟩ ∧ b < w.heap.size ∧ ∀ i (h : i < l.length), ∃ p cp q cq, (w.cell? ⟨b, off + i * 6, none⟩ = some (.int .i64 l[i].sn) ∧ w.cell? ⟨b, off + i * 6 + 1, none⟩ = some (.int .i64 l[i].at_) ∧ w.cell? ⟨b, off + i * 6 + 2, none⟩ = some (.slice p l[i].rs.length cp) ∧ w.cell? ⟨b, off + i * 6 + 3, none⟩ = some (.slice q l[i].cs.length cq) ∧ w.cell? ⟨b, off + i * 6 + 4, none⟩ = some (.bool l[i].di) ∧ w.cell? ⟨b, off + i * 6 + 5, none⟩ = some (.bool l[i].do_)) ∧ InRd w p l[i].rs ∧ InCg w q l[i].cs
theorem InDn.step {w w' : World} {a : Option Addr} {l : List Dn} (h : InDn w a l) (hb : Below w.heap.size w w') : InDn w' a l := by
  rcases h with h | ⟨b, off, ha, hlt, hc⟩
  · exact .inl h
  · exact .inr ⟨b, off, ha, Nat.lt_of_lt_of_le hlt hb.size, fun i hi => by
      obtain ⟨p, cp, q, cq, ⟨x0, x1, x2, x3, x4, x5⟩, y, z⟩ := hc i hi
      exact ⟨p, cp, q, cq, ⟨(hb.cell hlt).trans x0, (hb.cell hlt).trans x1, (hb.cell hlt).trans x2, (hb.cell hlt).trans x3, (hb.cell hlt).trans x4, (hb.cell hlt).trans x5⟩, y.step hb, z.step hb⟩⟩
/-- A row of them made anew. -/
structure MadeDn (w : World) (base g : Nat) (l : List Dn) : Prop where
  ge : base ≤ g
  lt : g < w.heap.size
  cells : ∀ i (h : i < l.length), ∃ gr gc, (w.cell? ⟨g, i * 6, none⟩ = some (.int .i64 l[i].sn) ∧ w.cell? ⟨g, i * 6 + 1, none⟩ = some (.int .i64 l[i].at_) ∧ w.cell? ⟨g, i * 6 + 2, none⟩ = some (.slice (some ⟨gr, 0, none⟩) l[i].rs.length l[i].rs.length) ∧ w.cell? ⟨g, i * 6 + 3, none⟩ = some (.slice (some ⟨gc, 0, none⟩) l[i].cs.length l[i].cs.length) ∧ w.cell? ⟨g, i * 6 + 4, none⟩ = some (.bool l[i].di) ∧ w.cell? ⟨g, i * 6 + 5, none⟩ = some (.bool l[i].do_)) ∧ MadeRd w base gr l[i].rs ∧ ReadCg w gc l[i].cs ∧ base ≤ gc
theorem MadeDn.next {w w' : World} {base g : Nat} {l : List Dn} (h : MadeDn w base g l) (hb : Below w.heap.size w w') : MadeDn w' base g l :=
  ⟨h.ge, Nat.lt_of_lt_of_le h.lt hb.size, fun i hi => by
    obtain ⟨gr, gc, ⟨x0, x1, x2, x3, x4, x5⟩, y, z, u⟩ := h.cells i hi
    exact ⟨gr, gc, ⟨(hb.cell h.lt).trans x0, (hb.cell h.lt).trans x1, (hb.cell h.lt).trans x2, (hb.cell h.lt).trans x3, (hb.cell h.lt).trans x4, (hb.cell h.lt).trans x5⟩, y.next hb, z.next hb, u⟩⟩
theorem MadeDn.mono {w : World} {base base' g : Nat} {l : List Dn} (h : MadeDn w base g l) (hb : base' ≤ base) : MadeDn w base' g l :=
  ⟨Nat.le_trans hb h.ge, h.lt, fun i hi => by
    obtain ⟨gr, gc, x, y, z, u⟩ := h.cells i hi
    exact ⟨gr, gc, x, y.mono hb, z, Nat.le_trans hb u⟩⟩
def szDn (x : Dn) : Prop := SzDn x.rs x.cs
def maxDn (x : Dn) : Prop := MaxDn x.rs x.cs
theorem take_allDn (p : Dn → Prop) (l : List Dn) (k : Nat) (h : k < l.length) (h1 : ∀ v ∈ l.take k, p v) (h2 : p l[k]) : ∀ v ∈ l.take (k + 1), p v := by
  intro v hv
  rw [List.take_succ_eq_append_getElem h] at hv
  rcases List.mem_append.1 hv with hv | hv
  · exact h1 v hv
  · simp at hv; subst hv; exact h2
/-- Which of them stand already at their places. -/
def partDn (w : World) (base : Nat) (xs : List Value) (l : List Dn) (k : Nat) : Prop := ∀ i (h : i < l.length), i < k → ∃ gr gc, (xs[i * 6]? = some (.int .i64 l[i].sn) ∧ xs[i * 6 + 1]? = some (.int .i64 l[i].at_) ∧ xs[i * 6 + 2]? = some (.slice (some ⟨gr, 0, none⟩) l[i].rs.length l[i].rs.length) ∧ xs[i * 6 + 3]? = some (.slice (some ⟨gc, 0, none⟩) l[i].cs.length l[i].cs.length) ∧ xs[i * 6 + 4]? = some (.bool l[i].di) ∧ xs[i * 6 + 5]? = some (.bool l[i].do_)) ∧ MadeRd w (base + 1) gr l[i].rs ∧ ReadCg w gc l[i].cs ∧ base + 1 ≤ gc
theorem keepDs {w w0 : World} {g1 g2 k ga gb ha hb_ : Nat} {x : Dn} (h1 : g1 < w.heap.size) (h2 : g2 < w.heap.size) (t0 : w.cell? ⟨g1, k * 6, none⟩ = some (.int .i64 x.sn)) (t1 : w.cell? ⟨g1, k * 6 + 1, none⟩ = some (.int .i64 x.at_)) (t2 : w.cell? ⟨g1, k * 6 + 2, none⟩ = some (.slice (some ⟨ga, 0, none⟩) x.rs.length x.rs.length)) (t3 : w.cell? ⟨g1, k * 6 + 3, none⟩ = some (.slice (some ⟨ha, 0, none⟩) x.cs.length x.cs.length)) (t4 : w.cell? ⟨g1, k * 6 + 4, none⟩ = some (.bool x.di)) (t5 : w.cell? ⟨g1, k * 6 + 5, none⟩ = some (.bool x.do_)) (t6 : w.cell? ⟨g2, k * 6, none⟩ = some (.int .i64 x.sn)) (t7 : w.cell? ⟨g2, k * 6 + 1, none⟩ = some (.int .i64 x.at_)) (t8 : w.cell? ⟨g2, k * 6 + 2, none⟩ = some (.slice (some ⟨gb, 0, none⟩) x.rs.length x.rs.length)) (t9 : w.cell? ⟨g2, k * 6 + 3, none⟩ = some (.slice (some ⟨hb_, 0, none⟩) x.cs.length x.cs.length)) (t10 : w.cell? ⟨g2, k * 6 + 4, none⟩ = some (.bool x.di)) (t11 : w.cell? ⟨g2, k * 6 + 5, none⟩ = some (.bool x.do_)) (hb : Below w.heap.size w w0) : w0.cell? ⟨g1, k * 6, none⟩ = some (.int .i64 x.sn) ∧ w0.cell? ⟨g1, k * 6 + 1, none⟩ = some (.int .i64 x.at_) ∧ w0.cell? ⟨g1, k * 6 + 2, none⟩ = some (.slice (some ⟨ga, 0, none⟩) x.rs.length x.rs.length) ∧ w0.cell? ⟨g1, k * 6 + 3, none⟩ = some (.slice (some ⟨ha, 0, none⟩) x.cs.length x.cs.length) ∧ w0.cell? ⟨g1, k * 6 + 4, none⟩ = some (.bool x.di) ∧ w0.cell? ⟨g1, k * 6 + 5, none⟩ = some (.bool x.do_) ∧ w0.cell? ⟨g2, k * 6, none⟩ = some (.int .i64 x.sn) ∧ w0.cell? ⟨g2, k * 6 + 1, none⟩ = some (.int .i64 x.at_) ∧ w0.cell? ⟨g2, k * 6 + 2, none⟩ = some (.slice (some ⟨gb, 0, none⟩) x.rs.length x.rs.length) ∧ w0.cell? ⟨g2, k * 6 + 3, none⟩ = some (.slice (some ⟨hb_, 0, none⟩) x.cs.length x.cs.length) ∧ w0.cell? ⟨g2, k * 6 + 4, none⟩ = some (.bool x.di) ∧ w0.cell? ⟨g2, k * 6 + 5, none⟩ = some (.bool x.do_) :=
  ⟨(hb.cell h1).trans t0, (hb.cell h1).trans t1, (hb.cell h1).trans t2, (hb.cell h1).trans t3, (hb.cell h1).trans t4, (hb.cell h1).trans t5, (hb.cell h2).trans t6, (hb.cell h2).trans t7, (hb.cell h2).trans t8, (hb.cell h2).trans t9, (hb.cell h2).trans t10, (hb.cell h2).trans t11⟩
set_option maxRecDepth 4000 in
set_option maxHeartbeats 4000000 in
theorem eqDoneS_same (g1 g2 c1 c2 b1 b2 : Nat) (l : List Dn) (w : World) (h1 : MadeDn w b1 g1 l) (h2 : MadeDn w b2 g2 l) (hlen : l.length ≤ 1048576) (hs : ∀ v ∈ l, szDn v) :
    Calls Tryz.prog 45 #[.slice (some ⟨g1, 0, none⟩) l.length c1, .slice (some ⟨g2, 0, none⟩) l.length c2] w fun e w' => e = .returned (.bool true) ∧ Below w.heap.size w w' := by
  have H1 : Hid (MadeDn _ _ _ _) := h1
  have H2 : Hid (MadeDn _ _ _ _) := h2
  have HS : Hid (∀ v ∈ l, szDn v) := hs
  clear h1 h2 hs
  go_enter Tryz.func45, Tryz.ntmps45
  go_wp2_with fail
  go_loopw [5] (fun i wr => ∃ k : Nat, k ≤ l.length ∧ i = .int .i64 k ∧ Below w.heap.size w wr) (fun i _ => l.length - (intOf i).toNat)
  case atStart => exact ⟨0, Nat.zero_le _, rfl, Below.refl _ _⟩
  case round =>
    obtain ⟨k, hk, rfl, hbel⟩ := hrel
    by_cases hlt : k < l.length
    · have hlt2 : (k : Int) < (l.length : Int) := by omega
      have R1 := H1.out.next hbel
      have R2 := H2.out.next hbel
      obtain ⟨ga, ha, ⟨t0, t1, t2, t3, t4, t5⟩, u0, u1, u2⟩ := R1.cells k hlt
      obtain ⟨gb, hb_, ⟨t6, t7, t8, t9, t10, t11⟩, v0, v1, v2⟩ := R2.cells k hlt
      have hg1 := R1.lt
      have hg2 := R2.lt
      have hsk := HS.out l[k] (List.getElem_mem _)
      obtain ⟨x, hx⟩ : ∃ x, x = l[k] := ⟨_, rfl⟩
      rw [← hx] at t0 t1 t2 t3 t4 t5 t6 t7 t8 t9 t10 t11 u0 u1 v0 v1 hsk
      have HC : Hid (∀ W : World, Below wr.heap.size wr W → Calls Tryz.prog 81 #[.agg #[.int .i64 x.sn, .int .i64 x.at_, .slice (some ⟨ga, 0, none⟩) x.rs.length x.rs.length, .slice (some ⟨ha, 0, none⟩) x.cs.length x.cs.length, .bool x.di, .bool x.do_], .agg #[.int .i64 x.sn, .int .i64 x.at_, .slice (some ⟨gb, 0, none⟩) x.rs.length x.rs.length, .slice (some ⟨hb_, 0, none⟩) x.cs.length x.cs.length, .bool x.di, .bool x.do_]] W fun e w' => e = .returned (.bool true) ∧ Below W.heap.size W w') := fun W hW => eqDone_same x.sn x.at_ ga ha gb hb_ x.rs.length x.cs.length x.rs.length x.cs.length b1 b2 x.di x.do_ x.rs x.cs W (u0.next hW) (v0.next hW) (u1.next hW).inCg (v1.next hW).inCg hsk
      clear hx hsk
      clear R1 R2 u0 u1 u2 v0 v1 v2
      go_wp2_with fail
      go_region_held3 (fun w0 => w0.cell? ⟨g1, k * 6, none⟩ = some (.int .i64 x.sn) ∧ w0.cell? ⟨g1, k * 6 + 1, none⟩ = some (.int .i64 x.at_) ∧ w0.cell? ⟨g1, k * 6 + 2, none⟩ = some (.slice (some ⟨ga, 0, none⟩) x.rs.length x.rs.length) ∧ w0.cell? ⟨g1, k * 6 + 3, none⟩ = some (.slice (some ⟨ha, 0, none⟩) x.cs.length x.cs.length) ∧ w0.cell? ⟨g1, k * 6 + 4, none⟩ = some (.bool x.di) ∧ w0.cell? ⟨g1, k * 6 + 5, none⟩ = some (.bool x.do_) ∧ w0.cell? ⟨g2, k * 6, none⟩ = some (.int .i64 x.sn) ∧ w0.cell? ⟨g2, k * 6 + 1, none⟩ = some (.int .i64 x.at_) ∧ w0.cell? ⟨g2, k * 6 + 2, none⟩ = some (.slice (some ⟨gb, 0, none⟩) x.rs.length x.rs.length) ∧ w0.cell? ⟨g2, k * 6 + 3, none⟩ = some (.slice (some ⟨hb_, 0, none⟩) x.cs.length x.cs.length) ∧ w0.cell? ⟨g2, k * 6 + 4, none⟩ = some (.bool x.di) ∧ w0.cell? ⟨g2, k * 6 + 5, none⟩ = some (.bool x.do_)) ((refine keepDs hg1 hg2 t0 t1 t2 t3 t4 t5 t6 t7 t8 t9 t10 t11 ?_; (repeat (first | (with_reducible exact Below.refl _ _) | (with_reducible assumption) | (with_reducible apply below_drewN) | (with_reducible apply Below.drew) | ((with_reducible refine Below.setCell ?_ ?_ _); rotate_left; focus (first | (simp; done) | (simp; omega) | omega)) | ((with_reducible refine Below.alloc ?_ ?_ _); rotate_left; focus (first | (simp; done) | (simp; omega) | omega)))))) ((go_at_call 81; refine (HC.out _ (by (repeat (first | (with_reducible exact Below.refl _ _) | (with_reducible assumption) | (with_reducible apply below_drewN) | (with_reducible apply Below.drew) | ((with_reducible refine Below.setCell ?_ ?_ _); rotate_left; focus (first | (simp; done) | (simp; omega) | omega)) | ((with_reducible refine Below.alloc ?_ ?_ _); rotate_left; focus (first | (simp; done) | (simp; omega) | omega)))))).mono ?_; rintro e w2 ⟨rfl, hb⟩; have hB2 : Below wr.heap.size wr w2 := (show Below wr.heap.size wr _ by (repeat (first | (with_reducible exact Below.refl _ _) | (with_reducible assumption) | (with_reducible apply below_drewN) | (with_reducible apply Below.drew) | ((with_reducible refine Below.setCell ?_ ?_ _); rotate_left; focus (first | (simp; done) | (simp; omega) | omega)) | ((with_reducible refine Below.alloc ?_ ?_ _); rotate_left; focus (first | (simp; done) | (simp; omega) | omega))))).trans (hb.mono (by simp)); clear hb))
      all_goals
        have hb2 := hbel.trans (hB2.mono hbel.size)
        go_wp2_with fail
        go_roundw
        case rel => exact ⟨k + 1, by omega, by go_num, hb2⟩
        case measure => simp [intOf]; omega
    · have hlt2 : ¬ (k : Int) < (l.length : Int) := by omega
      go_wp2_with fail
      go_ret
      exact ⟨rfl, hbel⟩

end Go.Proofs.YtpfbepbmiillbaaGreatDoor.Ce
