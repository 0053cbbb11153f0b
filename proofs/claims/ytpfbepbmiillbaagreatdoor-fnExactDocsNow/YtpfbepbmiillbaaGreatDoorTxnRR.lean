/- Rows of transactions: what the laws' own helpers on them answer. -/
import Derived.Test.YtpfbepbmiillbaaGreatDoorTxnLR
import Derived.Deep.RegionHeld3
namespace Go.Proofs.YtpfbepbmiillbaaGreatDoor.Tx
open Go.RowKit Go.ChangeShapes Go.WideShapes Go.ChangeAt Go.Joins Tr Co Rea Ce
set_option linter.unusedVariables false

/-- A transaction. -/
structure Tn where
  sn : Int
  sp : Int
  rs : List Rdg
  cs : List Wrt
theorem infoTn : (Tryz.prog.info? 75).map (fun i => (i.zero, i.size, i.bytes)) = some (some (.agg #[.int .i64 0, .int .i64 0, .slice none 0 0, .slice none 0 0]), 4, 64) := by kernel_rfl
/-- Those that came in. -/
def InTn (w : World) (a : Option Addr) (l : List Tn) : Prop := l.length = 0 ∨ ∃ b off, a = some ⟨b, off, none⟩ ∧ b < w.heap.size ∧ ∀ i (h : i < l.length), ∃ p cp q cq, (w.cell? ⟨b, off + i * 4, none⟩ = some (.int .i64 l[i].sn) ∧ w.cell? ⟨b, off + i * 4 + 1, none⟩ = some (.int .i64 l[i].sp) ∧ w.cell? ⟨b, off + i * 4 + 2, none⟩ = some (.slice p l[i].rs.length cp) ∧ w.cell? ⟨b, off + i * 4 + 3, none⟩ = some (.slice q l[i].cs.length cq)) ∧ InRd w p l[i].rs ∧ InWs w q l[i].cs
theorem InTn.step {w w' : World} {a : Option Addr} {l : List Tn} (h : InTn w a l) (hb : Below w.heap.size w w') : InTn w' a l := by
  rcases h with h | ⟨b, off, ha, hlt, hc⟩
  · exact .inl h
  · exact .inr ⟨b, off, ha, Nat.lt_of_lt_of_le hlt hb.size, fun i hi => by
      obtain ⟨p, cp, q, cq, ⟨x0, x1, x2, x3⟩, y, z⟩ := hc i hi
      exact ⟨p, cp, q, cq, ⟨(hb.cell hlt).trans x0, (hb.cell hlt).trans x1, (hb.cell hlt).trans x2, (hb.cell hlt).trans x3⟩, y.step hb, z.step hb⟩⟩
/-- A row of them made anew. -/
structure MadeTn (w : World) (base g : Nat) (l : List Tn) : Prop where
  ge : base ≤ g
  lt : g < w.heap.size
  cells : ∀ i (h : i < l.length), ∃ gr gc, (w.cell? ⟨g, i * 4, none⟩ = some (.int .i64 l[i].sn) ∧ w.cell? ⟨g, i * 4 + 1, none⟩ = some (.int .i64 l[i].sp) ∧ w.cell? ⟨g, i * 4 + 2, none⟩ = some (.slice (some ⟨gr, 0, none⟩) l[i].rs.length l[i].rs.length) ∧ w.cell? ⟨g, i * 4 + 3, none⟩ = some (.slice (some ⟨gc, 0, none⟩) l[i].cs.length l[i].cs.length)) ∧ MadeRd w base gr l[i].rs ∧ ReadWs w gc l[i].cs ∧ base ≤ gc
theorem MadeTn.next {w w' : World} {base g : Nat} {l : List Tn} (h : MadeTn w base g l) (hb : Below w.heap.size w w') : MadeTn w' base g l :=
  ⟨h.ge, Nat.lt_of_lt_of_le h.lt hb.size, fun i hi => by
    obtain ⟨gr, gc, ⟨x0, x1, x2, x3⟩, y, z, u⟩ := h.cells i hi
    exact ⟨gr, gc, ⟨(hb.cell h.lt).trans x0, (hb.cell h.lt).trans x1, (hb.cell h.lt).trans x2, (hb.cell h.lt).trans x3⟩, y.next hb, z.next hb, u⟩⟩
theorem MadeTn.mono {w : World} {base base' g : Nat} {l : List Tn} (h : MadeTn w base g l) (hb : base' ≤ base) : MadeTn w base' g l :=
  ⟨Nat.le_trans hb h.ge, h.lt, fun i hi => by
    obtain ⟨gr, gc, x, y, z, u⟩ := h.cells i hi
    exact ⟨gr, gc, x, y.mono hb, z, Nat.le_trans hb u⟩⟩
def szTn (x : Tn) : Prop := SzTn x.rs x.cs
def maxTn (x : Tn) : Prop := MaxTn x.rs x.cs
theorem take_allTn (p : Tn → Prop) (l : List Tn) (k : Nat) (h : k < l.length) (h1 : ∀ v ∈ l.take k, p v) (h2 : p l[k]) : ∀ v ∈ l.take (k + 1), p v := by
  intro v hv
  rw [List.take_succ_eq_append_getElem h] at hv
  rcases List.mem_append.1 hv with hv | hv
  · exact h1 v hv
  · simp at hv; subst hv; exact h2
/-- Which of them stand already at their places. -/
def partTn (w : World) (base : Nat) (xs : List Value) (l : List Tn) (k : Nat) : Prop := ∀ i (h : i < l.length), i < k → ∃ gr gc, (xs[i * 4]? = some (.int .i64 l[i].sn) ∧ xs[i * 4 + 1]? = some (.int .i64 l[i].sp) ∧ xs[i * 4 + 2]? = some (.slice (some ⟨gr, 0, none⟩) l[i].rs.length l[i].rs.length) ∧ xs[i * 4 + 3]? = some (.slice (some ⟨gc, 0, none⟩) l[i].cs.length l[i].cs.length)) ∧ MadeRd w (base + 1) gr l[i].rs ∧ ReadWs w gc l[i].cs ∧ base + 1 ≤ gc
theorem keepTs {w w0 : World} {g1 g2 k ga gb ha hb_ : Nat} {x : Tn} (h1 : g1 < w.heap.size) (h2 : g2 < w.heap.size) (t0 : w.cell? ⟨g1, k * 4, none⟩ = some (.int .i64 x.sn)) (t1 : w.cell? ⟨g1, k * 4 + 1, none⟩ = some (.int .i64 x.sp)) (t2 : w.cell? ⟨g1, k * 4 + 2, none⟩ = some (.slice (some ⟨ga, 0, none⟩) x.rs.length x.rs.length)) (t3 : w.cell? ⟨g1, k * 4 + 3, none⟩ = some (.slice (some ⟨ha, 0, none⟩) x.cs.length x.cs.length)) (t4 : w.cell? ⟨g2, k * 4, none⟩ = some (.int .i64 x.sn)) (t5 : w.cell? ⟨g2, k * 4 + 1, none⟩ = some (.int .i64 x.sp)) (t6 : w.cell? ⟨g2, k * 4 + 2, none⟩ = some (.slice (some ⟨gb, 0, none⟩) x.rs.length x.rs.length)) (t7 : w.cell? ⟨g2, k * 4 + 3, none⟩ = some (.slice (some ⟨hb_, 0, none⟩) x.cs.length x.cs.length)) (hb : Below w.heap.size w w0) : w0.cell? ⟨g1, k * 4, none⟩ = some (.int .i64 x.sn) ∧ w0.cell? ⟨g1, k * 4 + 1, none⟩ = some (.int .i64 x.sp) ∧ w0.cell? ⟨g1, k * 4 + 2, none⟩ = some (.slice (some ⟨ga, 0, none⟩) x.rs.length x.rs.length) ∧ w0.cell? ⟨g1, k * 4 + 3, none⟩ = some (.slice (some ⟨ha, 0, none⟩) x.cs.length x.cs.length) ∧ w0.cell? ⟨g2, k * 4, none⟩ = some (.int .i64 x.sn) ∧ w0.cell? ⟨g2, k * 4 + 1, none⟩ = some (.int .i64 x.sp) ∧ w0.cell? ⟨g2, k * 4 + 2, none⟩ = some (.slice (some ⟨gb, 0, none⟩) x.rs.length x.rs.length) ∧ w0.cell? ⟨g2, k * 4 + 3, none⟩ = some (.slice (some ⟨hb_, 0, none⟩) x.cs.length x.cs.length) :=
  ⟨(hb.cell h1).trans t0, (hb.cell h1).trans t1, (hb.cell h1).trans t2, (hb.cell h1).trans t3, (hb.cell h2).trans t4, (hb.cell h2).trans t5, (hb.cell h2).trans t6, (hb.cell h2).trans t7⟩
set_option maxRecDepth 4000 in
set_option maxHeartbeats 4000000 in
theorem eqTxnS_same (g1 g2 c1 c2 b1 b2 : Nat) (l : List Tn) (w : World) (h1 : MadeTn w b1 g1 l) (h2 : MadeTn w b2 g2 l) (hlen : l.length ≤ 1048576) (hs : ∀ v ∈ l, szTn v) :
    Calls Tryz.prog 44 #[.slice (some ⟨g1, 0, none⟩) l.length c1, .slice (some ⟨g2, 0, none⟩) l.length c2] w fun e w' => e = .returned (.bool true) ∧ Below w.heap.size w w' := by
  have H1 : Hid (MadeTn _ _ _ _) := h1
  have H2 : Hid (MadeTn _ _ _ _) := h2
  have HS : Hid (∀ v ∈ l, szTn v) := hs
  clear h1 h2 hs
  go_enter Tryz.func44, Tryz.ntmps44
  go_wp2_with fail
  go_loopw [5] (fun i wr => ∃ k : Nat, k ≤ l.length ∧ i = .int .i64 k ∧ Below w.heap.size w wr) (fun i _ => l.length - (intOf i).toNat)
  case atStart => exact ⟨0, Nat.zero_le _, rfl, Below.refl _ _⟩
  case round =>
    obtain ⟨k, hk, rfl, hbel⟩ := hrel
    by_cases hlt : k < l.length
    · have hlt2 : (k : Int) < (l.length : Int) := by omega
      have R1 := H1.out.next hbel
      have R2 := H2.out.next hbel
      obtain ⟨ga, ha, ⟨t0, t1, t2, t3⟩, u0, u1, u2⟩ := R1.cells k hlt
      obtain ⟨gb, hb_, ⟨t4, t5, t6, t7⟩, v0, v1, v2⟩ := R2.cells k hlt
      have hg1 := R1.lt
      have hg2 := R2.lt
      have hsk := HS.out l[k] (List.getElem_mem _)
      obtain ⟨x, hx⟩ : ∃ x, x = l[k] := ⟨_, rfl⟩
      rw [← hx] at t0 t1 t2 t3 t4 t5 t6 t7 u0 u1 v0 v1 hsk
      have HC : Hid (∀ W : World, Below wr.heap.size wr W → Calls Tryz.prog 80 #[.agg #[.int .i64 x.sn, .int .i64 x.sp, .slice (some ⟨ga, 0, none⟩) x.rs.length x.rs.length, .slice (some ⟨ha, 0, none⟩) x.cs.length x.cs.length], .agg #[.int .i64 x.sn, .int .i64 x.sp, .slice (some ⟨gb, 0, none⟩) x.rs.length x.rs.length, .slice (some ⟨hb_, 0, none⟩) x.cs.length x.cs.length]] W fun e w' => e = .returned (.bool true) ∧ Below W.heap.size W w') := fun W hW => eqTxn_same x.sn x.sp ga ha gb hb_ x.rs.length x.cs.length x.rs.length x.cs.length b1 b2 x.rs x.cs W (u0.next hW) (v0.next hW) (u1.next hW).inWs (v1.next hW).inWs hsk
      clear hx hsk
      clear R1 R2 u0 u1 u2 v0 v1 v2
      go_wp2_with fail
      go_region_held3 (fun w0 => w0.cell? ⟨g1, k * 4, none⟩ = some (.int .i64 x.sn) ∧ w0.cell? ⟨g1, k * 4 + 1, none⟩ = some (.int .i64 x.sp) ∧ w0.cell? ⟨g1, k * 4 + 2, none⟩ = some (.slice (some ⟨ga, 0, none⟩) x.rs.length x.rs.length) ∧ w0.cell? ⟨g1, k * 4 + 3, none⟩ = some (.slice (some ⟨ha, 0, none⟩) x.cs.length x.cs.length) ∧ w0.cell? ⟨g2, k * 4, none⟩ = some (.int .i64 x.sn) ∧ w0.cell? ⟨g2, k * 4 + 1, none⟩ = some (.int .i64 x.sp) ∧ w0.cell? ⟨g2, k * 4 + 2, none⟩ = some (.slice (some ⟨gb, 0, none⟩) x.rs.length x.rs.length) ∧ w0.cell? ⟨g2, k * 4 + 3, none⟩ = some (.slice (some ⟨hb_, 0, none⟩) x.cs.length x.cs.length)) ((refine keepTs hg1 hg2 t0 t1 t2 t3 t4 t5 t6 t7 ?_; (repeat (first | (with_reducible exact Below.refl _ _) | (with_reducible assumption) | (with_reducible apply below_drewN) | (with_reducible apply Below.drew) | ((with_reducible refine Below.setCell ?_ ?_ _); rotate_left; focus (first | (simp; done) | (simp; omega) | omega)) | ((with_reducible refine Below.alloc ?_ ?_ _); rotate_left; focus (first | (simp; done) | (simp; omega) | omega)))))) ((go_at_call 80; refine (HC.out _ (by (repeat (first | (with_reducible exact Below.refl _ _) | (with_reducible assumption) | (with_reducible apply below_drewN) | (with_reducible apply Below.drew) | ((with_reducible refine Below.setCell ?_ ?_ _); rotate_left; focus (first | (simp; done) | (simp; omega) | omega)) | ((with_reducible refine Below.alloc ?_ ?_ _); rotate_left; focus (first | (simp; done) | (simp; omega) | omega)))))).mono ?_; rintro e w2 ⟨rfl, hb⟩; have hB2 : Below wr.heap.size wr w2 := (show Below wr.heap.size wr _ by (repeat (first | (with_reducible exact Below.refl _ _) | (with_reducible assumption) | (with_reducible apply below_drewN) | (with_reducible apply Below.drew) | ((with_reducible refine Below.setCell ?_ ?_ _); rotate_left; focus (first | (simp; done) | (simp; omega) | omega)) | ((with_reducible refine Below.alloc ?_ ?_ _); rotate_left; focus (first | (simp; done) | (simp; omega) | omega))))).trans (hb.mono (by simp)); clear hb))
      all_goals
        have hb2 := hbel.trans (hB2.mono hbel.size)
        go_wp2_with fail
        go_roundw
        case rel => exact ⟨k + 1, by omega, by go_num, hb2⟩
        case measure => simp [intOf]; omega
    · have hlt2 : ¬ (k : Int) < (l.length : Int) := by omega
      go_wp2_with fail
      go_ret
      exact ⟨rfl, hbel⟩

end Go.Proofs.YtpfbepbmiillbaaGreatDoor.Tx
