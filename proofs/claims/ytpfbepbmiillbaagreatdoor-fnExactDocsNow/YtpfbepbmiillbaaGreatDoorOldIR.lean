/- The oldest snapshot of a store: both answers, and the law's own walk. -/
import Derived.Test.YtpfbepbmiillbaaGreatDoorDnsOR
import Derived.Test.YtpfbepbmiillbaaGreatDoorColNR
import Derived.Deep.RegionHeld3
import Derived.Test.YtpfbepbmiillbaaGreatDoorSzNR
import Derived.Test.YtpfbepbmiillbaaGreatDoorRows
import Derived.Test.YtpfbepbmiillbaaGreatDoorTie
import Derived.Test.YtpfbepbmiillbaaGreatDoorCards
import Derived.LaidMore
import Derived.Lay
import Derived.Stop.Joined
import Derived.SevenTiedAt
import Derived.ProofKit
import Derived.OpenShut
import Derived.ShutString
import Derived.ChangeOld
import Derived.Below
import Derived.Lib.SmallJoins
namespace Go.Proofs.YtpfbepbmiillbaaGreatDoor.Tx
open Go.RowKit Tr Co Rea Ce
set_option linter.unusedVariables false

end Go.Proofs.YtpfbepbmiillbaaGreatDoor.Tx
namespace Go.Proofs.YtpfbepbmiillbaaGreatDoor.OldSnapf
open Go.RowKit Tr Co Rea Ce Tx
set_option linter.unusedVariables false

end Go.Proofs.YtpfbepbmiillbaaGreatDoor.OldSnapf

/- Whether two stores have the same documents: both sides. -/
namespace Go.Proofs.YtpfbepbmiillbaaGreatDoor.Tx
open Go.RowKit Tr Co Rea Ce
set_option linter.unusedVariables false

theorem own_row {w : World} {base : Nat} {v : Value} {L : List Val} (h : w.ownsRow base 68 3 v L.length (flat L)) : ∃ p cap, v = .slice p L.length cap ∧ RowV w p L := by
  rcases h.2 with ⟨e, h0⟩ | ⟨g, cap, cur, e, _⟩
  · exact ⟨none, 0, by rw [e, h0], .inl (List.eq_nil_of_length_eq_zero h0)⟩
  · exact ⟨some ⟨g, 0, none⟩, cap, e, .inr ⟨g, rfl, ReadV.of_own (by rw [← e]; exact h)⟩⟩
theorem seenG_len (V : Chn → Ver) (l : List Chn) : (seenG V l).length ≤ l.length := by
  unfold seenG
  induction l with
  | nil => exact Nat.le_refl _
  | cons x l ih =>
    rw [List.flatMap_cons, List.length_append, List.length_cons]
    have : (if (V x).gone then [] else [(V x).doc] : List Val).length ≤ 1 := by split <;> simp
    omega
theorem seenR_len (c : Col) (k : Int) : (seenR c k).1.length ≤ c.chs.length := by
  cases h : collB c
  · rw [seenR_bad c k h]; exact Nat.zero_le _
  · rw [seenR_ok c k h]; exact seenG_len _ _
theorem seenG_ext (V U : Chn → Ver) (l : List Chn) (h : ∀ x ∈ l, V x = U x) : seenG V l = seenG U l := by
  unfold seenG
  induction l with
  | nil => rfl
  | cons x l ih =>
    rw [List.flatMap_cons, List.flatMap_cons, h x (by simp), ih (fun y hy => h y (by simp [hy]))]
theorem seen_at (c : Col) (k : Int) (h : collB c = true) : seenG (fun x => atS k zG x.vs) c.chs = (seenR c k).1 := by
  rw [seenR_ok c k h]
  refine seenG_ext _ _ _ fun x hx => ?_
  have h1 := h
  unfold collB at h1
  simp only [Bool.and_eq_true] at h1
  have h2 := chsB_mem c.chs (-1) h1.2.2 x hx
  unfold chnB at h2
  simp only [Bool.and_eq_true, decide_eq_true_eq] at h2
  exact atS_trk x.id k x.vs 0 zG h2.2
theorem stoB_cols (s : Sto) (h : stoB s = true) : colsB s.cs = true := by
  unfold stoB at h
  simp only [Bool.and_eq_true] at h
  exact h.2.2.2.1.2

end Go.Proofs.YtpfbepbmiillbaaGreatDoor.Tx

/- The documents of a collection now: both answers. -/
namespace Go.Proofs.YtpfbepbmiillbaaGreatDoor.Tx
open Go.RowKit Tr Co Rea Ce
set_option linter.unusedVariables false

/-- The documents of a name, and a code. -/
def dnR (s : Sto) (n : ByteArray) : List Val × Int := if 65536 < n.size then ([], 2) else if stoB s = true then (match s.cs.find? (namedC n) with | some c => ((seenR c s.clk).1, 0) | none => ([], 11)) else ([], 1)
theorem find_none {P : Col → Bool} {l : List Col} (h : ∀ u ∈ l, P u = false) : l.find? P = none := by
  rw [List.find?_eq_none]; intro x hx; rw [h x hx]; simp
theorem find_at {P : Col → Bool} : ∀ (l : List Col) (k : Nat) (h : k < l.length), P l[k] = true → (∀ u ∈ l.take k, P u = false) → l.find? P = some l[k]
  | [], k, h, _, _ => by simp at h
  | x :: l, 0, h, p, _ => by
    have p' : P x = true := p
    simp [p']
  | x :: l, k + 1, h, p, f => by
    have hx : P x = false := f x (by simp [List.take_succ_cons])
    rw [List.find?_cons, hx]
    exact find_at l k (by simpa using h) (by simpa using p) (fun u hu => f u (by rw [List.take_succ_cons]; exact List.mem_cons_of_mem _ hu))
theorem ov_nil (w : World) (base : Nat) : OV w base (.slice none 0 0) [] := ⟨rfl, .inl ⟨rfl, rfl⟩⟩
theorem ov_made (w : World) (base : Nat) (h : base ≤ w.heap.size) : OV (w.alloc (.cells #[] 68)) base (.slice (some ⟨w.heap.size, 0, none⟩) 0 0) [] :=
  World.ownsRow_made (size := 3) (e := 68) w #[] 0 h (by unfold maxLen; omega) rfl
theorem ov_lower {w : World} {base base' : Nat} {v : Value} {l : List Val} (h : OV w base v l) (hb : base' ≤ base) : OV w base' v l := by
  obtain ⟨h1, h2⟩ := h
  refine ⟨h1, ?_⟩
  rcases h2 with h2 | ⟨g, cap, cur, hv, hg, r⟩
  · exact .inl h2
  · exact .inr ⟨g, cap, cur, hv, Nat.le_trans hb hg, r⟩
theorem keepDc {w W w0 : World} {a0 a1 a2 a3 x0 x1 x2 : Value} {p k : Nat} (X : BxTn w W a0 a1 a2 a3) (lp : p < W.heap.size) (h0 : W.cell? ⟨p, k * 3, none⟩ = some x0) (h1 : W.cell? ⟨p, k * 3 + 1, none⟩ = some x1) (h2 : W.cell? ⟨p, k * 3 + 2, none⟩ = some x2) (hb : Below W.heap.size W w0) :
    w0.cell? ⟨w.heap.size, 0, none⟩ = some a0 ∧ w0.cell? ⟨w.heap.size, 1, none⟩ = some a1 ∧ w0.cell? ⟨w.heap.size, 2, none⟩ = some a2 ∧ w0.cell? ⟨w.heap.size, 3, none⟩ = some a3 ∧ w0.cell? ⟨p, k * 3, none⟩ = some x0 ∧ w0.cell? ⟨p, k * 3 + 1, none⟩ = some x1 ∧ w0.cell? ⟨p, k * 3 + 2, none⟩ = some x2 :=
  have Y := X.step hb
  ⟨Y.c0, Y.c1, Y.c2, Y.c3, (hb.cell lp).trans h0, (hb.cell lp).trans h1, (hb.cell lp).trans h2⟩
/-- Both sides' answer. -/
def DnA (s : Sto) (n : ByteArray) (w : World) (e : Ending) (w' : World) : Prop := (∃ v, e = .returned (.tuple #[v, .int .i64 (dnR s n).2]) ∧ OV w' w.heap.size v (dnR s n).1) ∧ Below w.heap.size w w'

set_option maxRecDepth 8000 in
set_option maxHeartbeats 4000000 in
theorem specDocs_any (bs gc gt gd cc ct cd : Nat) (s : Sto) (n : ByteArray) (w : World) (hm : MadeSto w bs gc gt gd s) (hz : SzSto s) (hn : n.size ≤ 1048576) :
    Calls Tryz.prog 21 #[.agg #[.slice (some ⟨gc, 0, none⟩) s.cs.length cc, .slice (some ⟨gt, 0, none⟩) s.ts.length ct, .slice (some ⟨gd, 0, none⟩) s.ds.length cd, .int .i64 s.clk], .string n] w fun e w' => DnA s n w e w' := by
  have X0 := BxTn.start w (.slice (some ⟨gc, 0, none⟩) s.cs.length cc) (.slice (some ⟨gt, 0, none⟩) s.ts.length ct) (.slice (some ⟨gd, 0, none⟩) s.ds.length cd) (.int .i64 s.clk) 33
  have HM : Hid (MadeSto _ _ _ _ _ _) := hm
  have HZ : Hid (SzSto s) := hz
  have HS : Hid (Calls _ _ _ _ _) := specStoB_any bs gc gt gd cc ct cd s _ (hm.next X0.bel) hz
  clear hm hz
  unfold DnA
  obtain ⟨D, hD⟩ : ∃ D, D = dnR s n := ⟨_, rfl⟩
  rw [← hD]
  unfold dnR at hD
  have hb0 := X0.bel
  by_cases t0 : 65536 < n.size
  · have t1 : (65536 : Int) < (n.size : Int) := by omega
    rw [if_pos t0] at hD
    have HD : Hid (D = ([], 2)) := hD
    clear hD HS
    go_enter Tryz.func21, Tryz.ntmps21
    go_wp2_with fail
    go_ret2
    rw [HD.out]
    have h := ov_made (w.alloc (.cells #[.slice (some ⟨gc, 0, none⟩) s.cs.length cc, .slice (some ⟨gt, 0, none⟩) s.ts.length ct, .slice (some ⟨gd, 0, none⟩) s.ds.length cd, .int .i64 s.clk] 33)) w.heap.size hb0.size
    rw [World.size_alloc] at h
    exact ⟨⟨_, rfl, h⟩, by (repeat (first | (with_reducible exact Below.refl _ _) | (with_reducible assumption) | (with_reducible apply below_drewN) | (with_reducible apply Below.drew) | ((with_reducible refine Below.setCell ?_ ?_ _); rotate_left; focus (first | (simp; done) | (simp; omega) | omega)) | ((with_reducible refine Below.alloc ?_ ?_ _); rotate_left; focus (first | (simp; done) | (simp; omega) | omega))))⟩
  have t1 : ¬ (65536 : Int) < (n.size : Int) := by omega
  rw [if_neg t0] at hD
  obtain ⟨B, hB⟩ : ∃ B, B = stoB s := ⟨_, rfl⟩
  have HCO : Hid (B = true → colsB s.cs = true) := fun h => stoB_cols s (by rw [← hB]; exact h)
  rw [← hB] at HS hD
  clear hB t0
  obtain ⟨_, xl, k0, k1, k2, k3⟩ := id X0
  go_enter Tryz.func21, Tryz.ntmps21
  go_wp2_with fail
  refine HS.out.mono ?_
  rintro e w1 ⟨rfl, hb⟩
  have X1 := X0.step hb
  clear hb X0 HS xl k0 k1 k2 k3 hb0
  obtain ⟨hb1, xl, k0, k1, k2, k3⟩ := id X1
  cases B
  · have HD : Hid (D = ([], 1)) := hD
    clear hD
    go_wp2_with fail
    go_ret2
    rw [HD.out]
    exact ⟨⟨_, rfl, ov_made _ _ (by have := hb1.size; omega)⟩, by (repeat (first | (with_reducible exact Below.refl _ _) | (with_reducible assumption) | (with_reducible apply below_drewN) | (with_reducible apply Below.drew) | ((with_reducible refine Below.setCell ?_ ?_ _); rotate_left; focus (first | (simp; done) | (simp; omega) | omega)) | ((with_reducible refine Below.alloc ?_ ?_ _); rotate_left; focus (first | (simp; done) | (simp; omega) | omega))))⟩
  have HD0 : Hid (D = (match s.cs.find? (namedC n) with | some c => ((seenR c s.clk).1, 0) | none => ([], 11))) := hD
  clear hD
  have hcs := HZ.out.c0
  have HP : Hid (Calls _ _ _ _ _) := specPlace_any n gc bs cc s.cs w1 (HM.out.c.next hb1) hcs
  go_wp2_with fail
  refine HP.out.mono ?_
  rintro e w2 ⟨⟨r, rfl, hf⟩, hb⟩
  have X2 := X1.step hb
  clear hb X1 HP xl k0 k1 k2 k3 hb1
  obtain ⟨hb2, xl, k0, k1, k2, k3⟩ := id X2
  rcases hf with ⟨rfl, hall⟩ | ⟨k, hk, rfl, hp, hall⟩
  · have HD : Hid (D = ([], 11)) := by show D = _; rw [HD0.out, find_none hall]
    clear HD0 hall
    go_wp2_with fail
    go_ret2
    rw [HD.out]
    exact ⟨⟨_, rfl, ov_made _ _ (by have := hb2.size; omega)⟩, by (repeat (first | (with_reducible exact Below.refl _ _) | (with_reducible assumption) | (with_reducible apply below_drewN) | (with_reducible apply Below.drew) | ((with_reducible refine Below.setCell ?_ ?_ _); rotate_left; focus (first | (simp; done) | (simp; omega) | omega)) | ((with_reducible refine Below.alloc ?_ ?_ _); rotate_left; focus (first | (simp; done) | (simp; omega) | omega))))⟩
  · have hkk : (k : Int) < (s.cs.length : Int) := by omega
    have hk0 : ¬ (k : Int) < 0 := by omega
    have R1 := HM.out.c.next hb2
    obtain ⟨ga, gb, ⟨x0, x1, x2⟩, xa, xb, _⟩ := R1.cells k hk
    have hg1 := R1.lt
    have sx := HZ.out.c1 _ (List.getElem_mem hk)
    have tx := riseN_mem s.cs none (HCO.out (by simp)) _ (List.getElem_mem hk)
    have hD1 : D = ((seenR s.cs[k] s.clk).1, 0) := by rw [HD0.out, find_at s.cs k hk hp hall]
    obtain ⟨x, hx⟩ : ∃ x, x = s.cs[k] := ⟨_, rfl⟩
    rw [← hx] at x0 x1 x2 xa xb sx tx hD1
    have HSN0 := fun (W : World) (hW : Below w2.heap.size w2 W) => l08Seen_any x.name (.slice (some ⟨gb, 0, none⟩) x.dfs.length x.dfs.length) x.chs s.clk ga x.chs.length W (xa.readCc.next hW) sx.chl sx.vs
    rw [seen_at x s.clk tx] at HSN0
    obtain ⟨M, hM⟩ : ∃ M, M = (seenR x s.clk).1 := ⟨_, rfl⟩
    rw [← hM] at HSN0 hD1
    have HSN : Hid (∀ W : World, Below w2.heap.size w2 W → Calls _ _ _ W _) := HSN0
    have HD : Hid (D = (M, 0)) := hD1
    clear HSN0 hD1 hM hx R1 xa xb sx tx hp hall HD0 hk
    go_wp2_with fail
    go_region_held3 (fun w0 => w0.cell? ⟨w.heap.size, 0, none⟩ = some (.slice (some ⟨gc, 0, none⟩) s.cs.length cc) ∧ w0.cell? ⟨w.heap.size, 1, none⟩ = some (.slice (some ⟨gt, 0, none⟩) s.ts.length ct) ∧ w0.cell? ⟨w.heap.size, 2, none⟩ = some (.slice (some ⟨gd, 0, none⟩) s.ds.length cd) ∧ w0.cell? ⟨w.heap.size, 3, none⟩ = some (.int .i64 s.clk) ∧ w0.cell? ⟨gc, k * 3, none⟩ = some (.string x.name) ∧ w0.cell? ⟨gc, k * 3 + 1, none⟩ = some (.slice (some ⟨ga, 0, none⟩) x.chs.length x.chs.length) ∧ w0.cell? ⟨gc, k * 3 + 2, none⟩ = some (.slice (some ⟨gb, 0, none⟩) x.dfs.length x.dfs.length)) ((refine keepDc X2 hg1 x0 x1 x2 ?_; (repeat (first | (with_reducible exact Below.refl _ _) | (with_reducible assumption) | (with_reducible apply below_drewN) | (with_reducible apply Below.drew) | ((with_reducible refine Below.setCell ?_ ?_ _); rotate_left; focus (first | (simp; done) | (simp; omega) | omega)) | ((with_reducible refine Below.alloc ?_ ?_ _); rotate_left; focus (first | (simp; done) | (simp; omega) | omega)))))) ((go_at_call 51; refine (HSN.out _ (by (repeat (first | (with_reducible exact Below.refl _ _) | (with_reducible assumption) | (with_reducible apply below_drewN) | (with_reducible apply Below.drew) | ((with_reducible refine Below.setCell ?_ ?_ _); rotate_left; focus (first | (simp; done) | (simp; omega) | omega)) | ((with_reducible refine Below.alloc ?_ ?_ _); rotate_left; focus (first | (simp; done) | (simp; omega) | omega)))))).mono ?_; rintro e w3 ⟨⟨v, rfl, O⟩, hb⟩; have hB3 : Below w2.heap.size w2 w3 := (show Below w2.heap.size w2 _ by (repeat (first | (with_reducible exact Below.refl _ _) | (with_reducible assumption) | (with_reducible apply below_drewN) | (with_reducible apply Below.drew) | ((with_reducible refine Below.setCell ?_ ?_ _); rotate_left; focus (first | (simp; done) | (simp; omega) | omega)) | ((with_reducible refine Below.alloc ?_ ?_ _); rotate_left; focus (first | (simp; done) | (simp; omega) | omega))))).trans (hb.mono (by first | (simp; done) | (simp; omega) | omega)); have hz3 := hb.size; have HO3 : Hid (OV w3 w2.heap.size v M) := ov_lower O (by first | (simp; done) | (simp; omega) | omega); clear hb O; obtain ⟨p3, k3, rfl, _⟩ := own_row (L := M) HO3.out))
    all_goals
      have hbw := (X2.step hB3).bel
      have hz2 := hb2.size
      go_wp2_with fail
      go_ret2
      rw [HD.out]
      exact ⟨⟨_, rfl, ov_lower HO3.out hz2⟩, hbw⟩

set_option maxRecDepth 8000 in
set_option maxHeartbeats 4000000 in
theorem implDocs_any (bs gc gt gd cc ct cd : Nat) (s : Sto) (n : ByteArray) (w : World) (hm : MadeSto w bs gc gt gd s) (hz : SzSto s) (hn : n.size ≤ 1048576) :
    Calls Tryz.prog 22 #[.agg #[.slice (some ⟨gc, 0, none⟩) s.cs.length cc, .slice (some ⟨gt, 0, none⟩) s.ts.length ct, .slice (some ⟨gd, 0, none⟩) s.ds.length cd, .int .i64 s.clk], .string n] w fun e w' => DnA s n w e w' := by
  have X0 := BxTn.start w (.slice (some ⟨gc, 0, none⟩) s.cs.length cc) (.slice (some ⟨gt, 0, none⟩) s.ts.length ct) (.slice (some ⟨gd, 0, none⟩) s.ds.length cd) (.int .i64 s.clk) 33
  have HM : Hid (MadeSto _ _ _ _ _ _) := hm
  have HZ : Hid (SzSto s) := hz
  have HS : Hid (Calls _ _ _ _ _) := storeOK_any bs gc gt gd cc ct cd s _ (hm.next X0.bel) hz
  clear hm hz
  unfold DnA
  obtain ⟨D, hD⟩ : ∃ D, D = dnR s n := ⟨_, rfl⟩
  rw [← hD]
  unfold dnR at hD
  have hb0 := X0.bel
  by_cases t0 : 65536 < n.size
  · have t1 : (65536 : Int) < (n.size : Int) := by omega
    rw [if_pos t0] at hD
    have HD : Hid (D = ([], 2)) := hD
    clear hD HS
    go_enter Tryz.func22, Tryz.ntmps22
    go_wp2_with fail
    go_ret2
    rw [HD.out]
    exact ⟨⟨_, rfl, ov_nil _ _⟩, hb0⟩
  have t1 : ¬ (65536 : Int) < (n.size : Int) := by omega
  rw [if_neg t0] at hD
  obtain ⟨B, hB⟩ : ∃ B, B = stoB s := ⟨_, rfl⟩
  have HCO : Hid (B = true → colsB s.cs = true) := fun h => stoB_cols s (by rw [← hB]; exact h)
  rw [← hB] at HS hD
  clear hB t0
  obtain ⟨_, xl, k0, k1, k2, k3⟩ := id X0
  go_enter Tryz.func22, Tryz.ntmps22
  go_wp2_with fail
  refine HS.out.mono ?_
  rintro e w1 ⟨rfl, hb⟩
  have X1 := X0.step hb
  clear hb X0 HS xl k0 k1 k2 k3 hb0
  obtain ⟨hb1, xl, k0, k1, k2, k3⟩ := id X1
  cases B
  · have HD : Hid (D = ([], 1)) := hD
    clear hD
    go_wp2_with fail
    go_ret2
    rw [HD.out]
    exact ⟨⟨_, rfl, ov_nil _ _⟩, hb1⟩
  have HD0 : Hid (D = (match s.cs.find? (namedC n) with | some c => ((seenR c s.clk).1, 0) | none => ([], 11))) := hD
  clear hD
  have hcs := HZ.out.c0
  have HP : Hid (Calls _ _ _ _ _) := collPlace_any n gc bs cc s.cs w1 (HM.out.c.next hb1) hcs
  go_wp2_with fail
  refine HP.out.mono ?_
  rintro e w2 ⟨⟨r, rfl, hf⟩, hb⟩
  have X2 := X1.step hb
  clear hb X1 HP xl k0 k1 k2 k3 hb1
  obtain ⟨hb2, xl, k0, k1, k2, k3⟩ := id X2
  rcases hf with ⟨rfl, hall⟩ | ⟨k, hk, rfl, hp, hall⟩
  · have HD : Hid (D = ([], 11)) := by show D = _; rw [HD0.out, find_none hall]
    clear HD0 hall
    go_wp2_with fail
    go_ret2
    rw [HD.out]
    exact ⟨⟨_, rfl, ov_nil _ _⟩, hb2⟩
  · have hkk : (k : Int) < (s.cs.length : Int) := by omega
    have hk0 : ¬ (k : Int) < 0 := by omega
    have R1 := HM.out.c.next hb2
    obtain ⟨ga, gb, ⟨x0, x1, x2⟩, xa, xb, _⟩ := R1.cells k hk
    have hg1 := R1.lt
    have sx := HZ.out.c1 _ (List.getElem_mem hk)
    have tx := riseN_mem s.cs none (HCO.out (by simp)) _ (List.getElem_mem hk)
    have hD1 : D = ((seenR s.cs[k] s.clk).1, 0) := by rw [HD0.out, find_at s.cs k hk hp hall]
    obtain ⟨x, hx⟩ : ∃ x, x = s.cs[k] := ⟨_, rfl⟩
    rw [← hx] at x0 x1 x2 xa xb sx tx hD1
    have HSN0 := fun (W : World) (hW : Below w2.heap.size w2 W) => seenAt_any x s.clk ga gb x.chs.length x.dfs.length W ((RdC.mk xa.readCc xb.row).next hW) sx
    have hc0 : (seenR x s.clk).2 = 0 := by rw [seenR_ok x s.clk tx]
    have HSN1 : ∀ W : World, Below w2.heap.size w2 W → Calls Tryz.prog 53 #[.agg #[.string x.name, .slice (some ⟨ga, 0, none⟩) x.chs.length x.chs.length, .slice (some ⟨gb, 0, none⟩) x.dfs.length x.dfs.length], .int .i64 s.clk] W fun e w' => (∃ v, e = .returned (.tuple #[v, .int .i64 0]) ∧ w'.ownsRow W.heap.size 68 3 v (seenR x s.clk).1.length (flat (seenR x s.clk).1)) ∧ Below W.heap.size W w' := fun W hW => (HSN0 W hW).mono fun _ _ h => ⟨by have := h.out; rw [hc0] at this; exact this, h.bel⟩
    clear HSN0 hc0
    have HSN0 := HSN1
    clear HSN1
    obtain ⟨M, hM⟩ : ∃ M, M = (seenR x s.clk).1 := ⟨_, rfl⟩
    rw [← hM] at HSN0 hD1
    have HSN : Hid (∀ W : World, Below w2.heap.size w2 W → Calls _ _ _ W _) := HSN0
    have HD : Hid (D = (M, 0)) := hD1
    clear HSN0 hD1 hM hx R1 xa xb sx tx hp hall HD0 hk
    go_wp2_with fail
    go_region_held3 (fun w0 => w0.cell? ⟨w.heap.size, 0, none⟩ = some (.slice (some ⟨gc, 0, none⟩) s.cs.length cc) ∧ w0.cell? ⟨w.heap.size, 1, none⟩ = some (.slice (some ⟨gt, 0, none⟩) s.ts.length ct) ∧ w0.cell? ⟨w.heap.size, 2, none⟩ = some (.slice (some ⟨gd, 0, none⟩) s.ds.length cd) ∧ w0.cell? ⟨w.heap.size, 3, none⟩ = some (.int .i64 s.clk) ∧ w0.cell? ⟨gc, k * 3, none⟩ = some (.string x.name) ∧ w0.cell? ⟨gc, k * 3 + 1, none⟩ = some (.slice (some ⟨ga, 0, none⟩) x.chs.length x.chs.length) ∧ w0.cell? ⟨gc, k * 3 + 2, none⟩ = some (.slice (some ⟨gb, 0, none⟩) x.dfs.length x.dfs.length)) ((refine keepDc X2 hg1 x0 x1 x2 ?_; (repeat (first | (with_reducible exact Below.refl _ _) | (with_reducible assumption) | (with_reducible apply below_drewN) | (with_reducible apply Below.drew) | ((with_reducible refine Below.setCell ?_ ?_ _); rotate_left; focus (first | (simp; done) | (simp; omega) | omega)) | ((with_reducible refine Below.alloc ?_ ?_ _); rotate_left; focus (first | (simp; done) | (simp; omega) | omega)))))) ((go_at_call 53; refine (HSN.out _ (by (repeat (first | (with_reducible exact Below.refl _ _) | (with_reducible assumption) | (with_reducible apply below_drewN) | (with_reducible apply Below.drew) | ((with_reducible refine Below.setCell ?_ ?_ _); rotate_left; focus (first | (simp; done) | (simp; omega) | omega)) | ((with_reducible refine Below.alloc ?_ ?_ _); rotate_left; focus (first | (simp; done) | (simp; omega) | omega)))))).mono ?_; rintro e w3 ⟨⟨v, rfl, O⟩, hb⟩; have hB3 : Below w2.heap.size w2 w3 := (show Below w2.heap.size w2 _ by (repeat (first | (with_reducible exact Below.refl _ _) | (with_reducible assumption) | (with_reducible apply below_drewN) | (with_reducible apply Below.drew) | ((with_reducible refine Below.setCell ?_ ?_ _); rotate_left; focus (first | (simp; done) | (simp; omega) | omega)) | ((with_reducible refine Below.alloc ?_ ?_ _); rotate_left; focus (first | (simp; done) | (simp; omega) | omega))))).trans (hb.mono (by first | (simp; done) | (simp; omega) | omega)); have hz3 := hb.size; have HO3 : Hid (OV w3 w2.heap.size v M) := ov_lower O (by first | (simp; done) | (simp; omega) | omega); clear hb O; obtain ⟨p3, k3, rfl, _⟩ := own_row (L := M) HO3.out))
    all_goals
      have hbw := (X2.step hB3).bel
      have hz2 := hb2.size
      go_wp2_with fail
      go_ret2
      rw [HD.out]
      exact ⟨⟨_, rfl, ov_lower HO3.out hz2⟩, hbw⟩

end Go.Proofs.YtpfbepbmiillbaaGreatDoor.Tx

/- The law's own walk of DocsNow. -/
namespace Go.Proofs.YtpfbepbmiillbaaGreatDoor.DocsNf
open Go.RowKit Tr Co Rea Ce Tx
set_option linter.unusedVariables false

theorem dn_len (s : Sto) (n : ByteArray) : (dnR s n).1.length ≤ 20 := by
  unfold dnR
  by_cases h1 : 65536 < n.size
  · rw [if_pos h1]; simp
  rw [if_neg h1]
  by_cases h2 : stoB s = true
  · rw [if_pos h2]
    cases h3 : s.cs.find? (namedC n) with
    | none => simp
    | some c =>
      have hc := riseN_mem s.cs none (stoB_cols s h2) c (List.mem_of_find?_eq_some h3)
      have h4 := seenR_len c s.clk
      unfold collB at hc
      simp only [Bool.and_eq_true] at hc
      have h5 := chsB_len c.chs (-1) (by omega) (by omega) hc.2.2
      show (seenR c s.clk).1.length ≤ 20
      omega
  · rw [if_neg h2]; simp
set_option maxRecDepth 8000 in
set_option maxHeartbeats 8000000 in
theorem walk (p1 p2 p3 : Option Addr) (c1 c2 c3 : Nat) (s : Sto) (hm : MaxSto s) (n : ByteArray) (hnm : n.size ≤ maxLen) (w : World) (hin : InSto w p1 p2 p3 s) :
    Calls Tryz.prog 6 #[.agg #[.slice p1 s.cs.length c1, .slice p2 s.ts.length c2, .slice p3 s.ds.length c3, .int .i64 s.clk], .string n] w fun e w' => e = .returned (.bool true) ∧ Below w.heap.size w w' := by
  have X0 := BxTn.start w (.slice p1 s.cs.length c1) (.slice p2 s.ts.length c2) (.slice p3 s.ds.length c3) (.int .i64 s.clk) 26
  have HZ : Hid (Calls _ _ _ _ _) := szStore_tot p1 p2 p3 c1 c2 c3 s 1048576 _ (hin.step X0.bel) hm (by omega) (by omega)
  have HIN : Hid (InSto w p1 p2 p3 s) := hin
  clear hm hin
  unfold maxLen at hnm
  by_cases hbig : (1048576 : Int) < (n.size : Int)
  · have hbx := X0.bel
    go_enter Tryz.func6, Tryz.ntmps6
    go_wp2_with fail
    go_ret
    exact ⟨rfl, hbx⟩
  have hn1 : n.size ≤ 1048576 := by omega
  go_enter Tryz.func6, Tryz.ntmps6
  go_wp2_with fail
  generalize w.alloc (.cells #[.slice p1 s.cs.length c1, .slice p2 s.ts.length c2, .slice p3 s.ds.length c3, .int .i64 s.clk] 26) = W0 at X0 HZ ⊢
  refine HZ.out.mono ?_
  rintro e w1 ⟨⟨r, rfl, hr⟩, hb1⟩
  have X1 := X0.step hb1
  clear HZ
  obtain ⟨hbx, xl, x0, x1, x2, x3⟩ := id X1
  rcases hr with hneg | ⟨hr0, hr1, hsz⟩
  · go_wp2_with fail
    go_ret
    exact ⟨rfl, hbx⟩
  have hnn : ¬ r < 0 := by omega
  have hmk := Tz.mkS_le s r hr0 hr1
  have HTO : Hid (∀ W : World, Below w.heap.size w W → Calls _ _ _ W _) := fun W hW => Ty.toStore_any p1 p2 p3 c1 c2 c3 s W (HIN.out.step hW) hsz
  have HEQ : Hid (∀ (g1 g2 g3 h1 h2 h3 b1 b2 : Nat) (W : World), Tx.MadeSto W b1 g1 g2 g3 s → Tx.MadeSto W b2 h1 h2 h3 s → Calls _ _ _ W _) := fun g1 g2 g3 h1 h2 h3 b1 b2 W x y => eqStore_same g1 g2 g3 b1 h1 h2 h3 b2 s W x y hsz
  have HS0 := fun (ga gb gd b : Nat) (W : World) (hW : Tx.MadeSto W b ga gb gd s) => specDocs_any b ga gb gd s.cs.length s.ts.length s.ds.length s n W hW hsz hn1
  have HI0 := fun (ga gb gd b : Nat) (W : World) (hW : Tx.MadeSto W b ga gb gd s) => implDocs_any b ga gb gd s.cs.length s.ts.length s.ds.length s n W hW hsz hn1
  have hE := dn_len s n
  obtain ⟨E, hEe⟩ : ∃ E, E = (dnR s n).1 := ⟨_, rfl⟩
  obtain ⟨C, hCe⟩ : ∃ C, C = (dnR s n).2 := ⟨_, rfl⟩
  unfold DnA at HS0 HI0
  rw [← hEe, ← hCe] at HS0 HI0
  rw [← hEe] at hE
  have HS : Hid (∀ (ga gb gd b : Nat) (W : World), Tx.MadeSto W b ga gb gd s → Calls Tryz.prog 21 #[.agg #[.slice (some ⟨ga, 0, none⟩) s.cs.length s.cs.length, .slice (some ⟨gb, 0, none⟩) s.ts.length s.ts.length, .slice (some ⟨gd, 0, none⟩) s.ds.length s.ds.length, .int .i64 s.clk], .string n] W fun e w' => (∃ v, e = .returned (.tuple #[v, .int .i64 C]) ∧ OV w' W.heap.size v E) ∧ Below W.heap.size W w') := HS0
  have HI : Hid (∀ (ga gb gd b : Nat) (W : World), Tx.MadeSto W b ga gb gd s → Calls Tryz.prog 22 #[.agg #[.slice (some ⟨ga, 0, none⟩) s.cs.length s.cs.length, .slice (some ⟨gb, 0, none⟩) s.ts.length s.ts.length, .slice (some ⟨gd, 0, none⟩) s.ds.length s.ds.length, .int .i64 s.clk], .string n] W fun e w' => (∃ v, e = .returned (.tuple #[v, .int .i64 C]) ∧ OV w' W.heap.size v E) ∧ Below W.heap.size W w') := HI0
  have HSZ : Hid (Tz.mkS s ≤ 10485760 ∧ Tz.SmS s) := ⟨hmk, Tz.SmS.of hsz⟩
  clear HS0 HI0 hEe hCe hr1 hmk hsz hb1 X0
  go_wp2_with fail
  refine (HTO.out _ X1.bel).mono ?_
  rintro e w2 ⟨⟨ga2, gb2, gd2, rfl, O2⟩, hb⟩
  have X2 := X1.step hb
  have HO2 : Hid (Ty.MadeSto _ _ _ _ _ _) := O2
  clear hb O2 X1 hbx xl x0 x1 x2 x3
  go_wp2_with fail
  refine (HS.out ga2 gb2 gd2 _ _ HO2.out.old).mono ?_
  rintro e w3 ⟨⟨v3, rfl, P3⟩, hb⟩
  have X3 := X2.step hb
  have z2 := X2.bel.size
  have HP3 : Hid (RVB w3 w3.heap.size v3 E) := OV.rvb P3
  have z3 := hb.size
  have hx2 := X2.lt
  clear hb P3 HO2 X2
  obtain ⟨hbx, xl, x0, x1, x2, x3⟩ := id X3
  go_wp2_with fail
  refine (HTO.out _ X3.bel).mono ?_
  rintro e w4 ⟨⟨ga, gb, gd, rfl, O4⟩, hb⟩
  have X4 := X3.step hb
  have z4 := hb.size
  have hbA : Below w4.heap.size w4 (w4.alloc (.cells #[.slice (some ⟨ga, 0, none⟩) s.cs.length s.cs.length, .slice (some ⟨gb, 0, none⟩) s.ts.length s.ts.length, .slice (some ⟨gd, 0, none⟩) s.ds.length s.ds.length, .int .i64 s.clk] 33)) := (Below.refl _ _).alloc (Nat.le_refl _) _
  have X5 := X4.step hbA
  have HB35 : Hid (Below w3.heap.size w3 _) := hb.trans (hbA.mono z4)
  have HO4 : Hid (Ty.MadeSto _ _ _ _ _ _) := O4
  have Y5 := BxTn.start w4 (.slice (some ⟨ga, 0, none⟩) s.cs.length s.cs.length) (.slice (some ⟨gb, 0, none⟩) s.ts.length s.ts.length) (.slice (some ⟨gd, 0, none⟩) s.ds.length s.ds.length) (.int .i64 s.clk) 33
  clear hb X3 X4 O4 hbx xl x0 x1 x2 x3 hbA
  obtain ⟨_, yl, y0, y1, y2, y3⟩ := id Y5
  go_wp2_with fail
  generalize w4.alloc (.cells #[.slice (some ⟨ga, 0, none⟩) s.cs.length s.cs.length, .slice (some ⟨gb, 0, none⟩) s.ts.length s.ts.length, .slice (some ⟨gd, 0, none⟩) s.ds.length s.ds.length, .int .i64 s.clk] 33) = W5 at X5 HB35 Y5 yl y0 y1 y2 y3 ⊢
  have hb45 := Y5.bel
  refine (HI.out ga gb gd _ _ (HO4.out.next hb45).old).mono ?_
  rintro e w5 ⟨⟨v5, rfl, P5⟩, hb⟩
  have X6 := X5.step hb
  have Y6 := Y5.step hb
  have z5 := hb.size
  have z45 := hb45.size
  have hz35 := HB35.out.size
  have V5 : RVB w5 w3.heap.size v3 E := (HP3.out.step HB35.out).step (hb.mono hz35)
  have HP5 : Hid (OV w5 W5.heap.size v5 E) := P5
  have HV5 : Hid (RVB w5 w3.heap.size v3 E) := V5
  have HQ5 : Hid (Calls _ _ _ _ _) := eqV_any v5 v3 E w5 P5.rv V5.rv (by omega)
  have hb4w : Below w4.heap.size w4 w5 := hb45.trans (hb.mono z45)
  have HB45 : Hid (Below w4.heap.size w4 w5) := hb4w
  have HB3w : Hid (Below w3.heap.size w3 w5) := HB35.out.trans (hb.mono HB35.out.size)
  clear hb P5 HP3 V5 hb45 X5 Y5 yl y0 y1 y2 y3 hb4w HB35
  go_wp2_with fail
  refine HQ5.out.mono ?_
  rintro e w6 ⟨rfl, hb⟩
  have X7 := X6.step hb
  obtain ⟨_, m7, y0, y1, y2, y3⟩ := Y6.step hb
  have z6 := hb.size
  have HB46 : Hid (Below w4.heap.size w4 w6) := HB45.out.trans (hb.mono HB45.out.size)
  have HB36 : Hid (Below w3.heap.size w3 w6) := HB3w.out.trans (hb.mono HB3w.out.size)
  have HB56 : Hid (Below w5.heap.size w5 w6) := hb
  obtain ⟨bx, hbx⟩ : ∃ bx, bx = w4.heap.size := ⟨_, rfl⟩
  rw [← hbx] at y0 y1 y2 y3 m7 ⊢
  have HBX : Hid (bx = w4.heap.size) := hbx
  clear hb HQ5 X6 Y6 hbx HB45 HB3w
  go_wp2_with fail
  go_region_held3 (fun w0 => w0.cell? ⟨w.heap.size, 0, none⟩ = some (.slice p1 s.cs.length c1) ∧ w0.cell? ⟨w.heap.size, 1, none⟩ = some (.slice p2 s.ts.length c2) ∧ w0.cell? ⟨w.heap.size, 2, none⟩ = some (.slice p3 s.ds.length c3) ∧ w0.cell? ⟨w.heap.size, 3, none⟩ = some (.int .i64 s.clk) ∧ w0.cell? ⟨bx, 0, none⟩ = some (.slice (some ⟨ga, 0, none⟩) s.cs.length s.cs.length) ∧ w0.cell? ⟨bx, 1, none⟩ = some (.slice (some ⟨gb, 0, none⟩) s.ts.length s.ts.length) ∧ w0.cell? ⟨bx, 2, none⟩ = some (.slice (some ⟨gd, 0, none⟩) s.ds.length s.ds.length) ∧ w0.cell? ⟨bx, 3, none⟩ = some (.int .i64 s.clk)) ((refine keepSt X7 m7 y0 y1 y2 y3 ?_; (repeat (first | (with_reducible exact Below.refl _ _) | (with_reducible assumption) | (with_reducible apply below_drewN) | (with_reducible apply Below.drew) | ((with_reducible refine Below.setCell ?_ ?_ _); rotate_left; focus (first | (simp; done) | (simp; omega) | omega)) | ((with_reducible refine Below.alloc ?_ ?_ _); rotate_left; focus (first | (simp; done) | (simp; omega) | omega)))))) (first | (go_at_call 10; refine (HTO.out _ (X7.bel.trans ((show Below w6.heap.size w6 _ by (repeat (first | (with_reducible exact Below.refl _ _) | (with_reducible assumption) | (with_reducible apply below_drewN) | (with_reducible apply Below.drew) | ((with_reducible refine Below.setCell ?_ ?_ _); rotate_left; focus (first | (simp; done) | (simp; omega) | omega)) | ((with_reducible refine Below.alloc ?_ ?_ _); rotate_left; focus (first | (simp; done) | (simp; omega) | omega))))).mono X7.bel.size))).mono ?_; rintro e w7 ⟨⟨ga7, gb7, gd7, rfl, O7⟩, hb⟩; have hB7 : Below w6.heap.size w6 w7 := (show Below w6.heap.size w6 _ by (repeat (first | (with_reducible exact Below.refl _ _) | (with_reducible assumption) | (with_reducible apply below_drewN) | (with_reducible apply Below.drew) | ((with_reducible refine Below.setCell ?_ ?_ _); rotate_left; focus (first | (simp; done) | (simp; omega) | omega)) | ((with_reducible refine Below.alloc ?_ ?_ _); rotate_left; focus (first | (simp; done) | (simp; omega) | omega))))).trans (hb.mono (by simp)); have HO7 : Hid (Tx.MadeSto w7 _ ga7 gb7 gd7 s) := O7.old; clear hb O7) | (go_at_call 12; refine (HEQ.out _ _ _ _ _ _ _ _ _ (HO4.out.next (HB46.out.trans (hB7.mono HB46.out.size))).old HO7.out).mono ?_; rintro e w8 ⟨rfl, hb⟩; have hB8 : Below w6.heap.size w6 w8 := hB7.trans (hb.mono hB7.size); clear hb))
  have X8 := X7.step hB8
  have u0 := (hB8.cell m7).trans y0
  have u1 := (hB8.cell m7).trans y1
  have u2 := (hB8.cell m7).trans y2
  have u3 := (hB8.cell m7).trans y3
  have m8 := Nat.lt_of_lt_of_le m7 hB8.size
  have HB48 : Hid (Below w4.heap.size w4 w8) := HB46.out.trans (hB8.mono HB46.out.size)
  have HB38 : Hid (Below w3.heap.size w3 w8) := HB36.out.trans (hB8.mono HB36.out.size)
  have HB58 : Hid (Below w5.heap.size w5 w8) := HB56.out.trans (hB8.mono HB56.out.size)
  have z8 := HB48.out.size
  have z58 := HB58.out.size
  have HM8 : Hid (Calls _ _ _ _ _) := Tz.markStore_any w3.heap.size w4.heap.size ga gb gd s.cs.length s.ts.length s.ds.length 1 s w8 ((Tz.MadeCs.sh HO4.out.c).mk' (Tz.Mk.of_below HB48.out)) ((Tz.MadeTn.sh HO4.out.t).mk' (Tz.Mk.of_below HB48.out)) ((Tz.MadeDn.sh HO4.out.d).mk' (Tz.Mk.of_below HB48.out)) (by omega) (by omega) (by have := HSZ.out.1; omega) HSZ.out.2
  clear hB8 hB7 HO7 X7 y0 y1 y2 y3 m7 HB46 HB36 HB56 HEQ
  go_wp2_with fail
  refine HM8.out.mono ?_
  rintro e w9 ⟨rfl, hm9⟩
  have hk9 : ¬ (((1 + Tz.mkS s : Nat) : Int) < 0) := by omega
  have z9 := hm9.chg.size
  have hbxe := HBX.out
  have M5 : OV w9 W5.heap.size v5 E := (HP5.out.next HB58.out).chg hm9.chg (by omega)
  have M3 : RVB w9 w3.heap.size v3 E := (HV5.out.step (HB58.out.mono (by omega))).step (hm9.chg.below (Nat.le_refl _) (by omega))
  have l8 := X8.lt
  have X9 : BxTn w w9 (.slice p1 s.cs.length c1) (.slice p2 s.ts.length c2) (.slice p3 s.ds.length c3) (.int .i64 s.clk) := by
    have hc : ∀ o, w9.cell? ⟨w.heap.size, o, none⟩ = w8.cell? ⟨w.heap.size, o, none⟩ := fun o => World.cell?_of_block (a := ⟨w.heap.size, o, none⟩) (hm9.chg.block w.heap.size l8 (.inl (by omega)))
    exact ⟨X8.bel.trans (hm9.chg.below (by omega) (by omega)), by omega, (hc 0).trans X8.c0, (hc 1).trans X8.c1, (hc 2).trans X8.c2, (hc 3).trans X8.c3⟩
  have HX9 : Hid (BxTn w w9 (.slice p1 s.cs.length c1) (.slice p2 s.ts.length c2) (.slice p3 s.ds.length c3) (.int .i64 s.clk)) := X9
  have HQ9 : Hid (Calls _ _ _ _ _) := eqV_any v5 v3 E w9 M5.rv M3.rv (by omega)
  have HM5 : Hid (OV w9 W5.heap.size v5 E) := M5
  have HM3 : Hid (RVB w9 w3.heap.size v3 E) := M3
  clear hm9 M5 M3 HM8 HB58 HB48 HB38 HO4 HP5 HV5 X8 X9 u0 u1 u2 u3 m8 l8 hbxe HBX
  go_wp2_with fail
  refine HQ9.out.mono ?_
  rintro e w10 ⟨rfl, hb⟩
  have z10 := hb.size
  have HX10 : Hid (BxTn w w10 (.slice p1 s.cs.length c1) (.slice p2 s.ts.length c2) (.slice p3 s.ds.length c3) (.int .i64 s.clk)) := HX9.out.step hb
  have HK3 : Hid (RVB w10 w3.heap.size v3 E) := HM3.out.step (hb.mono (by omega))
  have K5 : OV w10 W5.heap.size v5 E := HM5.out.next hb
  have HK5 : Hid (Calls _ _ _ _ _) := markV_any W5.heap.size v5 E w10 K5 (by omega) (by omega)
  clear hb K5 HM5 HM3 HQ9 HX9
  go_wp2_with fail
  refine HK5.out.mono ?_
  rintro e w11 ⟨rfl, K5, hg⟩
  have z11 := hg.size
  have K3 : RVB w11 w3.heap.size v3 E := HK3.out.step (hg.mono (by omega))
  have l10 := HX10.out.lt
  have lw5 : w.heap.size < W5.heap.size := by omega
  have HX11 : Hid (BxTn w w11 (.slice p1 s.cs.length c1) (.slice p2 s.ts.length c2) (.slice p3 s.ds.length c3) (.int .i64 s.clk)) := ⟨HX10.out.bel.trans (hg.mono (by omega)), by omega, (hg.cell lw5).trans HX10.out.c0, (hg.cell lw5).trans HX10.out.c1, (hg.cell lw5).trans HX10.out.c2, (hg.cell lw5).trans HX10.out.c3⟩
  have HH : Hid (Calls _ _ _ _ _) := heldV_any v5 E.length w11 (OV.rv K5) (by omega)
  have HK5' : Hid (OV w11 W5.heap.size v5 (marks E.length)) := K5
  have HK3' : Hid (RVB w11 w3.heap.size v3 E) := K3
  clear hg K3 K5 HK5 HK3 HX10 l10
  go_wp2_with fail
  refine HH.out.mono ?_
  rintro e w12 ⟨rfl, hb⟩
  have hk12 : ¬ ((1 + 3 * (E.length : Int)) < 0) := by omega
  have z12 := hb.size
  have X12 := HX11.out.step hb
  have HX12 : Hid (BxTn w w12 (.slice p1 s.cs.length c1) (.slice p2 s.ts.length c2) (.slice p3 s.ds.length c3) (.int .i64 s.clk)) := X12
  have HR5 : Hid (OV w12 W5.heap.size v5 (marks E.length)) := HK5'.out.next hb
  have HR3 : Hid (RVB w12 w3.heap.size v3 E) := HK3'.out.step (hb.mono (by omega))
  clear hb HH HK5' HK3' HX11
  obtain ⟨hbx, xl, x0, x1, x2, x3⟩ := X12
  go_wp2_with fail
  refine (HTO.out _ HX12.out.bel).mono ?_
  rintro e w13 ⟨⟨ga13, gb13, gd13, rfl, O13⟩, hb⟩
  have z13 := hb.size
  have HB13 : Hid (Below w12.heap.size w12 w13) := hb
  have HO13 : Hid (Tx.MadeSto _ _ _ _ _ _) := O13.old
  clear hb O13 hbx xl x0 x1 x2 x3
  go_wp2_with fail
  refine (HI.out ga13 gb13 gd13 _ _ HO13.out).mono ?_
  rintro e w14 ⟨⟨v14, rfl, P14⟩, hb⟩
  have z14 := hb.size
  have HB14 : Hid (Below w12.heap.size w12 w14) := HB13.out.trans (hb.mono z13)
  have HQ : Hid (Calls _ _ _ _ _) := eqV_any v14 v3 E w14 (OV.rv P14) (HR3.out.step (HB14.out.mono (by omega))).rv (by omega)
  clear hb P14 HB13 HO13
  go_wp2_with fail
  refine HQ.out.mono ?_
  rintro e w15 ⟨rfl, hb⟩
  have hB15 : Below w12.heap.size w12 w15 := HB14.out.trans (hb.mono HB14.out.size)
  have HX15 : Hid (BxTn w w15 (.slice p1 s.cs.length c1) (.slice p2 s.ts.length c2) (.slice p3 s.ds.length c3) (.int .i64 s.clk)) := HX12.out.step hB15
  have HQ2 : Hid (Calls _ _ _ _ _) := heldV_any v5 E.length w15 (OV.rv (HR5.out.next hB15)) (by omega)
  clear hb hB15 HQ HB14 HR3 HR5
  go_wp2_with fail
  refine HQ2.out.mono ?_
  rintro e w16 ⟨rfl, hb⟩
  have HB16 : Hid (Below w.heap.size w w16) := (HX15.out.step hb).bel
  clear hb HQ2 HX15 HX12
  go_wp2_with fail
  go_ret
  exact ⟨rfl, HB16.out⟩

end Go.Proofs.YtpfbepbmiillbaaGreatDoor.DocsNf

/- The law's own walk. -/
namespace Go.Proofs.YtpfbepbmiillbaaGreatDoor
open Go.ChangeShapes Go.WideShapes Go.ChangeAt Go.RowKit Go.Joins
open Go.ChangeMaps (open_string shut_string)
set_option linter.unusedVariables false
namespace DocsNf



end DocsNf
end Go.Proofs.YtpfbepbmiillbaaGreatDoor

/- The law's walk, lifted to the row. -/
namespace Go.Proofs.YtpfbepbmiillbaaGreatDoor
open Go.ChangeShapes Go.WideShapes Go.ChangeAt Go.RowKit Go.Joins
open Go.ChangeMaps (open_string shut_string)
set_option linter.unusedVariables false
namespace DocsNf
theorem own : ownKnob Tryz.prog.godebug = none := by kernel_rfl
theorem laidOut : laidOutB Tryz.prog = true := by kernel_rfl

set_option maxRecDepth 100000 in
theorem lifted (os : Os) (started : os.Started) (H : Type) (enc : TypeId × Value → H) :
    ReturnsInHanded {} Tryz.checked os 6 .any (fun w args => (Rows.fnExactDocsNowSpec.pre enc Tryz.prog Tryz.f6 Rows.fnExactDocsNowRow.domain false w args ∧ laidMetH Tryz.prog Rows.fnExactDocsNowRow.laid w) ∧ sizedMet enc Tryz.prog Tryz.f6 (OpenSpec.ofChange Rows.fnExactDocsNowSpec) false w args)
      (Rows.fnExactDocsNowSpec.post enc Tryz.prog Tryz.f6 false true false false) := by
  refine returnsInHanded_of_change_and (C := Tryz.checked) (X := fun w _ => laidMetH Tryz.prog Rows.fnExactDocsNowRow.laid w) (fun _ _ _ hh h => h.of_heap hh) own started (by kernel_rfl) Tryz.func6
    (ChangeSpec.witness_shaped (enc := enc) (C := Tryz.checked) (os := os) (X := fun w _ => laidMetH Tryz.prog Rows.fnExactDocsNowRow.laid w) false (World.laidAll Tryz.prog os Rows.fnExactDocsNowRow.laid) #[.agg #[.slice none 0 0, .slice none 0 0, .slice none 0 0, .int .i64 0], .string ByteArray.empty] 8 (World.laidAll_os _ _ _)
      (World.shaped_of_ZipB (by kernel_rfl) (by kernel_rfl)) (by kernel_rfl) (by kernel_rfl) (by kernel_rfl)
      (by rw [MakeChecks.laidMetH_plain _ _ _ (by kernel_rfl)]; exact laidMet_laidAll _ (by kernel_rfl) (by kernel_rfl))) ?_
  intro W base args ds gs before hval0 hW hcnd _ hL _
  have hval : ∀ (j : Nat) t v, Tryz.f6.params[j]? = some t → args[j]? = some v → Value.okWide Tryz.prog W .any base t v := hval0
  have hW' := hW
  obtain ⟨p, q, hA0, hV, rfl, hfz, hnd⟩ := hW
  have hA : DataW.TrodAll enc Tryz.prog W 0 (fun _ => true) true Tryz.f6.params.toList args.toList ds p := hA0
  rw [Tryz.params6] at hA hval
  obtain ⟨v0, vs0, d0, ds0, p0, q0, hargs, rfl, rfl, h0, r0⟩ := trodAll_cons hA
  obtain ⟨v1, vs1, d1, ds1, p1, q1, rfl, rfl, rfl, h1, r1⟩ := trodAll_cons r0
  obtain ⟨rfl, rfl, rfl⟩ := trodAll_nil r1
  obtain rfl : args = #[v0, v1] := by cases args; simp_all
  obtain ⟨rfl, rfl⟩ := trodVars_none hV
  have k0 := h0
  have lt0 : ∀ x ∈ p0, x.block < W.heap.size := by obtain ⟨m, hm⟩ := k0; exact DataW.trod_lt m _ _ _ hm
  obtain ⟨so0, sp0, sq0, st0, cp0, cq0, ct0, rfl, hm0, i0⟩ := Tx.open_store (hval 0 26 v0 rfl rfl) h0
  have k1 := h1
  have lt1 : ∀ x ∈ p1, x.block < W.heap.size := by obtain ⟨m, hm⟩ := k1; exact DataW.trod_lt m _ _ _ hm
  obtain ⟨s1, rfl, e11, e12, ws1⟩ := open_string Tryz.underlying9 (hval 1 9 v1 rfl rfl) h1
  clear hA0 hval0
  refine (walk sp0 sq0 st0 cp0 cq0 ct0 so0 hm0 s1 ws1 W i0).mono fun e W' ⟨he, bel⟩ => ?_
  subst he
  exact ⟨_, rfl, _, _, _, [], _, [], hW', trodAll_mk1 (shut_bool Tryz.underlying4 _), (trodAll_cons_mk (Below.trod laidOut (by kernel_rfl) (of_decide_eq_true (by kernel_rfl)) k0 bel lt0) (trodAll_cons_mk (Below.trod laidOut (by kernel_rfl) (of_decide_eq_true (by kernel_rfl)) k1 bel lt1) trodAll_mk0)), rfl, bel.frame _, fun h => by cases h⟩
end DocsNf
end Go.Proofs.YtpfbepbmiillbaaGreatDoor
