/- Marks on rows of entries: what the laws' helpers answer, and which memory they change. -/
import Derived.Test.YtnmpfooegnmknaaTrQ
import Derived.Test.YtnmpfooegnmknaaTrX
import Derived.Test.YtnmpfooegnmknaaDraD
import Derived.Deep.DeepCutAuto
namespace Go.Proofs.Ytnmpfooegnmknaa.Tr
open Go.RowKit
set_option linter.unusedVariables false

/-- From w to w' all that lay in w is as it was, but in blocks from lo on, below hi. -/
structure Chg (lo hi : Nat) (w w' : World) : Prop where
  os : w'.os = w.os
  tape : w'.tape = w.tape
  output : w'.output = w.output
  size : w.heap.size ≤ w'.heap.size
  block : ∀ k, k < w.heap.size → (k < lo ∨ hi ≤ k) → w'.heap[k]? = w.heap[k]?
theorem Chg.refl (lo hi : Nat) (w : World) : Chg lo hi w w := ⟨rfl, rfl, rfl, Nat.le_refl _, fun _ _ _ => rfl⟩
theorem Chg.trans {lo hi : Nat} {a b c : World} (h : Chg lo hi a b) (k : Chg lo hi b c) : Chg lo hi a c :=
  ⟨k.os.trans h.os, k.tape.trans h.tape, k.output.trans h.output, Nat.le_trans h.size k.size, fun i hi ho => (k.block i (Nat.lt_of_lt_of_le hi h.size) ho).trans (h.block i hi ho)⟩
theorem Chg.of_below {lo hi : Nat} {w w' : World} (h : Below w.heap.size w w') : Chg lo hi w w' := ⟨h.os, h.tape, h.output, h.size, fun k hk _ => h.block k hk⟩
theorem Chg.of_grown {lo hi : Nat} {w w' : World} {row : Option Nat} (h : w.grownBy w' row) (hr : ∀ b, row = some b → lo ≤ b ∧ b < hi) : Chg lo hi w w' :=
  ⟨h.os, h.tape, h.output, h.size, fun k hk ho => h.block k hk (fun e => by have := hr k e.symm; omega)⟩
theorem Chg.below {lo hi B : Nat} {w w' : World} (h : Chg lo hi w w') (hB : B ≤ lo) (hs : B ≤ w.heap.size) : Below B w w' :=
  ⟨h.os, h.tape, h.output, h.size, fun k hk => h.block k (by omega) (.inl (by omega))⟩
theorem Chg.owns {lo hi : Nat} {w w' : World} (h : Chg lo hi w w') {base : Nat} {e : TypeId} {size : Nat} {v : Value} {n : Nat} {xs : List Value} (ho : w.ownsRow base e size v n xs) (hout : ∀ g, v.ownBlock = some g → g < lo ∨ hi ≤ g) : w'.ownsRow base e size v n xs := by
  have hlt := ho.lt
  obtain ⟨h1, h2⟩ := ho
  refine ⟨h1, ?_⟩
  rcases h2 with h2 | ⟨g, cap, cur, hv, hg, hh, r⟩
  · exact .inl h2
  · have hb : v.ownBlock = some g := by rw [hv]; rfl
    exact .inr ⟨g, cap, cur, hv, hg, by rw [h.block g (hlt g hb).2 (hout g hb)]; exact hh, r⟩
theorem Chg.cell {lo hi : Nat} {w w' : World} (h : Chg lo hi w w') {b o : Nat} (hb : b < w.heap.size) (ho : b < lo ∨ hi ≤ b) : w'.cell? ⟨b, o, none⟩ = w.cell? ⟨b, o, none⟩ := World.cell?_of_block (h.block b hb ho)
theorem grown_below {w w' : World} {row : Option Nat} (h : Below w.heap.size w w') : w.grownBy w' row := ⟨h.os, h.tape, h.output, h.size, fun k hk _ => h.block k hk⟩
theorem grown_trans {a b c : World} {row : Option Nat} (h : a.grownBy b row) (k : b.grownBy c row) : a.grownBy c row :=
  ⟨k.os.trans h.os, k.tape.trans h.tape, k.output.trans h.output, Nat.le_trans h.size k.size, fun i hi hne => (k.block i (Nat.lt_of_lt_of_le hi h.size) hne).trans (h.block i hi hne)⟩
theorem grown_refl (a : World) (row : Option Nat) : a.grownBy a row := ⟨rfl, rfl, rfl, Nat.le_refl _, fun _ _ _ => rfl⟩

def txt (zs : List Int) : ByteArray := strOfNums zs
theorem txt_size (z : Int) : (txt [z]).size = 1 := by rfl
/-- The digits of a number ahead of a text. -/
def digs (k : Nat) (out : ByteArray) : ByteArray := if h : k = 0 then out else digs (k / 10) (txt [48 + (k : Int) % 10] ++ out)
  termination_by k
  decreasing_by omega
theorem digs_zero (out : ByteArray) : digs 0 out = out := by rw [digs]; simp
theorem digs_pos (k : Nat) (out : ByteArray) (h : 0 < k) : digs k out = digs (k / 10) (txt [48 + (k : Int) % 10] ++ out) := by
  rw [digs, dif_neg (by omega)]
/-- The text of a mark. -/
def mt (k : Nat) : ByteArray := (⟨#[109]⟩ : ByteArray) ++ digs k em
theorem conv1 (W : World) (z : Int) : (convert 22 9 (.slice (some ⟨W.heap.size, 0, none⟩) 1 1)).run Try.prog (W.alloc (.cells #[.int .u8 z] 5)) = .ok (.string (txt [z])) (W.alloc (.cells #[.int .u8 z] 5)) :=
  run_convert_bytes_arg _ 22 5 Try.underlying22 Try.underlying5 W.heap.size 0 1 1 [z] rfl (fun i hi => by
    have : i = 0 := by omega
    subst this
    simp [go_sem]) 9 Try.underlying9
set_option maxRecDepth 4000 in
set_option maxHeartbeats 1000000 in
theorem markText_any (k : Nat) (h1 : 1 ≤ k) (h2 : k ≤ 17592186044416) (w : World) :
    Calls Try.prog 66 #[.int .i64 k] w fun e w' => e = .returned (.string (mt k)) ∧ Below w.heap.size w w' := by
  have hp : ¬ ((k : Int) ≤ 0) := by omega
  go_enter Try.func66, Try.ntmps66
  go_wp2_with fail
  go_loopw [0, 3] (fun i u wr => ∃ (j : Nat) (out : ByteArray), i = .int .i64 j ∧ u = .string out ∧ digs j out = digs k em ∧ out.size + j ≤ k ∧ Below w.heap.size w wr) (fun i _ _ => (intOf i).toNat)
  case atStart => exact ⟨k, em, rfl, rfl, rfl, by simp [ByteArray.size], Below.refl _ _⟩
  case round =>
    obtain ⟨j, out, rfl, rfl, hd, hsz, hbel⟩ := hrel
    have HD : Hid _ := hd
    clear hd
    have hz := hbel.size
    by_cases hj : 0 < j
    · have hj' : (0 : Int) < (j : Int) := by omega
      have ht : (txt [48 + (j : Int) % 10]).size = 1 := txt_size _
      have hc := conv1 wr (48 + (j : Int) % 10)
      have hm : Int.tmod (j : Int) 10 = (j : Int) % 10 := Int.tmod_eq_emod_of_nonneg (by omega)
      have hq : Int.tdiv (j : Int) 10 = (j : Int) / 10 := Int.tdiv_eq_ediv_of_nonneg (by omega)
      go_wp2_with fail
      go_roundw
      case rel => exact ⟨j / 10, txt [48 + (j : Int) % 10] ++ out, by go_num, rfl, by rw [← digs_pos j out hj]; exact HD.out, by rw [ByteArray.size_append, ht]; omega, by (repeat (first | (with_reducible exact Below.refl _ _) | (with_reducible assumption) | (with_reducible apply below_drewN) | (with_reducible apply Below.drew) | ((with_reducible refine Below.setCell ?_ ?_ _); rotate_left; focus (first | (simp; done) | (simp; omega) | omega)) | ((with_reducible refine Below.alloc ?_ ?_ _); rotate_left; focus (first | (simp; done) | (simp; omega) | omega))))⟩
      case measure => simp [intOf]; omega
    · have hj0 : j = 0 := by omega
      subst hj0
      have e : out = digs k em := by rw [← HD.out, digs_zero]
      subst e
      clear HD
      go_wp2_with fail
      go_ret
      exact ⟨rfl, hbel⟩

/-- The entry that marks place number i, from number q on. -/
def markE (q i : Nat) : Ent := ⟨mt (q + 2 * i), (q : Int) + 2 * (i : Int) + 1⟩
def marksE (q n : Nat) : List Ent := (List.range n).map (markE q)
theorem marksE_len (q n : Nat) : (marksE q n).length = n := by unfold marksE; simp
theorem marksE_get (q n i : Nat) (h : i < (marksE q n).length) : (marksE q n)[i] = markE q i := by simp [marksE]
/-- The first k places marked. -/
def markMixE (q : Nat) (l : List Ent) (k : Nat) : List Ent := marksE q k ++ l.drop k
theorem markMixE_len (q : Nat) (l : List Ent) (k : Nat) (h : k ≤ l.length) : (markMixE q l k).length = l.length := by unfold markMixE; rw [List.length_append, marksE_len, List.length_drop]; omega
theorem markMixE_zero (q : Nat) (l : List Ent) : markMixE q l 0 = l := by unfold markMixE marksE; simp
theorem markMixE_full (q : Nat) (l : List Ent) : markMixE q l l.length = marksE q l.length := by unfold markMixE; simp
theorem markMixE_set (q : Nat) (l : List Ent) (k : Nat) (h : k < l.length) : (markMixE q l k).set k (markE q k) = markMixE q l (k + 1) := by
  unfold markMixE
  rw [List.set_append_right _ _ (by rw [marksE_len]; omega), marksE_len, Nat.sub_self]
  have e : marksE q (k + 1) = marksE q k ++ [markE q k] := by unfold marksE; rw [List.range_succ, List.map_append]; rfl
  rw [e, List.append_assoc]
  congr 1
  rw [List.drop_eq_getElem_cons h]; rfl

end Go.Proofs.Ytnmpfooegnmknaa.Tr

/- Marks on pages and trees: what the laws' helpers answer, and which memory they change. -/
namespace Go.Proofs.Ytnmpfooegnmknaa.Tr
open Go.RowKit
set_option linter.unusedVariables false

/-- The pages that marks leave, from number q on, and the number behind them. -/
def marksP : Nat → List Pg → List Pg
  | _, [] => []
  | q, p :: t => ⟨q, marksE (q + 1) p.es.length⟩ :: marksP (q + 1 + 2 * p.es.length) t
def endP : Nat → List Pg → Nat
  | q, [] => q
  | q, p :: t => endP (q + 1 + 2 * p.es.length) t
theorem marksP_cons (q : Nat) (p : Pg) (t : List Pg) : marksP q (p :: t) = ⟨q, marksE (q + 1) p.es.length⟩ :: marksP (q + 1 + 2 * p.es.length) t := rfl
theorem endP_cons (q : Nat) (p : Pg) (t : List Pg) : endP q (p :: t) = endP (q + 1 + 2 * p.es.length) t := rfl
theorem marksP_len : ∀ (q : Nat) (f : List Pg), (marksP q f).length = f.length
  | _, [] => rfl
  | q, p :: t => by unfold marksP; simp [marksP_len _ t]
theorem marksP_app : ∀ (q : Nat) (a b : List Pg), marksP q (a ++ b) = marksP q a ++ marksP (endP q a) b
  | _, [], b => rfl
  | q, p :: t, b => by
    rw [List.cons_append, marksP_cons, marksP_cons, endP_cons, marksP_app _ t b]; rfl
theorem endP_app : ∀ (q : Nat) (a b : List Pg), endP q (a ++ b) = endP (endP q a) b
  | _, [], b => rfl
  | q, p :: t, b => by
    rw [List.cons_append, endP_cons, endP_cons]
    exact endP_app _ t b
theorem endP_ge : ∀ (q : Nat) (f : List Pg), q ≤ endP q f
  | q, [] => Nat.le_refl _
  | q, p :: t => by
    have := endP_ge (q + 1 + 2 * p.es.length) t
    unfold endP; omega
theorem endP_le : ∀ (q : Nat) (f : List Pg), (∀ p ∈ f, p.es.length ≤ 1048576) → endP q f ≤ q + f.length * 2097153
  | q, [], _ => by simp [endP]
  | q, p :: t, h => by
    have h1 := endP_le (q + 1 + 2 * p.es.length) t (fun r hr => h r (List.mem_cons_of_mem _ hr))
    have h2 := h p (List.mem_cons_self ..)
    unfold endP
    rw [List.length_cons, Nat.add_mul]
    omega
/-- The first k pages marked. -/
def mixM (q : Nat) (f : List Pg) (k : Nat) : List Pg := marksP q (f.take k) ++ f.drop k
theorem mixM_len (q : Nat) (f : List Pg) (k : Nat) (h : k ≤ f.length) : (mixM q f k).length = f.length := by unfold mixM; rw [List.length_append, marksP_len, List.length_take, List.length_drop]; omega
theorem mixM_zero (q : Nat) (f : List Pg) : mixM q f 0 = f := by unfold mixM marksP; simp
theorem mixM_full (q : Nat) (f : List Pg) (k : Nat) (h : k = f.length) : mixM q f k = marksP q f := by subst h; unfold mixM; simp
theorem mixM_get (q : Nat) (f : List Pg) (k : Nat) (h : k < f.length) (h2 : k < (mixM q f k).length) : (mixM q f k)[k] = f[k] := by
  have hl : (marksP q (f.take k)).length = k := by rw [marksP_len, List.length_take]; omega
  have e : (mixM q f k)[k]? = f[k]? := by
    unfold mixM
    rw [List.getElem?_append_right (by omega), hl, Nat.sub_self, List.getElem?_drop]; rfl
  rw [List.getElem?_eq_getElem h2, List.getElem?_eq_getElem h] at e
  exact Option.some.inj e
theorem mixM_set (q : Nat) (f : List Pg) (k : Nat) (h : k < f.length) : (mixM q f k).set k ⟨(endP q (f.take k) : Nat), marksE (endP q (f.take k) + 1) f[k].es.length⟩ = mixM q f (k + 1) := by
  unfold mixM
  have hl : (marksP q (f.take k)).length = k := by rw [marksP_len, List.length_take]; omega
  rw [List.set_append_right _ _ (by omega), hl, Nat.sub_self, List.take_succ_eq_append_getElem h, marksP_app, List.append_assoc]
  congr 1
  rw [List.drop_eq_getElem_cons h]; rfl
theorem endP_succ (q : Nat) (f : List Pg) (k : Nat) (h : k < f.length) : endP q (f.take (k + 1)) = endP q (f.take k) + 1 + 2 * f[k].es.length := by
  rw [List.take_succ_eq_append_getElem h, endP_app]; rfl

theorem PartT.mark {w w3 : World} {lo g c n : Nat} {f : List Pg} {vs : Nat → Value} {xs : List Value} (h : PartT w lo (.slice (some ⟨g, 0, none⟩) n c) n f n vs xs) (hn : f.length = n) {k : Nat} (hk : k < n) {num : Int} {es : List Ent}
    (ho : OwnE w3 lo (vs k) es) (hg : (w.setCell ⟨g, k * 2, none⟩ (.int .i64 num)).grownBy w3 (vs k).ownBlock) : PartT w3 lo (.slice (some ⟨g, 0, none⟩) n c) n (f.set k ⟨num, es⟩) n vs (xs.set (k * 2) (.int .i64 num)) := by
  have hl : xs.length = n * 2 := h.row.1
  have hsw : ∀ {i j : Nat}, ((vs i).ownBlock = none ∨ (vs i).ownBlock ≠ (vs j).ownBlock) → ((vs j).ownBlock = none ∨ (vs j).ownBlock ≠ (vs i).ownBlock) := by
    intro i j hh
    rcases hh with hh | hh
    · cases hj : (vs j).ownBlock with
      | none => exact .inl rfl
      | some b => exact .inr (by rw [hh]; simp)
    · exact .inr (fun e => hh e.symm)
  refine ⟨?_, ?_, ?_, ?_, ?_⟩
  · refine ((World.ownsRow.stored h.row (k * 2) (.int .i64 num)).1).kept hg (.inr ?_)
    rcases h.aside k (by omega) hk with hh | hh
    · rw [hh]; simp [Value.ownBlock]
    · exact fun e => hh e.symm
  · intro i hi0 hik
    have hi : i < f.length := by simpa using hi0
    by_cases e : i = k
    · subst e
      rw [List.getElem_set_self, List.getElem?_set_self (by omega), List.getElem?_set_ne (by omega)]
      exact ⟨rfl, (h.at_ i hi hik).2⟩
    · rw [List.getElem_set_ne (fun e' => e e'.symm), List.getElem?_set_ne (by omega), List.getElem?_set_ne (by omega)]
      exact h.at_ i hi hik
  · intro i hi0 hik
    have hi : i < f.length := by simpa using hi0
    by_cases e : i = k
    · subst e; rw [List.getElem_set_self]; exact ho
    · rw [List.getElem_set_ne (fun e' => e e'.symm)]
      exact ((World.ownsRow.kept (h.ents i hi hik) grown_set (h.aside i hi hik))).kept hg (h.apart i k hi (by omega) hik hk e)
  · intro i j hi hj hik hjk hne
    rw [List.length_set] at hi hj
    exact h.apart i j hi hj hik hjk hne
  · intro i hi hik
    rw [List.length_set] at hi
    exact h.aside i hi hik

/-- A tree's pages, owned, all of it in blocks from lo on, below hi. -/
def OwnH (w : World) (lo hi : Nat) (v : Value) (f : List Pg) : Prop := ∃ vs xs, PartT w lo v f.length f f.length vs xs ∧ (∀ b, v.ownBlock = some b → b < hi) ∧ ∀ i, i < f.length → ∀ b, (vs i).ownBlock = some b → b < hi
theorem OwnT.ownH {w : World} {lo : Nat} {v : Value} {f : List Pg} (h : OwnT w lo v f) : OwnH w lo w.heap.size v f := by
  obtain ⟨vs, xs, h⟩ := h
  exact ⟨vs, xs, h, fun b hb => (h.row.lt b hb).2, fun i hi b hb => (World.ownsRow.lt (h.ents i hi hi) b hb).2⟩
theorem OwnH.ownT {w : World} {lo hi : Nat} {v : Value} {f : List Pg} (h : OwnH w lo hi v f) : OwnT w lo v f := by
  obtain ⟨vs, xs, h, _⟩ := h
  exact ⟨vs, xs, h⟩
theorem OwnH.next {w w' : World} {lo hi : Nat} {v : Value} {f : List Pg} (h : OwnH w lo hi v f) (hb : Below w.heap.size w w') : OwnH w' lo hi v f := by
  obtain ⟨vs, xs, h, h2, h3⟩ := h
  exact ⟨vs, xs, h.next hb, h2, h3⟩
/-- What lies outside of the blocks that changed is as it was. -/
theorem OwnH.chg {w w' : World} {lo hi lo' hi' : Nat} {v : Value} {f : List Pg} (h : OwnH w lo hi v f) (hc : Chg lo' hi' w w') (ho : hi ≤ lo' ∨ hi' ≤ lo) : OwnH w' lo hi v f := by
  obtain ⟨vs, xs, h, h2, h3⟩ := h
  refine ⟨vs, xs, ⟨hc.owns h.row (fun g hg => ?_), h.at_, fun i hi' hk => hc.owns (h.ents i hi' hk) (fun g hg => ?_), h.apart, h.aside⟩, h2, h3⟩
  · have a := (h.row.lt g hg).1
    have b := h2 g hg
    omega
  · have a := (World.ownsRow.lt (h.ents i hi' hk) g hg).1
    have b := h3 i hi' g hg
    omega

end Go.Proofs.Ytnmpfooegnmknaa.Tr

/- A tree and an entry that the laws keep while their calls make new memory. -/
namespace Go.Proofs.Ytnmpfooegnmknaa.Tr
open Go.RowKit
set_option linter.unusedVariables false

theorem keepM {w W w0 : World} {v : Value} {next : Int} {e : Ent} (X : BoxTE w W v next e) (hb : Below W.heap.size W w0) :
    w0.cell? ⟨w.heap.size, 0, none⟩ = some v ∧ w0.cell? ⟨w.heap.size, 1, none⟩ = some (.int .i64 next) ∧ w0.cell? ⟨w.heap.size + 1, 0, none⟩ = some (.string e.key) ∧ w0.cell? ⟨w.heap.size + 1, 1, none⟩ = some (.int .i64 e.id) :=
  ⟨(X.step hb).c0, (X.step hb).c1, (X.step hb).d0, (X.step hb).d1⟩
theorem keepN {w W w0 : World} {v : Value} {next : Int} {e : Ent} {bx : Nat} {a b : Value} (X : BoxTE w W v next e) (m : bx < W.heap.size) (x : W.cell? ⟨bx, 0, none⟩ = some a) (y : W.cell? ⟨bx, 1, none⟩ = some b) (hb : Below W.heap.size W w0) :
    w0.cell? ⟨w.heap.size, 0, none⟩ = some v ∧ w0.cell? ⟨w.heap.size, 1, none⟩ = some (.int .i64 next) ∧ w0.cell? ⟨w.heap.size + 1, 0, none⟩ = some (.string e.key) ∧ w0.cell? ⟨w.heap.size + 1, 1, none⟩ = some (.int .i64 e.id) ∧ w0.cell? ⟨bx, 0, none⟩ = some a ∧ w0.cell? ⟨bx, 1, none⟩ = some b :=
  ⟨(X.step hb).c0, (X.step hb).c1, (X.step hb).d0, (X.step hb).d1, (hb.cell m).trans x, (hb.cell m).trans y⟩

end Go.Proofs.Ytnmpfooegnmknaa.Tr

/- What the law of dropping leans on. -/
namespace Go.Proofs.Ytnmpfooegnmknaa.Tr
open Go.RowKit
set_option linter.unusedVariables false

theorem OwnT.shape {w : World} {base : Nat} {v : Value} {f : List Pg} (h : OwnT w base v f) : ∃ p c, v = .slice p f.length c := by
  rcases h.form with ⟨rfl, rfl⟩ | ⟨g, c, rfl, _⟩
  · exact ⟨_, _, rfl⟩
  · exact ⟨_, _, rfl⟩
theorem OwnT.rowQ {w : World} {base n c : Nat} {p : Option Addr} {f : List Pg} (h : OwnT w base (.slice p n c) f) : RowP w p f := by
  rcases h.form with ⟨e, rfl⟩ | ⟨g, c, e, hg, hR⟩
  · exact .inl rfl
  · injection e with e1; exact .inr ⟨g, e1, hR⟩
theorem OwnH.rowQ {w : World} {lo hi n c : Nat} {p : Option Addr} {f : List Pg} (h : OwnH w lo hi (.slice p n c) f) : RowP w p f := h.ownT.rowQ
theorem OwnH.rowQm {w : World} {lo hi n c : Nat} {p : Option Addr} {f : List Pg} (h : OwnH w lo hi (.slice p n c) (marksP 1 f)) : RowP w p (marksP 1 f) := h.ownT.rowQ
theorem BoxTE.step' {w W W' : World} {v : Value} {next : Int} {e : Ent} {B : Nat} (h : BoxTE w W v next e) (hb : Below B W W') (hB : w.heap.size + 2 ≤ B) : BoxTE w W' v next e :=
  ⟨h.bel.trans (hb.mono (by omega)), Nat.lt_of_lt_of_le h.lt hb.size, (hb.cell (by show w.heap.size < B; omega)).trans h.c0, (hb.cell (by show w.heap.size < B; omega)).trans h.c1, (hb.cell (by show w.heap.size + 1 < B; omega)).trans h.d0, (hb.cell (by show w.heap.size + 1 < B; omega)).trans h.d1⟩
/-- Two cells of a tree's zero value. -/
structure Z2 (U : World) (b : Nat) : Prop where
  lt : b < U.heap.size
  c0 : U.cell? ⟨b, 0, none⟩ = some (.slice none 0 0)
  c1 : U.cell? ⟨b, 1, none⟩ = some (.int .i64 0)
  z0 : U.frozen? ⟨b, 0, none⟩ = false
  z1 : U.frozen? ⟨b, 1, none⟩ = false
theorem Z2.next {U U' : World} {b : Nat} (h : Z2 U b) (hb : Below U.heap.size U U') : Z2 U' b :=
  ⟨Nat.lt_of_lt_of_le h.lt hb.size, (hb.cell h.lt).trans h.c0, (hb.cell h.lt).trans h.c1, (hb.frozen (p := ⟨b, 0, none⟩) h.lt).trans h.z0, (hb.frozen (p := ⟨b, 1, none⟩) h.lt).trans h.z1⟩
theorem z2a {W w1 : World} {T : TypeId} (h : Below (W.alloc (.cells #[.slice none 0 0, .int .i64 0] T)).heap.size (W.alloc (.cells #[.slice none 0 0, .int .i64 0] T)) w1) : Z2 w1 W.heap.size :=
  Z2.next ⟨by simp, by simp [go_sem], by simp [go_sem], by simp [go_sem], by simp [go_sem]⟩ h
theorem z2d {W w1 : World} {T : TypeId} (h : Below (W.drew.alloc (.cells #[.slice none 0 0, .int .i64 0] T)).heap.size (W.drew.alloc (.cells #[.slice none 0 0, .int .i64 0] T)) w1) : Z2 w1 W.heap.size := z2a (W := W.drew) h
theorem z2e {W w1 : World} {T : TypeId} (h : Below (W.alloc (.cells #[.slice none 0 0, .int .i64 0] T)).drew.heap.size (W.alloc (.cells #[.slice none 0 0, .int .i64 0] T)).drew w1) : Z2 w1 W.heap.size :=
  Z2.next (U := (W.alloc (.cells #[.slice none 0 0, .int .i64 0] T)).drew) ⟨by simp, by simp [go_sem], by simp [go_sem], by simp [go_sem], by simp [go_sem]⟩ h
/-- A tree that an answer brought, boxed. -/
structure ResT (w2 wx : World) (bs : Nat) (s : Option Addr) (c : Nat) (F : List Pg) (nx : Int) (lo hi : Nat) : Prop where
  bel : Below w2.heap.size w2 wx
  ge : w2.heap.size ≤ bs
  lt : bs < wx.heap.size
  c0 : wx.cell? ⟨bs, 0, none⟩ = some (.slice s F.length c)
  c1 : wx.cell? ⟨bs, 1, none⟩ = some (.int .i64 nx)
  own : OwnH wx lo hi (.slice s F.length c) F
  lo_ : w2.heap.size ≤ lo
  hi_ : hi ≤ wx.heap.size
  out : bs < lo ∨ hi ≤ bs
theorem ResT.late {w2 w5 : World} {s : Option Addr} {c lo : Nat} {F : List Pg} {nx : Int} {T : TypeId} (hB : Below w2.heap.size w2 w5) (hO : OwnT w5 lo (.slice s F.length c) F) (hlo : w2.heap.size ≤ lo) : ResT w2 (w5.alloc (.cells #[.slice s F.length c, .int .i64 nx] T)) w5.heap.size s c F nx lo w5.heap.size :=
  ⟨hB.alloc hB.size _, hB.size, by simp, by simp [go_sem], by simp [go_sem], hO.ownH.next ((Below.refl _ _).alloc (Nat.le_refl _) _), hlo, by simp, .inr (Nat.le_refl _)⟩
theorem ResT.early {w2 w5 : World} {s : Option Addr} {c lo bs : Nat} {F : List Pg} {nx : Int} (Z : Z2 w5 bs) (hB : Below w2.heap.size w2 w5) (hO : OwnT w5 lo (.slice s F.length c) F) (h1 : w2.heap.size ≤ bs) (h2 : bs < lo) (hlo : w2.heap.size ≤ lo) : ResT w2 ((w5.setCell ⟨bs, 0, none⟩ (.slice s F.length c)).setCell ⟨bs, 1, none⟩ (.int .i64 nx)) bs s c F nx lo w5.heap.size := by
  obtain ⟨z1, z2, z3, z4, z5⟩ := Z
  have hO2 := (hO.grown (grown_set (g := bs) (o := 0) (v := .slice s F.length c)) h2).grown (grown_set (g := bs) (o := 1) (v := .int .i64 nx)) h2
  have hs : ((w5.setCell ⟨bs, 0, none⟩ (.slice s F.length c)).setCell ⟨bs, 1, none⟩ (.int .i64 nx)).heap.size = w5.heap.size := by simp
  have hH := hO2.ownH
  rw [hs] at hH
  exact ⟨(hB.setCell h1 _).setCell h1 _, h1, by rw [hs]; exact z1, by simp [go_sem, *], by simp [go_sem, *], hH, hlo, by rw [hs]; exact Nat.le_refl _, .inl h2⟩
theorem ResT.lateE {w2 w5 : World} {s : Option Addr} {c lo : Nat} {F : List Pg} {nx : Int} {T : TypeId} (hB : Below w2.heap.size w2 w5) (hO : OwnT w5 lo (.slice s F.length c) F) (hlo : w2.heap.size ≤ lo) : ∃ l h, ResT w2 (w5.alloc (.cells #[.slice s F.length c, .int .i64 nx] T)) w5.heap.size s c F nx l h := ⟨_, _, ResT.late hB hO hlo⟩
theorem ResT.earlyE {w2 w5 : World} {s : Option Addr} {c lo bs : Nat} {F : List Pg} {nx : Int} (Z : Z2 w5 bs) (hB : Below w2.heap.size w2 w5) (hO : OwnT w5 lo (.slice s F.length c) F) (h1 : w2.heap.size ≤ bs) (h2 : bs < lo) (hlo : w2.heap.size ≤ lo) : ∃ l h, ResT w2 ((w5.setCell ⟨bs, 0, none⟩ (.slice s F.length c)).setCell ⟨bs, 1, none⟩ (.int .i64 nx)) bs s c F nx l h := ⟨_, _, ResT.early Z hB hO h1 h2 hlo⟩
theorem tree_sizes {f : List Pg} {next : Int} (h : treeB f next = true) : f.length ≤ 1048576 ∧ ∀ l ∈ f, l.es.length ≤ 1048576 := by
  have h60 := ((treeB_iff f next).1 h).1
  exact ⟨by omega, fun l hl => Nat.le_trans (tree_small h l hl) (by omega)⟩
theorem DropR.small {f : List Pg} {next : Int} {e : Ent} {f' : List Pg} {n code : Int} (h : DropR f next e f' n code) : f'.length ≤ 1048576 ∧ ∀ l ∈ f', l.es.length ≤ 1048576 := by
  by_cases hT : treeB f next = true ∧ entB e = true
  · exact tree_sizes (h.right hT).1
  · unfold DropR at h; rw [if_neg hT] at h; rw [h.1]; simp
end Go.Proofs.Ytnmpfooegnmknaa.Tr
