/- What is left of a chain: what the program answers. -/
import Derived.Test.YtkafanjfjplakaaGreatDoorCopE
import Derived.Test.YtkafanjfjplakaaGreatDoorCopS
import Derived.Test.YtkafanjfjplakaaGreatDoorColX
import Derived.Laws.OwnMore
namespace Go.Proofs.YtkafanjfjplakaaGreatDoor.Co
open Go.RowKit Tr
set_option linter.unusedVariables false

/-- What is left of a chain: its last version up to a time, where it holds a document, and the later ones. -/
def leftT (cur : Ver) (r : List Ver) : List Ver := if cur.gone then r else cur :: r
def leftV (t : Int) (l : List Ver) : List Ver := leftT (trP t l).1 (trP t l).2
def vacB (t : Int) (f : List Chn) : List Chn := f.flatMap (fun c => if (leftV t c.vs).length = 0 then [] else [⟨c.id, leftV t c.vs⟩])
theorem run_app_none {P : Program} {w : World} (base : Nat) (t ty e : TypeId) (i : TypeInfo) (size c : Nat) (ht : P.underlying t = some (.slice e)) (hi : P.info? e = some i)
    (v : Value) (n : Nat) (xs : List Value) (hown : w.ownsRow base e size v n xs) :
    (Builtin.append_ #[t, t] ty #[v, .slice none 0 c]).run P w = .ok v w := by
  rcases hown.2 with ⟨rfl, rfl⟩ | ⟨g, cap, cur, rfl, _, _, hnc, _⟩
  · simp [Builtin.append_, run_underlying ht, sizeOf, typeInfo, hi, Builtin.lenOf, Builtin.firstCells]
  · simp [Builtin.append_, run_underlying ht, sizeOf, typeInfo, hi, Builtin.lenOf, Builtin.firstCells, hnc, storeCells]
/-- Versions behind versions of one's own, wherever they came from. -/
theorem wpList_appVr {w : World} {ops : Array Oper} {rest : List Oper} {o : Oper} {a : Act} {Q : Exit → Act → World → Prop} (hgd : o.guard = none) (s x : Operand)
    (ho : o.op = .call { callee := .builtin .append, args := #[s, x], argTypes := #[92, 92] }) (base : Nat) (v : Value) (l r : List Ver) (p : Option Addr) (c : Nat)
    (hs : a.eval s = v) (hown : OwnVr w base v l) (hx : a.eval x = .slice p r.length c) (hin : InVr w p r) (hn : l.length ≤ 1000) (hm : r.length ≤ 1000) (hbase : base ≤ w.heap.size)
    (hK : ∀ v' w', OwnVr w' base v' (l ++ r) → Below base w w' → wpList Tryz.prog ops Q rest (a.put o.dst v') w') : wpList Tryz.prog ops Q (o :: rest) a w := by
  refine wpList_plain hgd fun K hK2 => ?_
  obtain ⟨i0, hi, hz0, hz1, hz2⟩ := info_parts infoVr
  unfold OwnVr at hown
  have hrun : ∃ v' w', (Builtin.append_ #[92, 92] o.type #[v, .slice p r.length c]).run Tryz.prog w = .ok v' w' ∧ OwnVr w' base v' (l ++ r) ∧ Below base w w' := by
    cases p with
    | none =>
      rcases hin with h0 | ⟨b, off, e, _⟩
      · have hr0 : r = [] := List.length_eq_zero_iff.1 h0
        subst hr0
        refine ⟨v, w, run_app_none base 92 o.type 96 i0 5 c Tryz.underlying92 hi v l.length (flatVr l) hown, ?_, Below.refl _ _⟩
        rw [List.append_nil]; exact hown
      · cases e
    | some ad =>
      have hcs : ∀ j u, (flatVr r)[j]? = some u → w.cell? (ad.add j) = some u := by
        rcases hin with h0 | ⟨b, off, e, _, hc⟩
        · have hr0 : r = [] := List.length_eq_zero_iff.1 h0
          subst hr0
          intro j u hj
          simp [flatVr] at hj
        · injection e with e
          subst e
          exact InVr.cellsOf hc
      obtain ⟨v', w', hr, h2, h3, h4, h5⟩ := run_append_own_at (P := Tryz.prog) w base 92 o.type 96 i0 (.agg #[.int .i64 0, .bool false, .int .i64 0, .int .i64 0, .string em]) 5 48 Tryz.underlying92 hi hz0 hz1 hz2 rfl (by decide) v l.length (flatVr l) hown ad r.length c (flatVr r) (flatVr_len r) hcs (flatVr_one r) (by unfold maxLen; omega) (by omega) hbase
      refine ⟨v', w', hr, ?_, (Below.refl _ _).grown h3 hbase (fun b hb => (hown.lt b hb).1)⟩
      unfold OwnVr
      rw [flatVr_app, List.length_append]; exact h2
  obtain ⟨v', w', hr, h2, h3⟩ := hrun
  unfold Oper.wp execOp
  simp only [ho, resolve, invoke, builtin, Sem.run_bind, Sem.run_pure, Result.andThen_ok, List.map_toArray, List.map_cons, List.map_nil, hs, hx, hr]
  exact hK2 _ _ (hK v' w' h2 h3)

set_option maxRecDepth 4000 in
set_option maxHeartbeats 2000000 in
theorem left_any (cur : Ver) (r : List Ver) (p : Option Addr) (c : Nat) (w : World) (hin : InVr w p r) (hl : r.length ≤ 1000) :
    Calls Tryz.prog 54 #[.agg #[.int .i64 cur.tm, .bool cur.gone, .int .i64 cur.doc.k, .int .i64 cur.doc.n, .string cur.doc.t, .slice p r.length c]] w fun e w' => (∃ p' c', e = .returned (.slice p' (leftT cur r).length c') ∧ InVr w' p' (leftT cur r)) ∧ Below w.heap.size w w' := by
  have hbA : Below w.heap.size w (w.alloc (.cells #[.int .i64 cur.tm, .bool cur.gone, .int .i64 cur.doc.k, .int .i64 cur.doc.n, .string cur.doc.t, .slice p r.length c] 98)) := (Below.refl _ _).alloc (Nat.le_refl _) _
  have HI : Hid (InVr _ _ _) := hin.step hbA
  clear hin
  cases hg : cur.gone with
  | true =>
    have HL : Hid (leftT cur r = r) := by show leftT cur r = r; unfold leftT; rw [hg, if_pos rfl]
    rw [hg] at HI hbA
    go_enter Tryz.func54, Tryz.ntmps54
    go_wp2_with fail
    go_ret
    exact ⟨⟨p, c, by rw [HL.out]; try rfl, by rw [HL.out]; exact HI.out⟩, hbA⟩
  | false =>
    have HL : Hid (leftT cur r = [cur] ++ r) := by show leftT cur r = _; unfold leftT; rw [hg, if_neg (by simp)]; rfl
    have HG : Hid (cur.gone = false) := hg
    rw [hg] at HI hbA
    clear hg
    go_enter Tryz.func54, Tryz.ntmps54
    go_wp2_with (at_builtin; refine wpList_appVr rfl (.tmp 10) (.tmp 12) rfl (w.heap.size + 1) (.slice (some ⟨w.heap.size + 1, 0, none⟩) 1 1) [cur] r p c rfl ?c1 rfl ?c2 (by simp) hl (by simp) ?_)
    case c1 =>
      have h := World.ownsRow_lit (base := w.heap.size + 1) (e := 96) (size := 5) (w.alloc (.cells #[.int .i64 cur.tm, .bool false, .int .i64 cur.doc.k, .int .i64 cur.doc.n, .string cur.doc.t, .slice p r.length c] 98)) #[.int .i64 cur.tm, .bool false, .int .i64 cur.doc.k, .int .i64 cur.doc.n, .string cur.doc.t] 1 (by simp) (by unfold maxLen; omega) rfl
      unfold OwnVr flatVr
      simp only [List.flatMap_cons, List.flatMap_nil, List.append_nil, List.length_cons, List.length_nil]
      unfold rowVr
      rw [HG.out]
      simpa using h
    case c2 => exact HI.out.step ((Below.refl _ _).alloc (Nat.le_refl _) _)
    intro v' w' hO hB
    obtain ⟨p', c', hv, hin'⟩ := hO.inVr
    subst hv
    have HO : Hid (InVr _ _ _) := hin'
    have hB' : Below w.heap.size w w' := (show Below w.heap.size w _ by (repeat (first | (with_reducible exact Below.refl _ _) | (with_reducible assumption) | (with_reducible apply below_drewN) | (with_reducible apply Below.drew) | ((with_reducible refine Below.setCell ?_ ?_ _); rotate_left; focus (first | (simp; done) | (simp; omega) | omega)) | ((with_reducible refine Below.alloc ?_ ?_ _); rotate_left; focus (first | (simp; done) | (simp; omega) | omega))))).trans (hB.mono (by omega))
    clear hB hO hin'
    go_wp2_with fail
    go_ret
    exact ⟨⟨p', c', by rw [HL.out]; try rfl, by rw [HL.out]; exact HO.out⟩, hB'⟩

end Go.Proofs.YtkafanjfjplakaaGreatDoor.Co
