import Derived.Test.YtejphhhmblpapaaDocJQ
import Derived.Test.YtejphhhmblpapaaSpec
import Derived.Deep.RegionLaw
import Derived.BigQuiet
/- Three rows of fields laid behind one another, and the place that is found from behind. -/
namespace Go.Proofs.Ytejphhhmblpapaa
open Go.RowKit
set_option linter.unusedVariables false

theorem Place.back {l : List Fld} {nm : ByteArray} {j : Nat} (hr : Rise l) (hj : j ≤ l.length) (hhi : ∀ q (h : q < l.length), j ≤ q → ltB nm l[q].name = true) (hlo : ∀ i (h : i < l.length), j = i + 1 → ltB l[i].name nm = true) : Place l nm j false := by
  refine ⟨hj, fun q hq hlt => ?_, fun q hq hge => ltB_asym (hhi q hq hge), ⟨fun h => absurd h (by simp), fun ⟨h, e⟩ => ?_⟩⟩
  · obtain ⟨i, rfl⟩ : ∃ i, j = i + 1 := ⟨j - 1, by omega⟩
    have h1 := hlo i (by omega) rfl
    rcases Nat.lt_or_ge q i with h2 | h2
    · exact ltB_trans (hr q i hq (by omega) h2) h1
    · obtain rfl : q = i := by omega
      exact h1
  · have := hhi j h (Nat.le_refl _)
    rw [e, ltB_irrefl] at this; cases this
theorem step_appF {ops : Array Oper} {o : Oper} {a : Act} {w : World} {K : Act → World → Prop} {Q : Exit → Act → World → Prop} {E : Prop} (hgd : o.guard = none) (s x : Operand)
    (ho : o.op = .call { callee := .builtin .append, args := #[s, x], argTypes := #[33, 33] }) (base n : Nat) (v : Value) (xs : List Value)
    (hs : a.eval s = v) (hown : w.ownsRow base 36 4 v n xs) (ad : Addr) (m c : Nat) (news : List Value) (hx : a.eval x = .slice (some ad) m c) (hl : news.length = m * 4) (hnews : ∀ j u, news[j]? = some u → w.cell? (ad.add j) = some u) (h1 : ∀ u ∈ news, u.oneCell' = true)
    (hn : n ≤ 1000) (hm : m ≤ 1000) (hbase : base ≤ w.heap.size)
    (hK : ∀ v' w', w'.ownsRow base 36 4 v' (n + m) (xs ++ news) → w.grownBy w' v.ownBlock → (v' = .slice none 0 0 ↔ v = .slice none 0 0 ∧ m = 0) → K (a.put o.dst v') w') : if Region.wanted o (yielded ops a.tmps) = true then Oper.wp Try.prog o a w K Q else E := by
  have hw : Region.wanted o (yielded ops a.tmps) = true := by simp [Region.wanted, hgd]
  rw [if_pos hw]
  obtain ⟨i0, hi, hz0, hz1, hz2⟩ := info_parts infoF
  obtain ⟨v', w', hr, h2, h3, h4, h5⟩ := run_append_own_at (P := Try.prog) w base 33 o.type 36 i0 (.agg #[.string em, .int .i64 0, .int .i64 0, .string em]) 4 48 Try.underlying33 hi hz0 hz1 hz2 rfl (by decide) v n xs hown ad m c news hl hnews h1 (by unfold maxLen; omega) (by omega) hbase
  unfold Oper.wp execOp
  simp only [ho, resolve, invoke, builtin, Sem.run_bind, Sem.run_pure, Result.andThen_ok, List.map_toArray, List.map_cons, List.map_nil, hs, hx, hr]
  exact hK v' w' h2 h3 h4
theorem liesF_grown {W w1 : World} {vb b : Nat} {f : Fld} (h : LiesF W vb f) (hg : W.grownBy w1 (some b)) (hne : vb ≠ b) : LiesF w1 vb f := by
  have hlt : vb < W.heap.size := by
    rcases Nat.lt_or_ge vb W.heap.size with h' | h'
    · exact h'
    · rw [LiesF, Array.getElem?_eq_none h'] at h; cases h
  rw [LiesF, hg.block vb hlt (fun e => hne (by injection e))]; exact h
/-- A row of fields that lies in a block, cell by cell. -/
def SrcF (w : World) (g : Nat) (l : List Fld) : Prop := ∀ p u, (flatF l)[p]? = some u → w.cell? ⟨g, p, none⟩ = some u
theorem SrcF.of_own {w : World} {base g cap n : Nat} {l : List Fld} (h : w.ownsRow base 36 4 (.slice (some ⟨g, 0, none⟩) n cap) n (flatF l)) : SrcF w g l := fun p u hp => owns_cell h p u hp
theorem srcT {wx W : World} {g j : Nat} {l : List Fld} (h : SrcF wx g l) (hg : g < wx.heap.size) (hj : j ≤ l.length) (hb : Below wx.heap.size wx W) : ∀ p u, (flatF (l.take j))[p]? = some u → W.cell? ((⟨g, 0, none⟩ : Addr).add p) = some u := fun p u hp => by
  rw [add_off, Nat.zero_add, hb.cell (p := ⟨g, p, none⟩) hg]
  apply h
  rw [← flatF_take l j hj, List.getElem?_take] at hp
  split at hp
  · exact hp
  · cases hp
theorem srcD {wx W : World} {g j : Nat} {l : List Fld} (h : SrcF wx g l) (hg : g < wx.heap.size) (hj : j ≤ l.length) (hb : Below wx.heap.size wx W) : ∀ p u, (flatF (l.drop j))[p]? = some u → W.cell? ((⟨g, j * 4, none⟩ : Addr).add p) = some u := fun p u hp => by
  rw [add_off, hb.cell (p := ⟨g, j * 4 + p, none⟩) hg]
  apply h
  rw [← flatF_drop l j hj, List.getElem?_drop] at hp
  exact hp
theorem owns_base {w : World} {base b n : Nat} {v : Value} {xs : List Value} (h : w.ownsRow base 36 4 v n xs) (hb : b ≤ base) : w.ownsRow b 36 4 v n xs := by
  obtain ⟨h1, h2⟩ := h
  refine ⟨h1, ?_⟩
  rcases h2 with h2 | ⟨g, cap, cur, hv, hg, r⟩
  · exact .inl h2
  · exact .inr ⟨g, cap, cur, hv, Nat.le_trans hb hg, r⟩
theorem row3 {w : World} {base j : Nat} {v : Value} {l : List Fld} {f : Fld} (hj : j ≤ l.length) (h : w.ownsRow base 36 4 v (0 + j + 1 + (l.length - j)) ([] ++ flatF (l.take j) ++ rowF f ++ flatF (l.drop j))) : w.ownsRow base 36 4 v (insL l j f).length (flatF (insL l j f)) := by
  rw [flatF_ins l j f hj, insL_len l j f hj, flatF_take l j hj, flatF_drop l j hj]
  have e : l.length + 1 = 0 + j + 1 + (l.length - j) := by omega
  rw [e]; exact h

end Go.Proofs.Ytejphhhmblpapaa
