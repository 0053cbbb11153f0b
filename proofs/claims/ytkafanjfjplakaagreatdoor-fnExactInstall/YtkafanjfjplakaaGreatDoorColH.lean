/- Marks on collections and on rows of values: what the laws' helpers answer, and which memory they change. -/
import Derived.Test.YtkafanjfjplakaaGreatDoorColG
import Derived.Test.YtkafanjfjplakaaGreatDoorMarks
namespace Go.Proofs.YtkafanjfjplakaaGreatDoor.Co
open Go.RowKit Tr
set_option linter.unusedVariables false

/-- Values that are an answer's own. -/
def OV (w : World) (base : Nat) (v : Value) (l : List Val) : Prop := w.ownsRow base 43 3 v l.length (flat l)
/-- Values that can be read. -/
def RV (w : World) (v : Value) (l : List Val) : Prop := ∃ p cap, v = .slice p l.length cap ∧ (l = [] ∨ ∃ g, p = some ⟨g, 0, none⟩ ∧ ReadV w g l)
theorem OV.rv {w : World} {base : Nat} {v : Value} {l : List Val} (h : OV w base v l) : RV w v l := by
  have h' := h
  obtain ⟨_, h2⟩ := h
  rcases h2 with ⟨h2, h3⟩ | ⟨g, cap, cur, hv, _⟩
  · have h4 := List.length_eq_zero_iff.1 h3
    subst h4
    exact ⟨none, 0, h2, .inl rfl⟩
  · subst hv
    exact ⟨_, cap, rfl, .inr ⟨g, rfl, ReadV.of_own h'⟩⟩
theorem RV.next {w w' : World} {v : Value} {l : List Val} (h : RV w v l) (hb : Below w.heap.size w w') : RV w' v l := by
  obtain ⟨p, cap, e, h⟩ := h
  rcases h with h | ⟨g, hp, h⟩
  · exact ⟨p, cap, e, .inl h⟩
  · exact ⟨p, cap, e, .inr ⟨g, hp, h.next hb⟩⟩
/-- Values that lie in blocks below a number can still be read where only later blocks have changed. -/
def RVB (w : World) (B : Nat) (v : Value) (l : List Val) : Prop := ∃ p cap, v = .slice p l.length cap ∧ (l = [] ∨ ∃ g, p = some ⟨g, 0, none⟩ ∧ g < B ∧ ReadV w g l)
theorem OV.rvb {w : World} {base : Nat} {v : Value} {l : List Val} (h : OV w base v l) : RVB w w.heap.size v l := by
  have hlt := World.ownsRow.lt h
  obtain ⟨p, cap, e, h⟩ := h.rv
  rcases h with h | ⟨g, hp, h⟩
  · exact ⟨p, cap, e, .inl h⟩
  · exact ⟨p, cap, e, .inr ⟨g, hp, h.lt, h⟩⟩
theorem RVB.step {w w' : World} {B : Nat} {v : Value} {l : List Val} (h : RVB w B v l) (hb : Below B w w') : RVB w' B v l := by
  obtain ⟨p, cap, e, h⟩ := h
  rcases h with h | ⟨g, hp, hg, h⟩
  · exact ⟨p, cap, e, .inl h⟩
  · exact ⟨p, cap, e, .inr ⟨g, hp, hg, h.step hb hg⟩⟩
theorem RVB.rv {w : World} {B : Nat} {v : Value} {l : List Val} (h : RVB w B v l) : RV w v l := by
  obtain ⟨p, cap, e, h⟩ := h
  rcases h with h | ⟨g, hp, _, h⟩
  · exact ⟨p, cap, e, .inl h⟩
  · exact ⟨p, cap, e, .inr ⟨g, hp, h⟩⟩
theorem OV.next {w w' : World} {base : Nat} {v : Value} {l : List Val} (h : OV w base v l) (hb : Below w.heap.size w w') : OV w' base v l := owns_below h hb
theorem OV.chg {w w' : World} {base lo hi : Nat} {v : Value} {l : List Val} (h : OV w base v l) (hc : Chg lo hi w w') (hb : hi ≤ base) : OV w' base v l :=
  hc.owns h (fun g hg => .inr (Nat.le_trans hb (World.ownsRow.lt h g hg).1))

set_option maxRecDepth 4000 in
set_option maxHeartbeats 2000000 in
theorem markColl_any (n : ByteArray) (lo mid hi : Nat) (v1 v2 : Value) (chs : List Chn) (dfs : List Dfn) (w : World) (h1 : OwnChH w lo mid v1 chs) (h2 : OwnDfH w mid hi v2 dfs) (hlm : lo ≤ mid) (hmh : mid ≤ hi) (hlo : hi ≤ w.heap.size) (hcl : chs.length ≤ 1048576) (hcs : ∀ p ∈ chs, p.vs.length ≤ 1048576) (hdl : dfs.length ≤ 1048576) (hds : ∀ p ∈ dfs, p.ps.length ≤ 1048576) :
    Calls Tryz.prog 14 #[.agg #[.string n, v1, v2], .int .i64 1] w fun e w' => e = .returned (.int .i64 ((endDf (endCh 1 chs) dfs : Nat) : Int)) ∧ OwnChH w' lo mid v1 (marksCh 1 chs) ∧ OwnDfH w' mid hi v2 (marksDf (endCh 1 chs) dfs) ∧ Chg lo hi w w' := by
  have X0 := Boxed.start w (.string n) v1 v2 30
  have HC : Hid (Calls _ _ _ _ _) := markChainS_any lo mid v1 chs 1 _ (h1.next X0.bel) (by omega) (by omega) hcl hcs
  have hen := endCh_le 1 chs hcs
  have hen1 := endCh_ge 1 chs
  have hen4 : chs.length * 5242881 ≤ 1048576 * 5242881 := Nat.mul_le_mul_right _ hcl
  have H2 : Hid (OwnDfH _ _ _ _ _) := h2.next X0.bel
  have HD : Hid (∀ W : World, OwnDfH W mid hi v2 dfs → Calls _ _ _ W _) := fun W hW => markDefS_any mid hi v2 dfs (endCh 1 chs) W hW hen1 (by omega) hdl hds
  obtain ⟨E, hE⟩ : ∃ E, E = endCh 1 chs := ⟨_, rfl⟩
  rw [← hE] at HC HD hen hen1 ⊢
  have hEb : E ≤ 6000000000000 := by omega
  obtain ⟨M, hM⟩ : ∃ M, M = endDf E dfs := ⟨_, rfl⟩
  rw [← hM] at HD ⊢
  have hMb : M ≤ 17592186044416 := by
    have a1 := endDf_le E dfs hds
    have a2 : dfs.length * 2097153 ≤ 1048576 * 2097153 := Nat.mul_le_mul_right _ hdl
    omega
  clear h1 h2 hcs hds hE hen hen4 hM
  go_enter Tryz.func14, Tryz.ntmps14
  go_wp2_with fail
  refine HC.out.mono ?_
  rintro e w1 ⟨rfl, hO, hc⟩
  have hbx : Below (w.heap.size + 1) w1 w1 := Below.refl _ _
  have hsz : (w.alloc (.cells #[.string n, v1, v2] 30)).heap.size = w.heap.size + 1 := by simp
  have cells : ∀ o, w1.cell? ⟨w.heap.size, o, none⟩ = (w.alloc (.cells #[.string n, v1, v2] 30)).cell? ⟨w.heap.size, o, none⟩ := fun o => hc.cell (by rw [hsz]; omega) (.inr (by omega))
  have c2 := (cells 2).trans X0.c2
  have HO : Hid (OwnChH _ _ _ _ _) := hO
  have HB : Hid (Chg lo hi w w1) := (Chg.of_below X0.bel).trans ⟨hc.os, hc.tape, hc.output, hc.size, fun k hk ho => hc.block k hk (by omega)⟩
  have HD2 : Hid (OwnDfH _ _ _ _ _) := H2.out.chg hc (.inr (Nat.le_refl _))
  clear hO hc HC cells X0 H2 hbx hsz
  go_wp2_with fail
  refine (HD.out _ HD2.out).mono ?_
  rintro e w2 ⟨rfl, hO2, hc2⟩
  have HO2 : Hid (OwnDfH _ _ _ _ _) := hO2
  have HO1 : Hid (OwnChH _ _ _ _ _) := HO.out.chg hc2 (.inl (Nat.le_refl _))
  have HB2 : Hid (Chg lo hi w w2) := HB.out.trans ⟨hc2.os, hc2.tape, hc2.output, hc2.size, fun k hk ho => hc2.block k hk (by omega)⟩
  clear hO2 hc2 HD HD2 HO HB c2
  go_wp2_with fail
  go_ret
  exact ⟨rfl, HO1.out, HO2.out, HB2.out⟩

end Go.Proofs.YtkafanjfjplakaaGreatDoor.Co
