/- What MatchForm answers. -/
import Derived.Test.YtadlelcckalcoaaPlainFt
namespace Go.Proofs.Ytadlelcckalcoaa.pl
set_option linter.unusedVariables false

def toPc (gs : FL) : List Pc := gs.map fun p => (bs p.1, bs p.2)
theorem toPc_len (gs : FL) : (toPc gs).length = gs.length := by simp [toPc]
theorem toFL_toPc (gs : FL) : toFL (toPc gs) = gs := by
  unfold toFL toPc
  rw [List.map_map]
  have : ((fun p : Pc => (p.1.data.toList, p.2.data.toList)) ∘ fun p : Nm × List UInt8 => (bs p.1, bs p.2)) = id := by funext p; rfl
  rw [this, List.map_id]
theorem toPc_toFL (fl : List Pc) : toPc (toFL fl) = fl := by
  unfold toFL toPc
  rw [List.map_map]
  have : ((fun p : Nm × List UInt8 => (bs p.1, bs p.2)) ∘ fun p : Pc => (p.1.data.toList, p.2.data.toList)) = id := by
    funext p
    show (bs p.1.data.toList, bs p.2.data.toList) = p
    rw [bs_self, bs_self]
  rw [this, List.map_id]
def matchR (s t : ByteArray) : Option (List Pc) :=
  (formT s.data.toList).bind fun ts => if (holesT ts).length ≤ 3 ∧ validT t.data.toList = true then (matchT ts [] t.data.toList).map toPc else none
def matchG (s t : ByteArray) : Bool := (matchR s t).isSome
def matchD (s t : ByteArray) : List Pc := (matchR s t).getD []
theorem matchR_no {s t : ByteArray} (h : formT s.data.toList = none) : matchR s t = none := by unfold matchR; rw [h]; rfl
theorem matchR_bad {s t : ByteArray} {ts : List Tok} (h : formT s.data.toList = some ts) (hb : ¬ ((holesT ts).length ≤ 3 ∧ validT t.data.toList = true)) : matchR s t = none := by
  unfold matchR; rw [h]; exact if_neg hb
theorem matchR_ok {s t : ByteArray} {ts : List Tok} (h : formT s.data.toList = some ts) (h1 : (holesT ts).length ≤ 3) (h2 : validT t.data.toList = true) : matchR s t = (matchT ts [] t.data.toList).map toPc := by
  unfold matchR; rw [h]; exact if_pos ⟨h1, h2⟩
theorem match_none {s t : ByteArray} (h : matchR s t = none) : matchD s t = [] ∧ matchG s t = false := by unfold matchD matchG; rw [h]; exact ⟨rfl, rfl⟩
theorem match_yes {s t : ByteArray} {gs : List Pc} (h : matchR s t = some gs) : matchD s t = gs ∧ matchG s t = true := by unfold matchD matchG; rw [h]; exact ⟨rfl, rfl⟩
theorem look_at : ∀ (gs : FL) (k : Nat) (hk : k < gs.length), (gs.map (·.1)).Nodup → lookL gs (gs[k]).1 = some (gs[k]).2
  | [], k, hk, _ => by simp at hk
  | (m, v) :: gs, 0, _, _ => by
    show lookL ((m, v) :: gs) m = some v
    unfold lookL; rw [List.find?_cons]; simp
  | (m, v) :: gs, k + 1, hk, hd => by
    have hk2 : k < gs.length := by simpa using hk
    rw [List.map_cons, List.nodup_cons] at hd
    have ih := look_at gs k hk2 hd.2
    show lookL ((m, v) :: gs) (gs[k]).1 = some (gs[k]).2
    rw [← ih]
    have hne : (m == (gs[k]).1) = false := by
      rw [beq_eq_false_iff_ne]
      intro e
      exact hd.1 (by rw [e]; exact List.mem_map.2 ⟨gs[k], List.getElem_mem hk2, rfl⟩)
    unfold lookL
    rw [List.find?_cons]
    simp only [hne]
/-- what a match's fills are, one by one -/
theorem match_at {ts : List Tok} {gs : FL} {t : List UInt8} (h : matchT ts [] t = some gs) : gs.length = (holesD ts).length ∧ ∀ k, k < gs.length → (toPc gs)[k]? = some ((nth ((holesD ts).map bs) k), (nthQ (toPc gs) k).2) ∧ lookL gs (nth ((holesD ts).map bs) k).data.toList = some (nthQ (toPc gs) k).2.data.toList := by
  have T := matchT_told h
  have hn : gs.map (·.1) = holesD ts := T.names
  have hl : gs.length = (holesD ts).length := by rw [← hn, List.length_map]
  refine ⟨hl, fun k hk => ?_⟩
  have hk2 : k < (toPc gs).length := by rw [toPc_len]; exact hk
  have hk3 : k < ((holesD ts).map bs).length := by rw [List.length_map, ← hl]; exact hk
  have e1 : nth ((holesD ts).map bs) k = bs (gs[k]).1 := by
    rw [nth_eq hk3, List.getElem_map]
    congr 1
    have : (gs.map (·.1))[k]'(by rw [List.length_map]; exact hk) = (gs[k]).1 := by rw [List.getElem_map]
    rw [← this]
    simp only [hn]
  have e2 : nthQ (toPc gs) k = (bs (gs[k]).1, bs (gs[k]).2) := by
    rw [nthQ_eq hk2]; simp [toPc]
  refine ⟨?_, ?_⟩
  · rw [List.getElem?_eq_getElem hk2, e1, e2]
    simp [toPc]
  · rw [e1, e2]
    show lookL gs (gs[k]).1 = some (gs[k]).2
    have hnd : (gs.map (·.1)).Nodup := by rw [hn]; exact ded_nodup _ _ List.nodup_nil
    exact look_at gs k hk hnd
end Go.Proofs.Ytadlelcckalcoaa.pl
