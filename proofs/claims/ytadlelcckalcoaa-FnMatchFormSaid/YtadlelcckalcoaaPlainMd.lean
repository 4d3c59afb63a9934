/- What a match gives fills the form to the text. -/
import Derived.Test.YtadlelcckalcoaaPlainMa
namespace Go.Proofs.Ytadlelcckalcoaa.pl
set_option linter.unusedVariables false

theorem valid_sub {l t : List UInt8} (h : validT t = true) (hs : l.Sublist t) : validT l = true := by
  unfold validT at h ⊢
  rw [Bool.and_eq_true] at h ⊢
  refine ⟨List.all_eq_true.2 fun c hc => List.all_eq_true.1 h.1 c (hs.subset hc), decide_eq_true ?_⟩
  have := of_decide_eq_true h.2
  have := hs.length_le
  omega
theorem matchR_parts {s t : ByteArray} {fl : List Pc} (h : matchR s t = some fl) : ∃ ts gs, formT s.data.toList = some ts ∧ (holesT ts).length ≤ 3 ∧ validT t.data.toList = true ∧ matchT ts [] t.data.toList = some gs ∧ fl = toPc gs := by
  unfold matchR at h
  obtain ⟨ts, h1, h2⟩ := Option.bind_eq_some_iff.1 h
  split at h2
  · rename_i hc
    obtain ⟨gs, h3, h4⟩ := Option.map_eq_some_iff.1 h2
    exact ⟨ts, gs, h1, hc.1, hc.2, h3, h4.symm⟩
  · cases h2
theorem match_fill {s t : ByteArray} {fl : List Pc} (h : matchR s t = some fl) : FillIs s fl (some t.data.toList) ∧ fl.length = (holesR s).length ∧ fl.length ≤ 3 := by
  obtain ⟨ts, gs, h1, h3, hv, hm, rfl⟩ := matchR_parts h
  have T := matchT_told hm
  have hn : gs.map (·.1) = holesD ts := T.names
  obtain ⟨hl, hat⟩ := match_at hm
  have hd3 : (holesD ts).length ≤ 3 := by
    have := ded_len (holesT ts) []
    unfold holesD
    simp at this; omega
  have hnd : (gs.map (·.1)).Nodup := by rw [hn]; exact ded_nodup _ _ List.nodup_nil
  have hR : holesR s = (holesD ts).map bs := holesR_yes h1
  have hvF : vF (toPc gs) := by
    refine ⟨by rw [toPc_len, hl]; omega, fun i hi => ?_⟩
    rw [toPc_len] at hi
    have hi2 : i < (toPc gs).length := by rw [toPc_len]; exact hi
    obtain ⟨a1, a2⟩ := hat i hi
    have e1 : (nthQ (toPc gs) i).1 = nth ((holesD ts).map bs) i := by
      rw [nthQ_eq hi2]
      rw [List.getElem?_eq_getElem hi2] at a1
      injection a1 with a1
      rw [a1]
    have e3 : nthQ (toPc gs) i = (bs (gs[i]).1, bs (gs[i]).2) := by rw [nthQ_eq hi2]; simp [toPc]
    refine ⟨?_, ?_, ?_⟩
    · rw [e1]
      refine holes_named h1 _ ?_
      rw [hR, nth_eq (by rw [List.length_map, ← hl]; exact hi)]
      exact List.getElem_mem _
    · rw [e3]
      show validT (gs[i]).2 = true
      rcases T.parts _ (List.getElem_mem hi) with hp | hp
      · cases hp
      · exact valid_sub hv hp
    · rw [lookL_none_iff]
      have ht : toFL ((toPc gs).take i) = gs.take i := by
        have := toFL_toPc (gs.take i)
        rw [← this]
        congr 1
        unfold toPc; rw [List.map_take]
      rw [ht, e3]
      show ¬ (gs[i]).1 ∈ (gs.take i).map (·.1)
      intro hc
      rw [List.map_take] at hc
      obtain ⟨j, hj, he⟩ := List.getElem_of_mem hc
      rw [List.length_take, List.length_map] at hj
      rw [List.getElem_take] at he
      have := (List.pairwise_iff_getElem.1 hnd) j i (by rw [List.length_map]; omega) (by rw [List.length_map]; exact hi) (by omega)
      apply this
      rw [he, List.getElem_map]
  refine ⟨.inr ⟨hvF, ts, h1, .inr ⟨t.data.toList, ?_, .inl ⟨hv, rfl⟩⟩⟩, by rw [hR, List.length_map, toPc_len, hl], by rw [toPc_len, hl]; omega⟩
  rw [toFL_toPc]; exact T.fills
theorem match_sizes {s : ByteArray} {fl : List Pc} {x : List UInt8} (h : FillIs s fl (some x)) : ∀ i, i < fl.length → (nthQ fl i).1.size ≤ 1048576 ∧ (nthQ fl i).2.size ≤ 1048576 := by
  have hv : vF fl := by
    rcases h with ⟨h, _⟩ | ⟨h, _⟩
    · cases h
    · exact h
  intro i hi
  obtain ⟨h1, h2, _⟩ := hv.2 i hi
  have h3 := (nameB_parts h1).2.1
  have h4 := validT_size h2
  rw [len_eq] at h3
  exact ⟨by omega, by omega⟩
end Go.Proofs.Ytadlelcckalcoaa.pl
