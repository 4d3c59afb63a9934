/- Plain: a form whose holes are filled by nothing is a text. -/
import Derived.Test.YtadlelcckalcoaaPlainFl
import Derived.Test.YtadlelcckalcoaaHoles
namespace Go.Proofs.Ytadlelcckalcoaa.pl
set_option linter.unusedVariables false
theorem fill_bare {vs : Vals} (hvs : ∀ m v, vs m = some v → v = []) : ∀ (n : Nat) (l : List UInt8), l.length ≤ n → ∀ ts, toks l = some ts → ∀ x, fillT vs ts = some x → x.length ≤ l.length ∧ ∀ c ∈ x, c ∈ l
  | n, [], _, ts, h, x, hx => by rw [toks_nil] at h; cases h; injection hx with hx; subst hx; exact ⟨Nat.le_refl _, fun c h => h⟩
  | 0, c :: r, hl, ts, h, x, hx => by simp at hl
  | n + 1, c :: r, hl, ts, h, x, hx => by
    have hl' : r.length ≤ n := by simpa using hl
    have push : ∀ (t : Tok) (m : List UInt8), m.length ≤ r.length → (∀ d ∈ m, d ∈ r) → (∀ v, valT vs t = some v → v = [] ∨ v = [c]) → (toks m).map (t :: ·) = some ts → x.length ≤ (c :: r).length ∧ ∀ d ∈ x, d ∈ c :: r := by
      intro t m hm hs ht e
      rw [Option.map_eq_some_iff] at e
      obtain ⟨us, hu, rfl⟩ := e
      rw [fillT_cons, Option.bind_eq_some_iff] at hx
      obtain ⟨v, hv, hx⟩ := hx
      rw [Option.map_eq_some_iff] at hx
      obtain ⟨y, hy, rfl⟩ := hx
      obtain ⟨h1, h2⟩ := fill_bare hvs n m (by omega) us hu y hy
      rcases ht v hv with rfl | rfl
      · exact ⟨by simp; omega, fun d hd => List.mem_cons_of_mem _ (hs d (h2 d (by simpa using hd)))⟩
      · refine ⟨by simp; omega, fun d hd => ?_⟩
        rcases List.mem_append.1 hd with hd | hd
        · rw [List.mem_singleton] at hd; rw [hd]; exact List.mem_cons_self
        · exact List.mem_cons_of_mem _ (hs d (h2 d hd))
    have one : ∀ v, valT vs (.inl c) = some v → v = [] ∨ v = [c] := fun v hv => by injection hv with hv; exact .inr hv.symm
    rw [toks] at h
    split at h
    · exact push _ r (Nat.le_refl _) (fun d hd => hd) one h
    · split at h
      · exact push _ r.tail (by simp) (fun d hd => List.mem_of_mem_tail hd) one h
      · split at h
        · cases h
        · split at h
          · exact push (.inr (upTo r)) _ (behind_len r) (fun d hd => (List.dropWhile_sublist _).subset (List.mem_of_mem_tail hd)) (fun v hv => .inl (hvs (upTo r) v hv)) h
          · cases h
theorem bare_valid {vs : Vals} (hvs : ∀ m v, vs m = some v → v = []) {s : List UInt8} {ts : List Tok} {x : List UInt8} (h : formT s = some ts) (hx : fillT vs ts = some x) : validT x = true := by
  obtain ⟨hv, hk, _⟩ := formT_parts h
  obtain ⟨h1, h2⟩ := fill_bare hvs s.length s (Nat.le_refl _) ts hk x hx
  unfold validT at hv ⊢
  simp only [Bool.and_eq_true, decide_eq_true_eq, List.all_eq_true] at hv ⊢
  exact ⟨fun c hc => hv.1 c (h2 c hc), by omega⟩

/-- fills of these names by nothing -/
def bareF (N : List ByteArray) : List Pc := N.map fun n => (n, ⟨#[]⟩)
theorem bare_look (N : List ByteArray) : ∀ m v, lookL (toFL (bareF N)) m = some v → v = [] := by
  intro m v h
  obtain ⟨p, hp, _, h2⟩ := look_mem h
  obtain ⟨q, hq, rfl⟩ := List.mem_map.1 hp
  obtain ⟨n, hn, rfl⟩ := List.mem_map.1 hq
  exact h2.symm
theorem bare_names (N : List ByteArray) : (toFL (bareF N)).map (·.1) = N.map (fun n => n.data.toList) := by
  unfold toFL bareF
  rw [List.map_map, List.map_map]; rfl
theorem bare_nth {N : List ByteArray} {i : Nat} (h : i < N.length) : nthQ (bareF N) i = (nth N i, ⟨#[]⟩) := by
  rw [nthQ_eq (by unfold bareF; simpa using h), nth_eq h]; simp [bareF]
theorem bare_vF {N : List ByteArray} (h5 : N.length ≤ 5) (hn : ∀ n ∈ N, nameB n.data.toList = true) (hd : (N.map (fun n => n.data.toList)).Nodup) : vF (bareF N) := by
  have hl : (bareF N).length = N.length := by simp [bareF]
  refine ⟨by omega, fun i hi => ?_⟩
  rw [hl] at hi
  unfold goodAt
  rw [bare_nth hi]
  refine ⟨hn _ (by rw [nth_eq hi]; exact List.getElem_mem _), rfl, ?_⟩
  rw [lookL_none_iff, show (bareF N).take i = bareF (N.take i) by simp [bareF], bare_names]
  intro hm
  obtain ⟨y, hy, he⟩ := List.mem_map.1 hm
  obtain ⟨j, hj, rfl⟩ := List.getElem_of_mem hy
  rw [List.length_take] at hj
  have := (List.pairwise_iff_getElem.1 hd) j i (by simp; omega) (by simpa using hi) (by omega)
  apply this
  rw [List.getElem_map, List.getElem_map]
  rw [List.getElem_take] at he
  show (N[j]).data.toList = (N[i]).data.toList
  rw [he, nth_eq hi]
theorem holes_data {s : ByteArray} {ts : List Tok} (h : formT s.data.toList = some ts) : (holesR s).map (fun n => n.data.toList) = holesD ts := by
  rw [holesR_yes h, List.map_map]
  have : ((fun n : ByteArray => n.data.toList) ∘ bs) = id := by funext l; exact bs_data l
  rw [this, List.map_id]
theorem holes_named {s : ByteArray} {ts : List Tok} (h : formT s.data.toList = some ts) : ∀ n ∈ holesR s, nameB n.data.toList = true := by
  intro n hn
  have h1 : n.data.toList ∈ holesD ts := by rw [← holes_data h]; exact List.mem_map.2 ⟨n, hn, rfl⟩
  unfold holesD at h1
  rcases (ded_mem _ _ _).1 h1 with h2 | h2
  · cases h2
  · unfold holesT at h2
    obtain ⟨t, ht, he⟩ := List.mem_filterMap.1 h2
    obtain ⟨_, hk, _⟩ := formT_parts h
    have hnm := (toks_named s.data.toList.length _ (Nat.le_refl _) ts hk).1
    cases t with
    | inl c => cases he
    | inr m => injection he with he; subst he; exact hnm _ ht
theorem holes_nodup {s : ByteArray} {ts : List Tok} (h : formT s.data.toList = some ts) : ((holesR s).map (fun n => n.data.toList)).Nodup := by
  rw [holes_data h]; exact ded_nodup _ _ List.nodup_nil
theorem holes_ne {s : ByteArray} {ts : List Tok} (h : formT s.data.toList = some ts) {i j : Nat} (hj : j < i) (hi : i < (holesR s).length) : ¬ nth (holesR s) j = nth (holesR s) i := by
  intro e
  have := (List.pairwise_iff_getElem.1 (holes_nodup h)) j i (by simp; omega) (by simpa using hi) hj
  apply this
  rw [List.getElem_map, List.getElem_map]
  rw [nth_eq (by omega), nth_eq hi] at e
  rw [e]
theorem holes_fill {s : ByteArray} {ts : List Tok} (h : formT s.data.toList = some ts) : ∃ x, FillIs s (bareF (holesR s)) (some x) := by
  have hs := fillT_isSome (vs := lookL (toFL (bareF (holesR s)))) (ts := ts) (fun n hn => by
    rw [lookL_some_iff, bare_names, holes_data h]
    unfold holesD
    exact (ded_mem _ _ _).2 (.inr hn))
  obtain ⟨x, hx⟩ := Option.isSome_iff_exists.1 hs
  exact ⟨x, .inr ⟨bare_vF (holesR_len s) (holes_named h) (holes_nodup h), ts, h, .inr ⟨x, hx, .inl ⟨bare_valid (bare_look _) h hx, rfl⟩⟩⟩⟩
end Go.Proofs.Ytadlelcckalcoaa.pl
