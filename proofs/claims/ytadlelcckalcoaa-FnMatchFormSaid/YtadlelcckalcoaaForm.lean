/- Contracts: names of holes, and pieces of forms. -/
import Derived.Test.YtadlelcckalcoaaPlainFp
import Derived.Test.YtadlelcckalcoaaLett
import Derived.Test.YtadlelcckalcoaaShelfF
import Derived.Test.YtadlelcckalcoaaQuot
import Derived.Test.YtadlelcckalcoaaValid
import Derived.Test.YtadlelcckalcoaaEq
import Derived.BigQuiet
namespace Go.Proofs.Ytadlelcckalcoaa
open Go.RowKit
set_option maxRecDepth 100000
set_option linter.unusedVariables false

set_option maxHeartbeats 1000000 in
theorem sisName_any (s : ByteArray) (w : World) (hs : s.size ≤ maxLen) :
    Calls Try.prog 86 #[.string s] w fun e w' => e = .returned (.bool (pl.nameB s.data.toList)) ∧ w = w' := by
  unfold maxLen at hs
  go_enter Try.func86, Try.ntmps86
  go_wp2
  go_loop [3] (fun i => ∃ k : Nat, k ≤ s.size ∧ i = .int .i64 k ∧ pl.nameTo s k) (fun i => s.size - (intOf i).toNat)
  case atStart => exact ⟨0, Nat.zero_le _, rfl, pl.nameTo_zero s⟩
  case round =>
    obtain ⟨k, hk, rfl, hall⟩ := hrel
    by_cases hlt : k < s.size
    · cases hp : pl.nameC s[k] with
      | true =>
        obtain ⟨h1, h2⟩ := pl.nameC_lt hp
        have g1 : ¬ (s[k].toNat : Int) < 97 := by omega
        have g2 : ¬ 122 < (s[k].toNat : Int) := by omega
        have hnext := Lib.hid (pl.nameTo_succ hall hlt hp)
        clear hall hp
        go_wp2
        go_round
        case rel => exact ⟨k + 1, by omega, by go_num, hnext.out⟩
        case measure => simp [intOf]; omega
      | false =>
        have hb := Lib.hid (pl.nameB_bad hlt hp)
        have hc := pl.nameC_no hp
        clear hall hp
        by_cases g : s[k].toNat < 97
        · have g1 : (s[k].toNat : Int) < 97 := by omega
          go_wp2
          go_ret
          exact ⟨ret_b hb.out.symm, rfl⟩
        · have g1 : ¬ (s[k].toNat : Int) < 97 := by omega
          have g2 : 122 < (s[k].toNat : Int) := by omega
          go_wp2
          go_ret
          exact ⟨ret_b hb.out.symm, rfl⟩
    · obtain rfl : k = s.size := by omega
      have hb := Lib.hid (pl.nameB_all hall)
      clear hall
      go_wp2_with (go_at_call 50; refine (inRange_any _ _ _ _).mono ?_; rintro e w' ⟨rfl, rfl⟩)
      go_ret
      exact ⟨ret_b hb.out.symm, rfl⟩

theorem iisName_any (s : ByteArray) (w : World) (hs : s.size ≤ maxLen) :
    Calls Try.prog 99 #[.string s] w fun e w' => e = .returned (.bool (pl.nameB s.data.toList)) ∧ Below w.heap.size w w' := by
  have hs' := hs
  unfold maxLen at hs'
  go_enter Try.func99, Try.ntmps99
  go_wp2_with fail
  refine (areLetters_any s _ 8 rfl (by omega) _ hs).mono ?_
  rintro e w' ⟨rfl, hb⟩
  go_wp2_with fail
  go_ret
  exact ⟨ret_b (pl.lettersB_name s), hb⟩

theorem isHole_any (n p : ByteArray) (w : World) :
    Calls Try.prog 83 #[.agg #[.string n, .string p]] w fun e w' => e = .returned (.bool (decide (¬ n.size = 0))) ∧ Below w.heap.size w w' := by
  by_cases h0 : n.size = 0
  · have he := pl.empty_of h0
    have hd : Hid (decide (¬ n.size = 0) = false) := Lib.hid (decide_eq_false (by omega))
    clear h0
    go_enter Try.func83, Try.ntmps83
    go_wp2
    go_ret
    exact ⟨by rw [hd.out]; rfl, (Below.refl _ _).alloc (Nat.le_refl _) _⟩
  · have he := pl.nonempty_of h0
    have hd : Hid (decide (¬ n.size = 0) = true) := Lib.hid (decide_eq_true h0)
    clear h0
    go_enter Try.func83, Try.ntmps83
    go_wp2
    go_ret
    exact ⟨by rw [hd.out]; rfl, (Below.refl _ _).alloc (Nat.le_refl _) _⟩

theorem ascii_br : ∀ (j : Nat) (b : UInt8), (⟨#[123, 125]⟩ : ByteArray).data.toList[j]? = some b → b.toNat < 128 := by
  intro j b hb
  have hm := List.mem_of_getElem? hb
  have h2 : b = 123 ∨ b = 125 := by simpa using hm
  rcases h2 with rfl | rfl <;> decide

theorem results_cell2 {P : Program} {fn : Func} {p u v : Tmp} {ty : TypeId} (h : fn.results = #[.cell p ty, .tmp u, .tmp v]) (tmps : Array Value) (w : World) (g : Nat) (t : TypeId) (cs : Array Value) (fr : Nat × Nat) (d : TypeDesc)
    (hp : tmps.getD p undef = .pointer (some ⟨g, 0, none⟩)) (hg : w.heap[g]? = some (.cells cs t fr))
    (hu : P.underlying ty = some d) (hd : (match d with | .struct _ | .array _ _ => true | _ => false) = true) (hi : (P.info? ty).map (·.size) = some cs.size) :
    (results fn tmps).run P w = .ok (.tuple #[.agg cs, tmps.getD u undef, tmps.getD v undef]) w := by
  have hp' : tmps[p]?.getD undef = .pointer (some ⟨g, 0, none⟩) := by simpa using hp
  simp [results, h, hp', asAddr, run_loadVar_row w g t ty cs fr d hg hu hd hi]
theorem set2_heap {w : World} {g : Nat} {T : TypeId} {x y : Value} (a b : Value) (h : w.heap[g]? = some (.cells #[x, y] T (0, 0))) :
    ((w.setCell ⟨g, 0, none⟩ a).setCell ⟨g, 1, none⟩ b).heap[g]? = some (.cells #[a, b] T (0, 0)) := by
  simp [World.setCell, Array.getElem?_modify, h]

theorem hasPre_q (x y : ByteArray) (b : Bool) (h : Lib.hasPrefix x.data.toList y.data.toList = b) (w : World) (n : Nat) :
    Calls Try.prog 97 #[.string x, .string y] (w.drewN n) fun e w'' => e = .returned (.bool b) ∧ ∃ m, w'' = w.drewN m :=
  (Try.strings_HasPrefix x y _).mono fun e w' ⟨h1, h2⟩ => ⟨by rw [h1, h], n, h2⟩
theorem cutS_any (x : ByteArray) (r : List UInt8) (hx : x.data.toList = r) (hs : x.size ≤ 1000) (w : World) (hm : MaxI w) :
    Calls Try.prog 98 #[.string x, .string ⟨#[125]⟩] w fun e w' => e = .returned (.tuple #[.string (pl.bs (Lib.cut r [125]).1), .string (pl.bs (Lib.cut r [125]).2.1), .bool (Lib.cut r [125]).2.2]) ∧ Below w.heap.size w w' := by
  obtain ⟨_, m, hm⟩ := hm
  subst hx
  refine (Try.strings_Cut x ⟨#[125]⟩ m w (by omega) hm).mono ?_
  rintro e w' ⟨rfl, n, rfl⟩
  exact ⟨rfl, below_drewN⟩

def CutPost (s : ByteArray) (w : World) (e : Ending) (w' : World) : Prop :=
  Below w.heap.size w w' ∧ ((∃ n p r, e = .returned (.tuple #[.agg #[.string n, .string p], .string r, .nilIface]) ∧ pl.CutOk s n p r) ∨ (∃ m, e = .returned (.tuple #[.agg #[.string ⟨#[]⟩, .string ⟨#[]⟩], .string ⟨#[]⟩, .iface 119 (.string m)]) ∧ pl.toks s.data.toList = none))

set_option maxHeartbeats 4000000 in
theorem cutPiece_any (s : ByteArray) (w : World) (hv : pl.validT s.data.toList = true) (h0 : ¬ s.size = 0) (hm : MaxI w) :
    Calls Try.prog 82 #[.string s] w (CutPost s w) := by
  have hinfo : (Try.prog.info? 97).map (·.size) = some 2 := by kernel_rfl
  have HINF := Lib.hid hinfo
  have HM := Lib.hid hm
  have HV := Lib.hid hv
  clear hinfo
  have h120 := pl.validT_size hv
  clear hm hv
  have hAA := heap_alloc_new w (.cells #[.string ⟨#[]⟩, .string ⟨#[]⟩] 97)
  have hb0 : Below w.heap.size w (w.alloc (.cells #[.string ⟨#[]⟩, .string ⟨#[]⟩] 97)) := (Below.refl _ _).alloc (Nat.le_refl _) _
  go_enter Try.func82, Try.ntmps82
  go_wp2_with fail
  refine (Try.strings_IndexAny_laid s ⟨#[123, 125]⟩ _ (by omega) (by decide) (ascii_of HV.out) ascii_br).mono ?_
  rintro e w1 ⟨rfl, hb1⟩
  have hB1 : Below w.heap.size w w1 := hb0.trans (hb1.mono hb0.size)
  have HB1 := Lib.hid hB1
  have hG : w.heap.size < (w.alloc (.cells #[.string ⟨#[]⟩, .string ⟨#[]⟩] 97)).heap.size := by simp
  have hc0 : w1.cell? ⟨w.heap.size, 0, none⟩ = some (.string ⟨#[]⟩) := (hb1.cell (p := ⟨w.heap.size, 0, none⟩) hG).trans (by simp)
  have hc1 : w1.cell? ⟨w.heap.size, 1, none⟩ = some (.string ⟨#[]⟩) := (hb1.cell (p := ⟨w.heap.size, 1, none⟩) hG).trans (by simp)
  have hk : w1.heap[w.heap.size]? = some (.cells #[.string ⟨#[]⟩, .string ⟨#[]⟩] 97 (0, 0)) := (hb1.block _ hG).trans hAA
  have hf0 : w1.frozen? ⟨w.heap.size, 0, none⟩ = false := by simp [World.frozen?, hk]
  have hf1 : w1.frozen? ⟨w.heap.size, 1, none⟩ = false := by simp [World.frozen?, hk]
  have HK := Lib.hid hk
  clear hb0 hb1 hAA hG hk
  have hidx : Lib.indexAny s.data.toList (⟨#[123, 125]⟩ : ByteArray).data.toList = Lib.indexAny s.data.toList [123, 125] := rfl
  rw [hidx]
  rcases pl.indexAny_br s.data.toList with ⟨h1, h2⟩ | ⟨q, c, r, h1, h2, h3, h4⟩
  · have HE := Lib.hid (pl.cut_all h0 h2)
    rw [h1]
    clear h1 h2 hidx hB1
    go_wp2_with fail
    try simp only [Exit.inBlock, Exit.then]
    refine bodyPost_ret (v := .tuple #[.agg #[.string ⟨#[]⟩, .string s], .string ⟨#[]⟩, .nilIface]) ?_ rfl ⟨(HB1.out.setCell (Nat.le_refl _) _).setCell (Nat.le_refl _) _, .inl ⟨_, _, _, rfl, HE.out⟩⟩
    exact results_cell2 (p := 2) (u := 3) (v := 4) rfl _ _ w.heap.size _ _ _ _ rfl (set2_heap _ _ HK.out) Try.underlying97 rfl HINF.out
  · have hqs : q.length < s.size := by have := congrArg List.length h1; rw [pl.len_eq] at this; simp at this; omega
    rw [h2]
    clear h2 hidx hB1
    by_cases hq : 0 < q.length
    · have HE := Lib.hid (pl.cut_run h1 hq h3)
      obtain ⟨n, hn⟩ : ∃ n, q.length = n := ⟨_, rfl⟩
      rw [hn] at HE hqs hq ⊢
      have hi0 : (0 : Int) < (n : Int) := by omega
      have hi1 : ¬ (n : Int) < 0 := by omega
      have hi2 : (n : Int) ≤ (s.size : Int) := by omega
      clear h1 h3 h4 hn
      go_wp2_with fail
      go_region
      all_goals
        go_wp2_with fail
        try simp only [Exit.inBlock, Exit.then]
        refine bodyPost_ret (v := .tuple #[.agg #[.string ⟨#[]⟩, .string (s.extract 0 n)], .string (s.extract n s.size), .nilIface]) ?_ rfl ⟨((HB1.out.setCell (Nat.le_refl _) _).setCell (Nat.le_refl _) _).drew, .inl ⟨_, _, _, rfl, HE.out⟩⟩
        exact results_cell2 (p := 2) (u := 3) (v := 4) rfl _ _ w.heap.size _ _ _ _ rfl (set2_heap _ _ HK.out) Try.underlying97 rfl HINF.out
    · obtain rfl : q = [] := List.length_eq_zero_iff.1 (by omega)
      rw [List.nil_append] at h1
      obtain ⟨h00, hs0, hxr, hx0, hl⟩ := pl.head_of h1
      have HL := Lib.hid hl
      have hrl : r.length ≤ 120 := by omega
      clear hl
      have HX := Lib.hid hxr
      have hpre : Lib.hasPrefix (s.extract 1 s.size).data.toList (s.extract 0 1).data.toList = decide (r.head? = some c) := by rw [hxr, hx0]; exact pl.pre_one r c
      have HPRE := Lib.hid hpre
      have H1 := Lib.hid h1
      have H4 := Lib.hid h4
      have hi2 : (1 : Int) ≤ (s.size : Int) := by omega
      have hn1 : 1 ≤ s.size := by omega
      have hn2 : ¬ s.size < 1 := by omega
      have hn3 : ¬ (s.size : Int) < 1 := by omega
      have hn4 : (0 : Int) < (s.size : Int) := by omega
      have hex : (s.extract 1 s.size).size ≤ 120 := by rw [ByteArray.size_extract]; omega
      have hex2 : (s.extract 0 1).size ≤ 1 := by rw [ByteArray.size_extract]; omega
      clear hq hqs h3 hpre hxr hx0 h1
      by_cases hh : r.head? = some c
      · obtain ⟨r2, hr2⟩ : ∃ r2, r = c :: r2 := by
          cases r with
          | nil => cases hh
          | cons d r2 => simp at hh; subst hh; exact ⟨r2, rfl⟩
        have hd : decide (r.head? = some c) = true := decide_eq_true hh
        rw [hd] at HPRE
        have HE := Lib.hid (pl.cut_two (s := s) (c := c) (r := r2) (by rw [H1.out, hr2]) h4)
        have hi3 : (2 : Int) ≤ (s.size : Int) := by have := HL.out; rw [hr2] at this; simp at this; omega
        clear hh hd hr2 h4
        go_wp2_with fail
        go_quiet ((go_at_call 97; exact hasPre_q _ _ true HPRE.out _ _))
        have HBq : Hid (Below w.heap.size w (w1.drewN nq)) := Lib.hid (HB1.out.trans below_drewN)
        have HKq : Hid ((w1.drewN nq).heap[w.heap.size]? = some (.cells #[.string ⟨#[]⟩, .string ⟨#[]⟩] 97 (0, 0))) := Lib.hid HK.out
        have hc0q : (w1.drewN nq).cell? ⟨w.heap.size, 0, none⟩ = some (.string ⟨#[]⟩) := hc0
        have hc1q : (w1.drewN nq).cell? ⟨w.heap.size, 1, none⟩ = some (.string ⟨#[]⟩) := hc1
        have hf0q : (w1.drewN nq).frozen? ⟨w.heap.size, 0, none⟩ = false := hf0
        have hf1q : (w1.drewN nq).frozen? ⟨w.heap.size, 1, none⟩ = false := hf1
        obtain ⟨wq, HWQ⟩ : ∃ wq, Hid (w1.drewN nq = wq) := ⟨_, Lib.hid rfl⟩
        rw [HWQ.out] at HBq HKq hc0q hc1q hf0q hf1q ⊢
        go_wp2_with fail
        go_region
        all_goals
          go_wp2_with fail
          try simp only [Exit.inBlock, Exit.then]
          refine bodyPost_ret (v := .tuple #[.agg #[.string ⟨#[]⟩, .string (s.extract 0 1)], .string (s.extract 2 s.size), .nilIface]) ?_ rfl ⟨((HBq.out.setCell (Nat.le_refl _) _).setCell (Nat.le_refl _) _).drew, .inl ⟨_, _, _, rfl, HE.out⟩⟩
          exact results_cell2 (p := 2) (u := 3) (v := 4) rfl _ _ w.heap.size _ _ _ _ rfl (set2_heap _ _ HKq.out) Try.underlying97 rfl HINF.out
      · have hd : decide (r.head? = some c) = false := decide_eq_false hh
        rw [hd] at HPRE
        have HH := Lib.hid hh
        clear hd hh h4
        go_wp2_with fail
        go_quiet ((go_at_call 97; exact hasPre_q _ _ false HPRE.out _ _))
        have HBq : Hid (Below w.heap.size w (w1.drewN nq)) := Lib.hid (HB1.out.trans below_drewN)
        have hBq : Below w1.heap.size w1 (w1.drewN nq) := below_drewN
        have hG : w.heap.size < w1.heap.size := (Array.getElem?_eq_some_iff.1 HK.out).1
        have HKq : Hid ((w1.drewN nq).heap[w.heap.size]? = some (.cells #[.string ⟨#[]⟩, .string ⟨#[]⟩] 97 (0, 0))) := Lib.hid HK.out
        have hGq : w.heap.size < (w1.drewN nq).heap.size := hG
        obtain ⟨wq, HWQ⟩ : ∃ wq, Hid (w1.drewN nq = wq) := ⟨_, Lib.hid rfl⟩
        rw [HWQ.out] at HBq HKq hGq ⊢
        clear hc0 hc1 hf0 hf1 hBq hG
        go_wp2_with fail
        refine (cutS_any _ r HX.out (by omega) _ (HM.out.below (Nat.le_refl _) HBq.out)).mono ?_
        rintro e w2 ⟨rfl, hb2⟩
        have HB2 := Lib.hid (HBq.out.trans (hb2.mono HBq.out.size))
        have HK2 := Lib.hid ((hb2.block _ hGq).trans HKq.out)
        have hG2 : w.heap.size < w2.heap.size := Nat.lt_of_lt_of_le hGq hb2.size
        clear hb2 hGq
        cases hct : r.contains 125 with
        | false =>
          rw [pl.cut_no hct]
          have HCT := Lib.hid hct
          clear hct
          have hk2 := HK2.out
          have hc0 : w2.cell? ⟨w.heap.size, 0, none⟩ = some (.string ⟨#[]⟩) := by simp [World.cell?, hk2]
          have hc1 : w2.cell? ⟨w.heap.size, 1, none⟩ = some (.string ⟨#[]⟩) := by simp [World.cell?, hk2]
          have hf0 : w2.frozen? ⟨w.heap.size, 0, none⟩ = false := by simp [World.frozen?, hk2]
          have hf1 : w2.frozen? ⟨w.heap.size, 1, none⟩ = false := by simp [World.frozen?, hk2]
          have HE : Hid (pl.toks s.data.toList = none) := Lib.hid (by
            rw [H1.out]
            have hc := H4.out
            unfold pl.isBr at hc
            rw [Bool.or_eq_true, beq_iff_eq, beq_iff_eq] at hc
            rcases hc with rfl | rfl
            · exact pl.toks_bad' HH.out (.inl HCT.out)
            · exact pl.toks_close HH.out)
          have HB3 := HB2
          have HK3 := HK2
          by_cases hc : c = 125
          · have g1 : (s[0].toNat : Int) = 125 := by rw [hs0, hc]; rfl
            clear hk2 hc hs0
            go_wp2_with fail
            try simp only [Exit.inBlock, Exit.then]
            refine bodyPost_ret (v := .tuple #[.agg #[.string ⟨#[]⟩, .string ⟨#[]⟩], .string ⟨#[]⟩, .iface 119 (.string ⟨#[97, 32, 98, 114, 97, 99, 107, 101, 116, 32, 115, 116, 97, 110, 100, 115, 32, 97, 108, 111, 110, 101]⟩)]) ?_ rfl ⟨(HB3.out.setCell (Nat.le_refl _) _).setCell (Nat.le_refl _) _, .inr ⟨_, rfl, HE.out⟩⟩
            exact results_cell2 (p := 2) (u := 3) (v := 4) rfl _ _ w.heap.size _ _ _ _ rfl (set2_heap _ _ HK3.out) Try.underlying97 rfl HINF.out
          · have g1 : ¬ (s[0].toNat : Int) = 125 := by rw [hs0]; exact pl.byte_neN hc rfl
            clear hk2 hc hs0
            go_wp2_with fail
            try simp only [Exit.inBlock, Exit.then]
            refine bodyPost_ret (v := .tuple #[.agg #[.string ⟨#[]⟩, .string ⟨#[]⟩], .string ⟨#[]⟩, .iface 119 (.string ⟨#[97, 32, 98, 114, 97, 99, 107, 101, 116, 32, 115, 116, 97, 110, 100, 115, 32, 97, 108, 111, 110, 101]⟩)]) ?_ rfl ⟨(HB3.out.setCell (Nat.le_refl _) _).setCell (Nat.le_refl _) _, .inr ⟨_, rfl, HE.out⟩⟩
            exact results_cell2 (p := 2) (u := 3) (v := 4) rfl _ _ w.heap.size _ _ _ _ rfl (set2_heap _ _ HK3.out) Try.underlying97 rfl HINF.out
        | true =>
          rw [pl.cut_yes hct]
          have HCT := Lib.hid hct
          clear hct
          by_cases hc : c = 125
          · have g1 : (s[0].toNat : Int) = 125 := by rw [hs0, hc]; rfl
            have HE : Hid (pl.toks s.data.toList = none) := Lib.hid (by rw [H1.out]; subst hc; exact pl.toks_close HH.out)
            have hk2 := HK2.out
            have hc0 : w2.cell? ⟨w.heap.size, 0, none⟩ = some (.string ⟨#[]⟩) := by simp [World.cell?, hk2]
            have hc1 : w2.cell? ⟨w.heap.size, 1, none⟩ = some (.string ⟨#[]⟩) := by simp [World.cell?, hk2]
            have hf0 : w2.frozen? ⟨w.heap.size, 0, none⟩ = false := by simp [World.frozen?, hk2]
            have hf1 : w2.frozen? ⟨w.heap.size, 1, none⟩ = false := by simp [World.frozen?, hk2]
            have HB3 := HB2
            have HK3 := HK2
            clear hk2 hc hs0
            go_wp2_with fail
            try simp only [Exit.inBlock, Exit.then]
            refine bodyPost_ret (v := .tuple #[.agg #[.string ⟨#[]⟩, .string ⟨#[]⟩], .string ⟨#[]⟩, .iface 119 (.string ⟨#[97, 32, 98, 114, 97, 99, 107, 101, 116, 32, 115, 116, 97, 110, 100, 115, 32, 97, 108, 111, 110, 101]⟩)]) ?_ rfl ⟨(HB3.out.setCell (Nat.le_refl _) _).setCell (Nat.le_refl _) _, .inr ⟨_, rfl, HE.out⟩⟩
            exact results_cell2 (p := 2) (u := 3) (v := 4) rfl _ _ w.heap.size _ _ _ _ rfl (set2_heap _ _ HK3.out) Try.underlying97 rfl HINF.out
          · have g1 : ¬ (s[0].toNat : Int) = 125 := by rw [hs0]; exact pl.byte_neN hc rfl
            have hc3 : c = 123 := by
              have h := H4.out
              unfold pl.isBr at h
              rw [Bool.or_eq_true, beq_iff_eq, beq_iff_eq] at h
              exact h.resolve_right hc
            subst hc3
            have hul : (pl.bs (pl.upTo r)).size ≤ 120 := by
              show (pl.upTo r).length ≤ _
              have := (List.takeWhile_sublist (fun c : UInt8 => c != 125) (l := r)).length_le
              exact Nat.le_trans this hrl
            obtain ⟨U, HU⟩ : ∃ U, Hid (pl.upTo r = U) := ⟨_, Lib.hid rfl⟩
            obtain ⟨V, HVV⟩ : ∃ V, Hid (pl.behind r = V) := ⟨_, Lib.hid rfl⟩
            rw [HU.out] at hul ⊢
            rw [HVV.out]
            clear hc hs0
            go_wp2_with fail
            refine (iisName_any (pl.bs U) _ (by unfold maxLen; omega)).mono ?_
            rintro e w3 ⟨rfl, hb3⟩
            rw [pl.bs_data]
            have HB3 := Lib.hid (HB2.out.trans (hb3.mono HB2.out.size))
            have HK3 := Lib.hid ((hb3.block _ hG2).trans HK2.out)
            have hk3 := HK3.out
            have hc0 : w3.cell? ⟨w.heap.size, 0, none⟩ = some (.string ⟨#[]⟩) := by simp [World.cell?, hk3]
            have hc1 : w3.cell? ⟨w.heap.size, 1, none⟩ = some (.string ⟨#[]⟩) := by simp [World.cell?, hk3]
            have hf0 : w3.frozen? ⟨w.heap.size, 0, none⟩ = false := by simp [World.frozen?, hk3]
            have hf1 : w3.frozen? ⟨w.heap.size, 1, none⟩ = false := by simp [World.frozen?, hk3]
            clear hb3 hk3
            cases hnm : pl.nameB U with
            | false =>
              have HE : Hid (pl.toks s.data.toList = none) := Lib.hid (by rw [H1.out]; exact pl.toks_bad' HH.out (.inr (by rw [HU.out]; exact hnm)))
              clear hnm
              go_wp2_with fail
              try simp only [Exit.inBlock, Exit.then]
              refine bodyPost_ret (v := .tuple #[.agg #[.string ⟨#[]⟩, .string ⟨#[]⟩], .string ⟨#[]⟩, .iface 119 (.string ⟨#[97, 32, 98, 114, 97, 99, 107, 101, 116, 32, 115, 116, 97, 110, 100, 115, 32, 97, 108, 111, 110, 101]⟩)]) ?_ rfl ⟨(HB3.out.setCell (Nat.le_refl _) _).setCell (Nat.le_refl _) _, .inr ⟨_, rfl, HE.out⟩⟩
              exact results_cell2 (p := 2) (u := 3) (v := 4) rfl _ _ w.heap.size _ _ _ _ rfl (set2_heap _ _ HK3.out) Try.underlying97 rfl HINF.out
            | true =>
              have HE := Lib.hid (pl.cut_hole H1.out HH.out HCT.out (by rw [HU.out]; exact hnm))
              rw [HU.out, HVV.out] at HE
              clear hnm
              go_wp2_with fail
              try simp only [Exit.inBlock, Exit.then]
              refine bodyPost_ret (v := .tuple #[.agg #[.string (pl.bs U), .string ⟨#[]⟩], .string (pl.bs V), .nilIface]) ?_ rfl ⟨(HB3.out.setCell (Nat.le_refl _) _).setCell (Nat.le_refl _) _, .inl ⟨_, _, _, rfl, HE.out⟩⟩
              exact results_cell2 (p := 2) (u := 3) (v := 4) rfl _ _ w.heap.size _ _ _ _ rfl (set2_heap _ _ HK3.out) Try.underlying97 rfl HINF.out
end Go.Proofs.Ytadlelcckalcoaa
