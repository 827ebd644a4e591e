/-
  What Text of the document's answer returns, for every list of words: its error, or the text at their front and how many words it takes.
-/
import Derived.WalkSpells
import Derived.Test.YtmmpejhmmgkfkabMath3
import Derived.Test.YtmmpejhmmgkfkabRef01Byte
namespace Go.Proofs.Ytmmpejhmmgkfkab
open Go.RowKit

theorem RefText.info : (Try.prog.info? 5).map (fun i => (i.zero, i.size, i.bytes)) = some (some (.int .u8 0), 1, 1) := by kernel_rfl

set_option maxHeartbeats 1000000 in
theorem refText_none (a : Option Addr) (n cap : Nat) (zs : List Int) (w : World) (ha : View .u32 w a zs) (hl : zs.length = n) (hw : Within 4294967296 zs) (hn : 4 * n ≤ 140737488351232) (h : ∀ i, i < 4 * n → nth (joinL zs) i ≠ 0) :
    Calls Try.prog 15 #[.slice a n cap] w fun e w' => e = .returned (.tuple #[.string ⟨#[]⟩, .int .i64 0, .int .i64 11]) ∧ w = w' := by
  have HB : ∀ k : Nat, k < 4 * n → Calls Try.prog 25 #[.slice a n cap, .int .i64 k] w fun e w' => e = .returned (.int .u8 (nth (joinL zs) k)) ∧ w = w' :=
    fun k hk => refByte_nat a n cap zs w k ha hl hw hn hk
  generalize joinL zs = js at HB h
  have H0 : Hid (∀ i, i < 4 * n → nth js i ≠ 0) := h
  clear ha hl hw h
  go_enter Try.func15, Try.ntmps15
  go_wp2
  go_loop [5] (fun i => ∃ k : Nat, k ≤ 4 * n ∧ i = .int .i64 k) (fun i => 4 * n - (intOf i).toNat)
  case atStart => exact ⟨0, Nat.zero_le _, rfl⟩
  case round =>
    obtain ⟨k, hk, rfl⟩ := hrel
    by_cases hlt : k < 4 * n
    · have hcall := HB k hlt
      have hne : (nth js k == 0) = false := by simp; exact H0.out k hlt
      generalize nth js k = x at hcall hne
      have hki : (k : Int) < 4 * (n : Int) := by omega
      clear HB
      go_wp2_with (go_at_call 25; refine hcall.mono ?_; rintro e w' ⟨rfl, rfl⟩)
      go_round
      case rel => exact ⟨k + 1, by omega, by go_num⟩
      case measure => simp [intOf]; omega
    · obtain rfl : k = 4 * n := by omega
      have hki : ¬ (4 * (n : Int)) < 4 * (n : Int) := by omega
      have hke : ((4 * (n : Int)) == 4 * (n : Int)) = true := by simp
      go_wp2
      go_ret3
      exact ⟨rfl, rfl⟩

set_option maxHeartbeats 1000000 in
theorem refText_pad (a : Option Addr) (n cap : Nat) (zs : List Int) (w : World) (L P M : Nat) (ha : View .u32 w a zs) (hl : zs.length = n) (hw : Within 4294967296 zs) (hn : 4 * n ≤ 140737488351232)
    (hL : L < n) (hP : P < 4) (h : ∀ i, i < 4 * L + P → nth (joinL zs) i ≠ 0) (h0 : nth (joinL zs) (4 * L + P) = 0) (hM1 : 4 * L + P < M) (hM2 : M < 4 * L + 4) (hM : nth (joinL zs) M ≠ 0) :
    Calls Try.prog 15 #[.slice a n cap] w fun e w' => e = .returned (.tuple #[.string ⟨#[]⟩, .int .i64 0, .int .i64 12]) ∧ w = w' := by
  have HB : ∀ k : Nat, k < 4 * n → Calls Try.prog 25 #[.slice a n cap, .int .i64 k] w fun e w' => e = .returned (.int .u8 (nth (joinL zs) k)) ∧ w = w' :=
    fun k hk => refByte_nat a n cap zs w k ha hl hw hn hk
  generalize joinL zs = js at HB h h0 hM
  have HN : Hid (∀ i, i < 4 * L + P → nth js i ≠ 0) := h
  have H0 : Hid (nth js (4 * L + P) = 0) := h0
  have HM : Hid (nth js M ≠ 0) := hM
  clear ha hl hw h h0 hM
  go_enter Try.func15, Try.ntmps15
  go_wp2
  go_loop [5] (fun i => ∃ k : Nat, k ≤ 4 * L + P ∧ i = .int .i64 k) (fun i => 4 * n - (intOf i).toNat)
  case atStart => exact ⟨0, Nat.zero_le _, rfl⟩
  case round =>
    obtain ⟨k, hk, rfl⟩ := hrel
    have hki : (k : Int) < 4 * (n : Int) := by omega
    have hcall := HB k (by omega)
    by_cases hlt : k < 4 * L + P
    · have hne : (nth js k == 0) = false := by simp; exact HN.out k hlt
      generalize nth js k = x at hcall hne
      clear HB
      go_wp2_with (go_at_call 25; refine hcall.mono ?_; rintro e w' ⟨rfl, rfl⟩)
      go_round
      case rel => exact ⟨k + 1, by omega, by go_num⟩
      case measure => simp [intOf]; omega
    · have ek : k = 4 * L + P := by omega
      rw [show nth js k = 0 by rw [ek]; exact H0.out] at hcall
      have hke : ((k : Int) == 4 * (n : Int)) = false := by simp; omega
      have EK : Hid (k = 4 * L + P) := ek
      clear ek
      go_wp2_with (go_at_call 25; refine hcall.mono ?_; rintro e w' ⟨rfl, rfl⟩)
      go_loop [6] (fun i => ∃ j : Nat, 4 * L + P < j ∧ j ≤ M ∧ i = .int .i64 j) (fun i => 4 * n - (intOf i).toNat)
      case atStart => exact ⟨k + 1, by have := EK.out; omega, by have := EK.out; omega, by go_num⟩
      case round =>
        obtain ⟨j, hj1, hj2, rfl⟩ := hrel
        have hjc := HB j (by omega)
        have hjm : (((j : Int) % 4) == 0) = false := by simp; omega
        clear hcall
        by_cases hx : nth js j = 0
        · rw [hx] at hjc
          have hjM : j ≠ M := fun e => HM.out (by rw [← e]; exact hx)
          go_wp2_with (go_at_call 25; refine hjc.mono ?_; rintro e w' ⟨rfl, rfl⟩)
          go_round
          case rel => exact ⟨j + 1, by omega, by omega, by go_num⟩
          case measure => simp [intOf]; omega
        · have hne : (nth js j == 0) = false := by simp; exact hx
          generalize nth js j = x at hjc hne
          clear hx HB
          go_wp2_with (go_at_call 25; refine hjc.mono ?_; rintro e w' ⟨rfl, rfl⟩)
          go_ret3
          exact ⟨rfl, rfl⟩

set_option maxHeartbeats 1000000 in
theorem refText_ok (a : Option Addr) (n cap : Nat) (zs : List Int) (w : World) (L P : Nat) (ha : View .u32 w a zs) (hl : zs.length = n) (hw : Within 4294967296 zs) (hn : 4 * n ≤ 140737488351232)
    (hL : L < n) (hP : P < 4) (h : ∀ i, i < 4 * L + P → nth (joinL zs) i ≠ 0) (h0 : nth (joinL zs) (4 * L + P) = 0) (hM : ∀ i, 4 * L + P < i → i < 4 * L + 4 → nth (joinL zs) i = 0) :
    Calls Try.prog 15 #[.slice a n cap] w fun e w' => e = .returned (.tuple #[.string (strOfNums ((joinL zs).take (4 * L + P))), .int .i64 ((L : Int) + 1), .int .i64 0]) ∧ Below w.heap.size w w' := by
  obtain ⟨i0, hi, hz0, hz1, hz2⟩ := info_parts RefText.info
  have HB : ∀ wx, Below w.heap.size w wx → ∀ k : Nat, k < 4 * n → Calls Try.prog 25 #[.slice a n cap, .int .i64 k] wx fun e w' => e = .returned (.int .u8 (nth (joinL zs) k)) ∧ wx = w' :=
    fun wx hx k hk => refByte_nat a n cap zs wx k (ha.below hx) hl hw hn hk
  have HJL : Hid ((joinL zs).length = 4 * n) := by rw [joinL_len, hl]; rfl
  generalize joinL zs = js at HB h h0 hM HJL ⊢
  have HN : Hid (∀ i, i < 4 * L + P → nth js i ≠ 0) := h
  have H0 : Hid (nth js (4 * L + P) = 0) := h0
  have HM : Hid (∀ i, 4 * L + P < i → i < 4 * L + 4 → nth js i = 0) := hM
  clear ha hl hw h h0 hM
  go_enter Try.func15, Try.ntmps15
  go_wp2
  go_loop [5] (fun i => ∃ k : Nat, k ≤ 4 * L + P ∧ i = .int .i64 k) (fun i => 4 * n - (intOf i).toNat)
  case atStart => exact ⟨0, Nat.zero_le _, rfl⟩
  case round =>
    obtain ⟨k, hk, rfl⟩ := hrel
    have hki : (k : Int) < 4 * (n : Int) := by omega
    have hcall := HB w (Below.refl _ _) k (by omega)
    by_cases hlt : k < 4 * L + P
    · have hne : (nth js k == 0) = false := by simp; exact HN.out k hlt
      generalize nth js k = x at hcall hne
      clear HB
      go_wp2_with (go_at_call 25; refine hcall.mono ?_; rintro e w' ⟨rfl, rfl⟩)
      go_round
      case rel => exact ⟨k + 1, by omega, by go_num⟩
      case measure => simp [intOf]; omega
    · have ek : k = 4 * L + P := by omega
      rw [show nth js k = 0 by rw [ek]; exact H0.out] at hcall
      have hke : ((k : Int) == 4 * (n : Int)) = false := by simp; omega
      have EK : Hid (k = 4 * L + P) := ek
      clear ek
      go_wp2_with (go_at_call 25; refine hcall.mono ?_; rintro e w' ⟨rfl, rfl⟩)
      go_loop [6] (fun i => ∃ j : Nat, 4 * L + P < j ∧ j ≤ 4 * L + 4 ∧ i = .int .i64 j) (fun i => 4 * n + 4 - (intOf i).toNat)
      case atStart => exact ⟨k + 1, by have := EK.out; omega, by have := EK.out; omega, by go_num⟩
      case round =>
        obtain ⟨j, hj1, hj2, rfl⟩ := hrel
        clear hcall
        by_cases hjl : j < 4 * L + 4
        · have hjc := HB w (Below.refl _ _) j (by omega)
          have hjm : (((j : Int) % 4) == 0) = false := by simp; omega
          rw [HM.out j hj1 hjl] at hjc
          go_wp2_with (go_at_call 25; refine hjc.mono ?_; rintro e w' ⟨rfl, rfl⟩)
          go_round
          case rel => exact ⟨j + 1, by omega, by omega, by go_num⟩
          case measure => simp [intOf]; omega
        · have hjm : (((j : Int) % 4) == 0) = true := by simp; omega
          go_wp2_with (at_make; refine wpList_make_full _ rfl _ _ 51 rfl w.heap.size 5 i0 (.int .u8 0) 1 Try.underlying51 hi hz0 hz1 _ _ _ _ k rfl rfl (by omega) (by omega) (by rw [hz2]; omega) (by unfold maxLen; omega) (Nat.le_refl _) ?_)
          intro w1 hown1 hgrow1
          have hb1 : Below w.heap.size w w1 := (Below.refl _ w).grown hgrow1 (Nat.le_refl _) (by simp)
          have hr1 := made_row (js.take k) hown1
          clear hown1 hgrow1
          have HTL : Hid ((js.take k).length = k) := by show (js.take k).length = k; rw [List.length_take, HJL.out]; omega
          go_wp2
          go_loopw [8] (fun i wr => ∃ t : Nat, t ≤ k ∧ i = .int .i64 t ∧ wr.ownsRow w.heap.size 5 1 (.slice (some ⟨w.heap.size, 0, none⟩) k k) k ((filled (js.take k) t k).map (Value.int .u8)) ∧ Below w.heap.size w wr)
            (fun i _ => k - (intOf i).toNat)
          case atStart => exact ⟨0, Nat.zero_le _, rfl, hr1, hb1⟩
          case round =>
            obtain ⟨t, ht, rfl, hown, hnx⟩ := hrel
            clear hr1 hb1
            by_cases htl : t < k
            · obtain ⟨d1, d2, d3⟩ := fill_step hown htl (by rw [HTL.out]; exact htl)
              have htc := HB wr hnx t (by omega)
              rw [nth_take _ _ _ htl] at d3
              generalize nth js t = x at htc d3
              clear hown HB
              go_wp2_with (go_at_call 25; refine htc.mono ?_; rintro e w' ⟨rfl, rfl⟩)
              go_roundw
              case rel => exact ⟨t + 1, by omega, by go_num, d3, hnx.setCell (Nat.le_refl _) _⟩
              case measure => simp [intOf]; omega
            · obtain rfl : t = k := by omega
              rw [filled_whole _ _ HTL.out] at hown
              have hcv : (convert 51 9 (.slice (some ⟨w.heap.size, 0, none⟩) t t)).run Try.prog wr = .ok (.string (strOfNums (js.take t))) wr := by
                refine run_convert_bytes_arg wr _ _ Try.underlying51 Try.underlying5 w.heap.size 0 t t (js.take t) HTL.out (fun i hi => ?_) _ Try.underlying9
                obtain ⟨b', off', e, _, hcell⟩ := View.ofRow hown HTL.out i (by rw [HTL.out]; exact hi)
                simp at e
                obtain ⟨rfl, rfl⟩ := e
                exact hcell
              have hdiv : (t : Int) / 4 = (L : Int) := by have := EK.out; omega
              clear hown HB
              go_wp2
              go_ret3
              exact ⟨by rw [← EK.out]; rfl, hnx⟩

end Go.Proofs.Ytmmpejhmmgkfkab
