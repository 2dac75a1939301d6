/-
  Contracts of the document's answer's Number and number (layer 2), where there is no error: each returns what a plain function on lists gives; the world is left alone. Condition: a length below 2^62.
-/
import Derived.Test.YthjnkjekidagiaaRlxB
namespace Go.Proofs.Ythjnkjekidagiaa.Lex
open Go.RowKit

theorem val_succ (d : List UInt8) (k : Nat) (hk : k < d.length) : valF (d.take (k + 1)) = valF (d.take k) * 10 + (d[k].toNat - 48) := by
  unfold valF
  rw [List.take_succ_eq_append_getElem hk, List.foldl_append]; rfl
theorem val_lt (d : List UInt8) : (∀ c ∈ d, isDigitF c = true) → valF d < 10 ^ d.length := by
  have : ∀ (d : List UInt8) (v m : Nat), (∀ c ∈ d, isDigitF c = true) → v < 10 ^ m → d.foldl (fun v c => v * 10 + (c.toNat - 48)) v < 10 ^ (m + d.length) := by
    intro d
    induction d with
    | nil => intro v m _ h; simpa using h
    | cons c d ih =>
      intro v m hd h
      have hc : c.toNat ≤ 57 := by have := hd c (by simp); simp [isDigitF] at this; omega
      rw [List.foldl_cons, List.length_cons, show m + (d.length + 1) = (m + 1) + d.length by omega]
      refine ih _ _ (fun x hx => hd x (by simp [hx])) ?_
      rw [Nat.pow_succ]; omega
  intro h
  have := this d 0 0 h (by simp)
  simpa [valF] using this
theorem span_full (p : UInt8 → Bool) (l : List UInt8) (h : ¬ spanF p l < l.length) : ∀ c ∈ l, p c = true := by
  induction l with
  | nil => intro c hc; cases hc
  | cons c l ih =>
    intro x hx
    simp only [spanF] at h
    cases hp : p c
    · simp [hp] at h
    · simp [hp] at h
      rcases List.mem_cons.1 hx with rfl | hx
      · exact hp
      · exact ih (by omega) x hx
/-- What a number that is read is: its digits, and perhaps a u. -/
theorem read_out {l : List UInt8} {v : Nat} {u : Bool} (h : readF l = .ok v u) :
    ∃ d : List UInt8, l = d ++ (if u then [117] else []) ∧ 0 < d.length ∧ d.length ≤ 10 ∧ (∀ c ∈ d, isDigitF c = true) ∧ valF d = v ∧ v ≤ maxN u ∧ (1 < d.length → d[0]?.map (·.toNat) ≠ some 48) := by
  unfold readF readN at h
  split at h
  · cases h
  · rename_i h1
    split at h
    · cases h
    · rename_i h2
      split at h
      · cases h
      · rename_i h3
        split at h
        · cases h
        · rename_i h4
          injection h with h5 h6
          subst h6
          refine ⟨cutU l, ?_, ?_, by omega, span_full _ _ (fun e => h1 (.inr e)), h5, by omega, fun hl e => h4 ⟨?_, hl⟩⟩
          · unfold cutU
            by_cases hu : hasU l = true
            · rw [if_pos hu, if_pos hu]
              have hq : l.getLast? = some 117 := by simpa [hasU] using hu
              obtain ⟨ys, rfl⟩ := List.getLast?_eq_some_iff.1 hq
              simp
            · rw [if_neg hu, if_neg hu]; simp
          · exact List.length_pos_iff.2 (fun e => h1 (.inl e))
          · cases hd : cutU l with
            | nil => rw [hd] at hl; simp at hl
            | cons c r =>
              rw [hd] at e
              simp at e
              have : c = 48 := by apply UInt8.toNat_inj.1; simpa using e
              rw [this]; rfl

theorem rmax_v (t v : Int) (w : World) (h : Typ.maxF t = v) : Calls Try.prog 69 #[.int .i64 t] w fun e w' => e = .returned (.int .i64 v) ∧ w = w' := by
  have := Typ.rmax_any t w
  rw [h] at this
  exact this
theorem dig_bounds {c : UInt8} (h : isDigitF c = true) : 48 ≤ c.toNat ∧ c.toNat ≤ 57 := by simpa [isDigitF] using h

set_option maxRecDepth 100000 in
set_option maxHeartbeats 2000000 in
theorem rNumber_ok (s : ByteArray) (w : World) (v : Nat) (u : Bool) (hl : s.size ≤ 4611686018427387904) (h : readF (lst s) = .ok v u) : Calls Try.prog 62 #[.string s] w fun e w' => e = .returned (.tuple #[.int .i64 v, .int .i64 (if u then 6 else 5), .bool true]) ∧ w = w' := by
  obtain ⟨d, hs, d0, d10, hdig, hv, hm, hz⟩ := read_out h
  clear h
  have hsz : s.size = d.length + (if u then 1 else 0) := by
    rw [← lst_length, hs]; cases u <;> simp
  have hat : ∀ k (hk : k < d.length), s[k]'(by rw [hsz]; omega) = d[k] := fun k hk => by
    have e := lst_get s k (by rw [hsz]; omega)
    rw [← e]
    simp only [hs, List.getElem_append_left hk]
  have HD : Hid (∀ (k : Nat) (_ : k < d.length) (h : k < s.size), isDigitF (s[k]'h) = true) := Lib.hid (fun k hk h => by rw [hat k hk]; exact hdig _ (List.getElem_mem hk))
  have HV : Hid (∀ (k : Nat) (_ : k < d.length) (h : k < s.size), valF (d.take (k + 1)) = valF (d.take k) * 10 + ((s[k]'h).toNat - 48)) := Lib.hid (fun k hk h => by rw [hat k hk]; exact val_succ d k hk)
  have HB : Hid (∀ k : Nat, k ≤ d.length → valF (d.take k) ≤ 9999999999) := Lib.hid fun k hk => by
    have h1 := val_lt (d.take k) (fun c hc => hdig c (List.mem_of_mem_take hc))
    have h2 : 10 ^ (d.take k).length ≤ 10 ^ 10 := Nat.pow_le_pow_right (by omega) (by rw [List.length_take]; omega)
    omega
  have HZ : Hid (1 < d.length → ∀ h0 : 0 < s.size, (((s[0]'h0).toNat : Int) == 48) = false) := Lib.hid fun h1 h0 => by
    have h2 := hz h1
    have h3 := hat 0 (by omega)
    rw [List.getElem?_eq_getElem (by omega)] at h2
    have : (s[0]'h0).toNat ≠ 48 := by rw [h3]; simpa using h2
    exact neI this
  have HF : Hid (valF (d.take d.length) = v) := Lib.hid (by rw [List.take_length]; exact hv)
  have HU : Hid (u = true → ∀ h : d.length < s.size, (s[d.length]'h).toNat = 117) := Lib.hid fun hu h => by
    have e := lst_get s d.length h
    rw [← e]
    subst hu
    simp [hs]
  have hs0 : 0 < s.size := by omega
  clear hat hdig hz hv hs
  generalize hn : d.length = n at *
  cases u
  · simp only [Bool.false_eq_true, if_false, maxN] at hm hsz ⊢
    obtain rfl : n = s.size := by omega
    obtain ⟨m, hm1⟩ : ∃ m, s.size = m + 1 := ⟨s.size - 1, by omega⟩
    have q0 : ((s.size : Int) - 1) = (m : Int) := by omega
    have hml : m < s.size := by omega
    have q1 : (((s[m]'hml).toNat : Int) == 117) = false := by
      have := dig_bounds (HD.out m (by omega) (by omega))
      rw [beq_eq_false_iff_ne]; omega
    have hmI : (v : Int) ≤ 2147483647 := by omega
    have z1 : ((m : Int) + 1 == 0) = false := by rw [beq_eq_false_iff_ne]; omega
    clear hsz hn
    go_enter Try.func62, Try.ntmps62
    go_wp2_with (first | (go_at_call 69; refine (rmax_v 5 2147483647 _ (by decide)).mono ?_; rintro e w' ⟨rfl, rfl⟩))
    go_loop [8, 9] (fun x i => ∃ k : Nat, k ≤ s.size ∧ x = .int .i64 (valF (d.take k) : Nat) ∧ i = .int .i64 k) (fun _ i => s.size - (intOf i).toNat)
    case atStart => exact ⟨0, by omega, by simp [valF], rfl⟩
    case round =>
      obtain ⟨k, hk, rfl, rfl⟩ := hrel
      by_cases hlt : k < s.size
      · have hks : k < s.size := by omega
        have hd := HD.out k hlt hks
        obtain ⟨b1, b2⟩ := dig_bounds hd
        have hb := HB.out k (by omega)
        have Hv := Lib.hid (HV.out k hlt hks)
        have hlt' : (k : Int) < (s.size : Int) := by omega
        rcases (show s.size ≤ 1 ∨ 1 < s.size by omega) with h1 | h1
        · go_wp2_with (first | (go_at_call 45; refine (rdigit_any _ _).mono ?_; rintro e w' ⟨rfl, rfl⟩))
          exact ⟨⟨k + 1, by omega, by have := Hv.out; congr 1; omega, by go_num⟩, by simp [intOf]; omega⟩
        · have hz0 := HZ.out h1 hs0
          go_wp2_with (first | (go_at_call 45; refine (rdigit_any _ _).mono ?_; rintro e w' ⟨rfl, rfl⟩))
          exact ⟨⟨k + 1, by omega, by have := Hv.out; congr 1; omega, by go_num⟩, by simp [intOf]; omega⟩
      · obtain rfl : k = s.size := by omega
        have hF := HF.out
        rw [hm1] at hF
        go_wp2
        go_ret3
        exact ⟨rfl, rfl⟩
  · simp only [if_true, maxN] at hm hsz ⊢
    have q0 : ((s.size : Int) - 1) = (n : Int) := by omega
    have hml : n < s.size := by omega
    have q1 : (((s[n]'hml).toNat : Int) == 117) = true := by rw [HU.out rfl hml]; rfl
    have M1 : Hid True := Lib.hid trivial
    have z1 : ((n : Int) == 0) = false := by rw [beq_eq_false_iff_ne]; omega
    have hmI : (v : Int) ≤ 4294967295 := by omega
    clear hn
    go_enter Try.func62, Try.ntmps62
    go_wp2_with (first | (go_at_call 69; clear M1; refine (rmax_v 5 2147483647 _ (by decide)).mono ?_; rintro e w' ⟨rfl, rfl⟩) | (go_at_call 69; refine (rmax_v 6 4294967295 _ (by decide)).mono ?_; rintro e w' ⟨rfl, rfl⟩))
    go_loop [8, 9] (fun x i => ∃ k : Nat, k ≤ n ∧ x = .int .i64 (valF (d.take k) : Nat) ∧ i = .int .i64 k) (fun _ i => n - (intOf i).toNat)
    case atStart => exact ⟨0, by omega, by simp [valF], rfl⟩
    case round =>
      obtain ⟨k, hk, rfl, rfl⟩ := hrel
      by_cases hlt : k < n
      · have hks : k < s.size := by omega
        have hd := HD.out k hlt hks
        obtain ⟨b1, b2⟩ := dig_bounds hd
        have hb := HB.out k (by omega)
        have Hv := Lib.hid (HV.out k hlt hks)
        have hlt' : (k : Int) < (n : Int) := by omega
        rcases (show n ≤ 1 ∨ 1 < n by omega) with h1 | h1
        · go_wp2_with (first | (go_at_call 45; refine (rdigit_any _ _).mono ?_; rintro e w' ⟨rfl, rfl⟩))
          exact ⟨⟨k + 1, by omega, by have := Hv.out; congr 1; omega, by go_num⟩, by simp [intOf]; omega⟩
        · have hz0 := HZ.out h1 hs0
          go_wp2_with (first | (go_at_call 45; refine (rdigit_any _ _).mono ?_; rintro e w' ⟨rfl, rfl⟩))
          exact ⟨⟨k + 1, by omega, by have := Hv.out; congr 1; omega, by go_num⟩, by simp [intOf]; omega⟩
      · obtain rfl : k = n := by omega
        have hF := HF.out
        go_wp2
        go_ret3
        exact ⟨rfl, rfl⟩

theorem span_take (p : UInt8 → Bool) (l : List UInt8) : ∀ c ∈ l.take (spanF p l), p c = true := by
  induction l with
  | nil => intro c hc; simp at hc
  | cons x l ih =>
    intro c hc
    simp only [spanF] at hc
    cases hp : p x
    · simp [hp] at hc
    · simp only [hp, if_true, List.take_succ_cons] at hc
      rcases List.mem_cons.1 hc with rfl | hc
      · exact hp
      · exact ih c hc
/-- What a number that is scanned is. -/
theorem number_out {L : List UInt8} {q n : Nat} (h : numberF L = .tok q n) : ∃ (v : Nat) (u : Bool), q = 2 ∧ n = numLen L ∧ readF (L.take n) = .ok v u ∧ 0 < spanF isDigitF L ∧ spanF isDigitF L ≤ 10 ∧ (1 < spanF isDigitF L → L[0]?.map (·.toNat) ≠ some 48) ∧ spanF inWordF (L.drop n) = 0 := by
  unfold numberF at h
  split at h
  · cases h
  · rename_i v u hr
    split at h
    · cases h
    · rename_i hw
      injection h with h1 h2
      subst h2
      obtain ⟨d, e, d0, d10, hd, -, -, hz⟩ := read_out hr
      have hsd := span_take isDigitF L
      have hle := span_le isDigitF L
      have key : d = L.take (spanF isDigitF L) := by
        unfold numLen at e
        split at e
        · rename_i h117
          have e2 : L.take (spanF isDigitF L + 1) = L.take (spanF isDigitF L) ++ [117] := by
            rw [List.take_add_one, ← List.head?_drop, h117]; rfl
          rw [e2] at e
          cases u
          · simp at e
            have := hd 117 (by rw [← e]; simp)
            simp [isDigitF] at this
          · exact (List.append_inj_left' e rfl).symm
        · cases u
          · simpa using e.symm
          · have := hsd 117 (by rw [e]; simp)
            simp [isDigitF] at this
      have hl : d.length = spanF isDigitF L := by rw [key, List.length_take]; omega
      refine ⟨v, u, h1.symm, rfl, hr, by omega, by omega, fun h1 h2 => hz (by omega) ?_, by omega⟩
      rw [key, List.getElem?_take, if_pos (by omega)]; exact h2

theorem inWord_no {c : UInt8} (h : inWordF c = false) : isLetterF c = false ∧ isDigitF c = false ∧ ((c.toNat : Int) == 95) = false := by
  simp only [inWordF, Bool.or_eq_false_iff, decide_eq_false_iff_not] at h
  refine ⟨h.1.1, h.1.2, ?_⟩
  rw [beq_eq_false_iff_ne]; omega

set_option maxRecDepth 100000 in
set_option maxHeartbeats 2000000 in
theorem rnumber_ok (s : ByteArray) (i n q : Nat) (w : World) (hl : s.size ≤ 4611686018427387904) (hi : i < s.size) (h : numberF ((lst s).drop i) = .tok q n) : Calls Try.prog 47 #[.string s, .int .i64 i] w fun e w' => e = .returned (.tuple #[.int .i64 ((i + n : Nat) : Int), .int .i64 0]) ∧ w = w' := by
  obtain ⟨v, u, -, hn, hr, p0, p10, hz, hw⟩ := number_out h
  clear h
  have hlen : ((lst s).drop i).length = s.size - i := by rw [List.length_drop, lst_length]
  have hle := span_le isDigitF ((lst s).drop i)
  have hle2 := numLen_le ((lst s).drop i)
  have hat : ∀ j (hj : i + j < s.size), ((lst s).drop i)[j]? = some (s[i + j]'hj) := fun j hj => by
    rw [List.getElem?_drop]; exact List.getElem?_eq_getElem (by rw [lst_length]; exact hj)
  have HS : Hid (∀ j, j ≤ spanF isDigitF ((lst s).drop i) → ∀ h : i + j < s.size, (isDigitF (s[i + j]'h) = true ∧ j + 1 ≤ spanF isDigitF ((lst s).drop i)) ∨ (isDigitF (s[i + j]'h) = false ∧ spanF isDigitF ((lst s).drop i) = j)) := Lib.hid fun j hj h => by
    have h1 := span_all isDigitF ((lst s).drop i) j hj (by omega)
    have h2 : ((lst s).drop i)[j]'(by omega) = s[i + j]'h := by
      have := hat j h
      rw [List.getElem?_eq_getElem (by omega)] at this
      exact Option.some.inj this
    rw [h2] at h1; exact h1
  have HZ : Hid (1 < spanF isDigitF ((lst s).drop i) → ((s[i]'hi).toNat : Int) ≠ 48) := Lib.hid fun h1 => by
    have h2 := hz h1
    rw [hat 0 (by omega)] at h2
    simp at h2; omega
  have HW : Hid (∀ h : i + n < s.size, inWordF (s[i + n]'h) = false) := Lib.hid fun h => by
    have h1 := span_all inWordF (((lst s).drop i).drop n) 0 (by omega) (by rw [List.length_drop]; omega)
    have h2 : (((lst s).drop i).drop n)[0]'(by rw [List.length_drop]; omega) = s[i + n]'h := by
      have := hat n h
      rw [List.getElem?_eq_getElem (by omega)] at this
      rw [List.getElem_drop]
      simpa using Option.some.inj this
    rw [h2] at h1
    rcases h1 with h1 | h1
    · omega
    · exact h1.1
  have HN := Lib.hid (fun w : World => rNumber_ok (s.extract i (i + n)) w v u (by rw [ByteArray.size_extract]; omega) (by rw [lst_cut]; exact hr))
  have hU : numLen ((lst s).drop i) = if ∃ h : i + spanF isDigitF ((lst s).drop i) < s.size, (s[i + spanF isDigitF ((lst s).drop i)]'h).toNat = 117 then spanF isDigitF ((lst s).drop i) + 1 else spanF isDigitF ((lst s).drop i) := by
    unfold numLen
    rw [List.head?_drop]
    by_cases hb : i + spanF isDigitF ((lst s).drop i) < s.size
    · rw [hat _ hb]
      by_cases hc : (s[i + spanF isDigitF ((lst s).drop i)]'hb).toNat = 117
      · rw [if_pos (show some _ = some _ by congr 1; apply UInt8.toNat_inj.1; rw [hc]; rfl), if_pos ⟨hb, hc⟩]
      · rw [if_neg (fun e => by injection e with e; rw [e] at hc; exact hc rfl), if_neg (fun ⟨_, e⟩ => hc e)]
    · rw [List.getElem?_eq_none (by omega), if_neg (by simp), if_neg (fun ⟨e, _⟩ => hb e)]
  rw [hn] at *
  generalize hD : spanF isDigitF ((lst s).drop i) = D at *
  generalize hNN : numLen ((lst s).drop i) = N at *
  have hDs : i + D ≤ s.size := by omega
  have hq : ((i : Int) + (D : Int) - (i : Int)) = (D : Int) := by omega
  have hten : decide (10 < (D : Int)) = false := decide_eq_false (by omega)
  clear hat hz hw hr hlen hn
  go_enter Try.func47, Try.ntmps47
  go_wp2
  go_loop [6] (fun x => ∃ j : Nat, j ≤ D ∧ x = .int .i64 ((i : Int) + (j : Int))) (fun x => s.size - (intOf x).toNat)
  case atStart => exact ⟨0, by omega, by simp⟩
  case round =>
    obtain ⟨j, hj, rfl⟩ := hrel
    by_cases hb : i + j < s.size
    · rcases HS.out j hj hb with ⟨h1, h2⟩ | ⟨h1, h2⟩
      · go_wp2_with (first | (go_at_call 45; refine (rdigit_any _ _).mono ?_; rintro e w' ⟨rfl, rfl⟩))
        exact ⟨⟨j + 1, h2, by congr 1 <;> omega⟩, by simp [intOf]; omega⟩
      · subst h2
        clear HS
        by_cases hc : (s[i + D]'hb).toNat = 117
        · obtain rfl : N = D + 1 := by rw [hU, if_pos ⟨hb, hc⟩]
          have q1 : (((s[i + D]'hb).toNat : Int) == 117) = true := by rw [hc]; rfl
          clear hU hc hNN hD
          have HN' : Hid (∀ w : World, Calls Try.prog 62 #[.string (s.extract i (i + D + 1))] w fun e w' => e = .returned (.tuple #[.int .i64 v, .int .i64 (if u then 6 else 5), .bool true]) ∧ w = w') := HN
          clear HN
          by_cases hk : i + D + 1 < s.size
          · obtain ⟨f1, f2, f3⟩ := inWord_no (show inWordF (s[i + D + 1]'hk) = false from HW.out hk)
            clear HW
            rcases (show D ≤ 1 ∨ 1 < D by omega) with p1 | p1
            · go_wp2_with (first | (go_at_call 45; refine (rdigit_any _ _).mono ?_; rintro e w' ⟨rfl, rfl⟩) | (go_at_call 44; refine (rletter_any _ _).mono ?_; rintro e w' ⟨rfl, rfl⟩) | (go_at_call 62; refine (HN'.out _).mono ?_; rintro e w' ⟨rfl, rfl⟩))
              all_goals
                go_ret2
                exact ⟨by first | rfl | (simp; done) | (simp; omega), rfl⟩
            · have hz0 : (((s[i]'hi).toNat : Int) == 48) = false := by rw [beq_eq_false_iff_ne]; exact HZ.out p1
              go_wp2_with (first | (go_at_call 45; refine (rdigit_any _ _).mono ?_; rintro e w' ⟨rfl, rfl⟩) | (go_at_call 44; refine (rletter_any _ _).mono ?_; rintro e w' ⟨rfl, rfl⟩) | (go_at_call 62; refine (HN'.out _).mono ?_; rintro e w' ⟨rfl, rfl⟩))
              all_goals
                go_ret2
                exact ⟨by first | rfl | (simp; done) | (simp; omega), rfl⟩
          · clear HW
            rcases (show D ≤ 1 ∨ 1 < D by omega) with p1 | p1
            · go_wp2_with (first | (go_at_call 45; refine (rdigit_any _ _).mono ?_; rintro e w' ⟨rfl, rfl⟩) | (go_at_call 44; refine (rletter_any _ _).mono ?_; rintro e w' ⟨rfl, rfl⟩) | (go_at_call 62; refine (HN'.out _).mono ?_; rintro e w' ⟨rfl, rfl⟩))
              all_goals
                go_ret2
                exact ⟨by first | rfl | (simp; done) | (simp; omega), rfl⟩
            · have hz0 : (((s[i]'hi).toNat : Int) == 48) = false := by rw [beq_eq_false_iff_ne]; exact HZ.out p1
              go_wp2_with (first | (go_at_call 45; refine (rdigit_any _ _).mono ?_; rintro e w' ⟨rfl, rfl⟩) | (go_at_call 44; refine (rletter_any _ _).mono ?_; rintro e w' ⟨rfl, rfl⟩) | (go_at_call 62; refine (HN'.out _).mono ?_; rintro e w' ⟨rfl, rfl⟩))
              all_goals
                go_ret2
                exact ⟨by first | rfl | (simp; done) | (simp; omega), rfl⟩
        · obtain rfl : N = D := by rw [hU, if_neg (fun ⟨_, e⟩ => hc e)]
          have q1 : (((s[i + N]'hb).toNat : Int) == 117) = false := by rw [beq_eq_false_iff_ne]; omega
          obtain ⟨f1, f2, f3⟩ := inWord_no (HW.out hb)
          clear hU hc hNN hD HW
          have HN' : Hid (∀ w : World, Calls Try.prog 62 #[.string (s.extract i (i + N))] w fun e w' => e = .returned (.tuple #[.int .i64 v, .int .i64 (if u then 6 else 5), .bool true]) ∧ w = w') := HN
          clear HN
          rcases (show N ≤ 1 ∨ 1 < N by omega) with p1 | p1
          · go_wp2_with (first | (go_at_call 45; refine (rdigit_any _ _).mono ?_; rintro e w' ⟨rfl, rfl⟩) | (go_at_call 44; refine (rletter_any _ _).mono ?_; rintro e w' ⟨rfl, rfl⟩) | (go_at_call 62; refine (HN'.out _).mono ?_; rintro e w' ⟨rfl, rfl⟩))
            all_goals
              go_ret2
              exact ⟨by first | rfl | (simp; done) | (simp; omega), rfl⟩
          · have hz0 : (((s[i]'hi).toNat : Int) == 48) = false := by rw [beq_eq_false_iff_ne]; exact HZ.out p1
            go_wp2_with (first | (go_at_call 45; refine (rdigit_any _ _).mono ?_; rintro e w' ⟨rfl, rfl⟩) | (go_at_call 44; refine (rletter_any _ _).mono ?_; rintro e w' ⟨rfl, rfl⟩) | (go_at_call 62; refine (HN'.out _).mono ?_; rintro e w' ⟨rfl, rfl⟩))
            all_goals
              go_ret2
              exact ⟨by first | rfl | (simp; done) | (simp; omega), rfl⟩
    · obtain rfl : j = D := by omega
      obtain rfl : N = j := by rw [hU, if_neg (fun ⟨e, _⟩ => hb e)]
      clear hU hNN hD HW HS
      have HN' : Hid (∀ w : World, Calls Try.prog 62 #[.string (s.extract i (i + N))] w fun e w' => e = .returned (.tuple #[.int .i64 v, .int .i64 (if u then 6 else 5), .bool true]) ∧ w = w') := HN
      clear HN
      rcases (show N ≤ 1 ∨ 1 < N by omega) with p1 | p1
      · go_wp2_with (first | (go_at_call 45; refine (rdigit_any _ _).mono ?_; rintro e w' ⟨rfl, rfl⟩) | (go_at_call 44; refine (rletter_any _ _).mono ?_; rintro e w' ⟨rfl, rfl⟩) | (go_at_call 62; refine (HN'.out _).mono ?_; rintro e w' ⟨rfl, rfl⟩))
        all_goals
          go_ret2
          exact ⟨by first | rfl | (simp; done) | (simp; omega), rfl⟩
      · have hz0 : (((s[i]'hi).toNat : Int) == 48) = false := by rw [beq_eq_false_iff_ne]; exact HZ.out p1
        go_wp2_with (first | (go_at_call 45; refine (rdigit_any _ _).mono ?_; rintro e w' ⟨rfl, rfl⟩) | (go_at_call 44; refine (rletter_any _ _).mono ?_; rintro e w' ⟨rfl, rfl⟩) | (go_at_call 62; refine (HN'.out _).mono ?_; rintro e w' ⟨rfl, rfl⟩))
        all_goals
          go_ret2
          exact ⟨by first | rfl | (simp; done) | (simp; omega), rfl⟩
end Go.Proofs.Ythjnkjekidagiaa.Lex
