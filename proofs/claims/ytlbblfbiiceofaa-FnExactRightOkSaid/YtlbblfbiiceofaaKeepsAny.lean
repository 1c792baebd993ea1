/- KeepsRule on both sides, for every rule and text; the walk of FnExactKeepsRule. Condition: the library's variable MaxLen holds some number. -/
import Derived.Test.YtlbblfbiiceofaaKeeps3
namespace Go.Proofs.Ytlbblfbiiceofaa
open Go.RowKit

theorem Ru.keeps_of {r : Ru} {s : ByteArray} (h : r.ok = true) (hw : wordOk s = true) : r.keeps s = r.holds s := by simp [Ru.keeps, h, hw]

set_option maxHeartbeats 1600000 in
theorem implKeeps_any (kind : Int) (letter thn : ByteArray) (many : Int) (s : ByteArray) (m : Int) (w : World) (h1 : letter.size ≤ maxLen) (h2 : thn.size ≤ maxLen) (hs : s.size ≤ maxLen) (hm : w.cell? ⟨0, 0, none⟩ = some (.int .i64 m)) :
    Calls Try.prog 73 #[.agg #[.int .i64 kind, .string letter, .string thn, .int .i64 many], .string s] w
      fun e w' => e = .returned (.bool ((Ru.mk kind letter thn many).keeps s)) ∧ Below w.heap.size w w' := by
  by_cases hok : (Ru.mk kind letter thn many).ok = true
  · by_cases hw : wordOk s = true
    · rw [Ru.keeps_of hok hw]
      obtain ⟨hl, hr⟩ := Ru.ok_iff.1 hok
      simp only at hl hr
      rcases hr with ⟨rfl, rfl, h0, h4⟩ | ⟨rfl, rfl, h0, h4⟩ | ⟨rfl, ht, rfl⟩ | ⟨rfl, rfl, h0, h4⟩ | ⟨rfl, rfl, h0, h4⟩
      · exact implKeeps_0 letter many s w hl h0 h4 hw
      · exact implKeeps_1 letter many s w hl h0 h4 hw
      · exact implKeeps_2 letter thn m s w hl ht hm hw
      · exact implKeeps_3 letter many s w hl h0 h4 hw
      · exact implKeeps_4 letter many s w hl h0 h4 hw
    · have hw' : wordOk s = false := by simpa using hw
      have HF : Hid ((Ru.mk kind letter thn many).keeps s = false) := by
        have : (Ru.mk kind letter thn many).keeps s = false := by simp [Ru.keeps, hw']
        exact Lib.hid this
      clear hw
      go_enter Try.func73, Try.ntmps73
      go_wp2_with fail
      refine (implRuleOk_any kind letter thn many _ h1 h2).mono ?_
      rintro e w1 ⟨rfl, hb1⟩
      rw [hok]
      simp only [World.size_alloc] at hb1
      have q1 := (ru_cells kind letter thn many hb1).2.2.2.2.1
      go_wp2_with (go_at_call 56; refine (implWordOk_any _ _ hs).mono ?_; rintro e w' ⟨rfl, rfl⟩)
      go_ret
      exact ⟨ret_bool HF.out.symm, q1⟩
  · have hok' : (Ru.mk kind letter thn many).ok = false := by simpa using hok
    have HF : Hid ((Ru.mk kind letter thn many).keeps s = false) := by
      have : (Ru.mk kind letter thn many).keeps s = false := by simp [Ru.keeps, hok']
      exact Lib.hid this
    clear hok
    go_enter Try.func73, Try.ntmps73
    go_wp2_with fail
    refine (implRuleOk_any kind letter thn many _ h1 h2).mono ?_
    rintro e w1 ⟨rfl, hb1⟩
    rw [hok']
    simp only [World.size_alloc] at hb1
    have q1 := (ru_cells kind letter thn many hb1).2.2.2.2.1
    go_wp2_with fail
    go_ret
    exact ⟨ret_bool HF.out.symm, q1⟩

set_option maxHeartbeats 1600000 in
theorem specKeeps_any (kind : Int) (letter thn : ByteArray) (many : Int) (s : ByteArray) (w : World) (hs : s.size ≤ maxLen) :
    Calls Try.prog 103 #[.agg #[.int .i64 kind, .string letter, .string thn, .int .i64 many], .string s] w
      fun e w' => e = .returned (.bool ((Ru.mk kind letter thn many).keeps s)) ∧ Below w.heap.size w w' := by
  by_cases hok : (Ru.mk kind letter thn many).ok = true
  · by_cases hw : wordOk s = true
    · rw [Ru.keeps_of hok hw]
      obtain ⟨hl, hr⟩ := Ru.ok_iff.1 hok
      simp only at hl hr
      rcases hr with ⟨rfl, rfl, h0, h4⟩ | ⟨rfl, rfl, h0, h4⟩ | ⟨rfl, ht, rfl⟩ | ⟨rfl, rfl, h0, h4⟩ | ⟨rfl, rfl, h0, h4⟩
      · exact specKeeps_0 letter many s w hl h0 h4 hw
      · exact specKeeps_1 letter many s w hl h0 h4 hw
      · exact specKeeps_2 letter thn s w hl ht hw
      · exact specKeeps_3 letter many s w hl h0 h4 hw
      · exact specKeeps_4 letter many s w hl h0 h4 hw
    · have hw' : wordOk s = false := by simpa using hw
      have HF : Hid ((Ru.mk kind letter thn many).keeps s = false) := by
        have : (Ru.mk kind letter thn many).keeps s = false := by simp [Ru.keeps, hw']
        exact Lib.hid this
      clear hw
      go_enter Try.func103, Try.ntmps103
      go_wp2_with fail
      refine (specRuleOk_any kind letter thn many _).mono ?_
      rintro e w1 ⟨rfl, hb1⟩
      rw [hok]
      simp only [World.size_alloc] at hb1
      have q1 := (ru_cells kind letter thn many hb1).2.2.2.2.1
      go_wp2_with (go_at_call 58; refine (specWordOk_any _ _ hs).mono ?_; rintro e w' ⟨rfl, rfl⟩)
      go_ret
      exact ⟨ret_bool HF.out.symm, q1⟩
  · have hok' : (Ru.mk kind letter thn many).ok = false := by simpa using hok
    have HF : Hid ((Ru.mk kind letter thn many).keeps s = false) := by
      have : (Ru.mk kind letter thn many).keeps s = false := by simp [Ru.keeps, hok']
      exact Lib.hid this
    clear hok
    go_enter Try.func103, Try.ntmps103
    go_wp2_with fail
    refine (specRuleOk_any kind letter thn many _).mono ?_
    rintro e w1 ⟨rfl, hb1⟩
    rw [hok']
    simp only [World.size_alloc] at hb1
    have q1 := (ru_cells kind letter thn many hb1).2.2.2.2.1
    go_wp2_with fail
    go_ret
    exact ⟨ret_bool HF.out.symm, q1⟩
end Go.Proofs.Ytlbblfbiiceofaa
