/- The contract of split. -/
import Derived.Test.YtfkjnepafgehiaaSplitL
import Derived.Test.YtfkjnepafgehiaaSplitR
namespace Go.Proofs.Ytfkjnepafgehiaa
open Go.RowKit

theorem split_at (t : T) : SplitAt t := by
  induction t with
  | nil =>
    intro i p w hi hn hb ho
    obtain rfl : i = 0 := by simp [T.count] at hi; omega
    exact split_zero hn hb
  | node l x r hl hr =>
    intro i p w hi hn hb ho
    rcases Nat.eq_zero_or_pos i with h0 | h0
    · subst h0; exact split_zero hn hb
    · by_cases h1 : i = (T.node l x r).count
      · subst h1; exact split_all hn hb (by simp only [T.count]; omega)
      · by_cases h2 : i ≤ l.count
        · exact split_left hl h0 h2 hn hb ho
        · exact split_right hr (by omega) (by omega) hn hb ho
end Go.Proofs.Ytfkjnepafgehiaa
