/- Three closed facts of the translation's head, asked once for all laws of a seat (they weigh 9 GB in the kernel). No condition. -/
import Derived.Test.YtggohgkjdnnndaaFrame
namespace Go.Proofs.Ytggohgkjdnnndaa
theorem hd3 : ((false == Try.pinned.checked.prog.liftsFinal) && (Try.pinned.checked.prog.make == some .cut) && Try.pinned.checked.prog.mayEnter) = true := by kernel_rfl
theorem hdL (b : Bool) (h : b = false) : (b == Try.pinned.checked.prog.liftsFinal) = true := by
  subst h; exact (Bool.and_eq_true_iff.1 (Bool.and_eq_true_iff.1 hd3).1).1
theorem hdM (k : Make) (h : k = .cut) : (Try.pinned.checked.prog.make == some k) = true := by
  subst h; exact (Bool.and_eq_true_iff.1 (Bool.and_eq_true_iff.1 hd3).1).2
theorem hdE : Try.pinned.checked.prog.mayEnter = true := (Bool.and_eq_true_iff.1 hd3).2
end Go.Proofs.Ytggohgkjdnnndaa
