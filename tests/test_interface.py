"""What the document's interface says of every function."""

import contextlib
import copy
import inspect
import io
import pathlib
import subprocess
import sys
import unittest

from singlechange import changerows

ROOT = pathlib.Path(__file__).resolve().parent.parent
PARAMETERS = {
    "gr_word": ["n", "i"], "gr_digits": ["k", "n", "i"], "gr_set": ["n", "k", "i"], "gr_order": ["n", "i"],
    "gr_place": ["n", "word"], "gr_digit_place": ["k", "n", "digits"],
    "gr_set_place": ["n", "the_set"], "gr_order_place": ["n", "order"],
}
CALLS = (
    (changerows.gr_word, (5, 17)), (changerows.gr_word, (5, 32)), (changerows.gr_word, (0, 0)),
    (changerows.gr_digits, (3, 4, 50)), (changerows.gr_digits, (3, 4, 81)), (changerows.gr_digits, (1, 4, 0)),
    (changerows.gr_set, (6, 3, 11)), (changerows.gr_set, (6, 3, 20)), (changerows.gr_set, (6, 7, 0)),
    (changerows.gr_order, (5, 77)), (changerows.gr_order, (5, 120)), (changerows.gr_order, (21, 0)),
    (changerows.gr_place, (5, 25)), (changerows.gr_place, (5, 32)), (changerows.gr_place, (0, 0)),
    (changerows.gr_digit_place, (3, 4, [1, 2, 0, 1])), (changerows.gr_digit_place, (3, 4, [1, 2, 3, 1])),
    (changerows.gr_digit_place, (1, 4, [])),
    (changerows.gr_set_place, (6, 41)), (changerows.gr_set_place, (6, 64)), (changerows.gr_set_place, (64, 0)),
    (changerows.gr_order_place, (5, [3, 0, 4, 1, 2])), (changerows.gr_order_place, (5, [3, 0, 4, 0, 2])),
    (changerows.gr_order_place, (21, [])),
)


def values_of_module():
    return {name: repr(value) for name, value in vars(changerows).items() if not name.startswith("__")}


class Interface(unittest.TestCase):
    def test_all_eight_functions(self):
        found = [name for name in vars(changerows) if name.startswith("gr_")]
        self.assertEqual(sorted(found), sorted(PARAMETERS))
        self.assertEqual(len(PARAMETERS), 8)
        self.assertEqual({function.__name__ for function, arguments in CALLS}, set(PARAMETERS))

    def test_names_and_arguments(self):
        for name, parameters in PARAMETERS.items():
            signature = inspect.signature(getattr(changerows, name))
            self.assertEqual(list(signature.parameters), parameters, name)
            for parameter in signature.parameters.values():
                self.assertIs(parameter.default, inspect.Parameter.empty, name)

    def test_nothing_is_printed(self):
        printed = io.StringIO()
        with contextlib.redirect_stdout(printed), contextlib.redirect_stderr(printed):
            for function, arguments in CALLS:
                function(*arguments)
        self.assertEqual(printed.getvalue(), "")

    def test_nothing_is_kept(self):
        before = values_of_module()
        answers = [function(*arguments) for function, arguments in CALLS]
        backwards = [function(*arguments) for function, arguments in reversed(CALLS)]
        self.assertEqual(answers, list(reversed(backwards)))
        self.assertEqual(values_of_module(), before)

    def test_a_call_between_changes_nothing(self):
        for function, arguments in CALLS:
            answer = function(*arguments)
            for between, its_arguments in CALLS:
                between(*its_arguments).append(99)
                self.assertEqual(function(*arguments), answer, (function, arguments, between))

    def test_what_is_handed_in_is_not_changed(self):
        for function, arguments in CALLS:
            handed_in = copy.deepcopy(arguments)
            answer = function(*handed_in)
            self.assertEqual(handed_in, arguments, function)
            answer.append(99)
            self.assertEqual(handed_in, arguments, function)

    def test_nothing_else_is_imported(self):
        program = (
            "import sys; before = set(sys.modules); import singlechange.changerows; "
            "print(sorted(set(sys.modules) - before))")
        run = subprocess.run(
            [sys.executable, "-c", program], cwd=ROOT, capture_output=True, text=True, check=True)
        self.assertEqual(run.stdout.strip(), "['singlechange', 'singlechange.changerows']")
        self.assertEqual(run.stderr, "")


if __name__ == "__main__":
    unittest.main()
