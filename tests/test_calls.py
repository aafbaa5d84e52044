"""What holds for every call: what it gives back, that it keeps nothing, and that it prints nothing."""

import contextlib
import io
import unittest

from divisorrows import numbers

ASKED = (1, 2, 6, 8, 12, 28, 945, 8128, 31607 ** 2, 999999937, 1000000000, 0, -1, 1000000001, -2147483648, 2147483647)
CALLS = (numbers.total, numbers.kind)


class Given(unittest.TestCase):
    def test_lists_of_whole_numbers(self):
        for call in CALLS:
            for n in ASKED:
                answer = call(n)
                self.assertIs(type(answer), list)
                for number in answer:
                    self.assertIs(type(number), int)

    def test_how_many_numbers(self):
        for n in ASKED:
            refused = not 1 <= n <= 1000000000
            self.assertEqual(len(numbers.total(n)), 1 if refused else 2, n)
            self.assertEqual(len(numbers.kind(n)), 1, n)

    def test_arguments_by_name(self):
        self.assertEqual(numbers.total(n=12), [0, 28])
        self.assertEqual(numbers.kind(n=12), [2])


class NothingKept(unittest.TestCase):
    def test_asked_again_in_other_orders(self):
        asked = [(call, n) for call in CALLS for n in ASKED]
        first = {pair: pair[0](pair[1]) for pair in asked}
        interleaved = [(call, n) for n in ASKED for call in CALLS]
        for order in (asked, asked[::-1], interleaved, interleaved[::-1], asked[1::2] + asked[::2]):
            for call, n in order:
                self.assertEqual(call(n), first[(call, n)], (call, n))

    def test_changing_an_answer_changes_no_other(self):
        for call in CALLS:
            for n in (6, 12, 0):
                answer = call(n)
                kept = list(answer)
                answer.append(7)
                answer[0] = 99
                self.assertEqual(call(n), kept)

    def test_the_module_is_left_as_it_was(self):
        before = {name: value for name, value in vars(numbers).items() if not name.startswith("__")}
        for call in CALLS:
            for n in ASKED:
                call(n)
        after = {name: value for name, value in vars(numbers).items() if not name.startswith("__")}
        self.assertEqual(before, after)


class NothingPrinted(unittest.TestCase):
    def test_no_output(self):
        out, err = io.StringIO(), io.StringIO()
        with contextlib.redirect_stdout(out), contextlib.redirect_stderr(err):
            for call in CALLS:
                for n in ASKED:
                    call(n)
        self.assertEqual((out.getvalue(), err.getvalue()), ("", ""))


if __name__ == "__main__":
    unittest.main()
