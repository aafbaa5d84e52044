"""What holds for every call: what it gives back, that it keeps nothing, and that it prints nothing."""

import contextlib
import io
import unittest

from divisorrows import numbers

OUT_OF_RANGE = (0, -1, 1000000001, -2147483648, 2147483647)
NUMBERS = (1, 2, 6, 8, 12, 25, 28, 220, 276, 562, 945, 8128, 12496, 14316, 31607 ** 2, 999999937, 1000000000)
OF_ONE = (numbers.total, numbers.kind, numbers.round_of)
STEPS = (0, 1, 2, 64, -1, 65, -2147483648, 2147483647)

STARTS = (0, 1, 6, 11, 12, 28, 944, 945, 1575, 999999, 1000000)
OUT_OF_STARTS = (-1, 1000001, -2147483648, 2147483647)
ODD = (0, 1)
OUT_OF_ODD = (-1, 2, -2147483648, 2147483647)
EXPONENTS = (1, 2, 3, 4, 9, 11, 31, 127, 521, 607, 1021, 1023, 1024)
OUT_OF_EXPONENTS = (0, -1, 1025, -2147483648, 2147483647)
SUMS = (1, 23, 24, 25, 36, 40, 46, 955, 956, 957, 1897, 9997, 9999, 10000, 1000000)
OUT_OF_SUMS = (0, -1, 1000001, -2147483648, 2147483647)
TIMES = (1, 2, 3, 4, 5)
OUT_OF_TIMES = (0, -1, 6, -2147483648, 2147483647)

# Each call with what is handed in.
ASKED = [(call, (n,)) for call in OF_ONE for n in NUMBERS + OUT_OF_RANGE]
ASKED += [(numbers.chain, (n, k)) for n in NUMBERS + OUT_OF_RANGE for k in STEPS]
ASKED += [(numbers.next_rich, (n, odd)) for n in STARTS + OUT_OF_STARTS for odd in ODD + OUT_OF_ODD]
ASKED += [(numbers.power, (p,)) for p in EXPONENTS + OUT_OF_EXPONENTS]
ASKED += [(numbers.two, (n,)) for n in SUMS + OUT_OF_SUMS]
ASKED += [(numbers.times, (k,)) for k in TIMES + OUT_OF_TIMES]


class Given(unittest.TestCase):
    def test_lists_of_whole_numbers(self):
        for call, handed in ASKED:
            answer = call(*handed)
            self.assertIs(type(answer), list)
            for number in answer:
                self.assertIs(type(number), int)

    def test_how_many_numbers(self):
        for n in NUMBERS:
            self.assertEqual(len(numbers.total(n)), 2, n)
            self.assertEqual(len(numbers.kind(n)), 1, n)
            self.assertEqual(len(numbers.round_of(n)), 1, n)
            for k in (0, 1, 2, 64):
                answer = numbers.chain(n, k)
                self.assertEqual(len(answer), answer[0] + 1, (n, k))
        for n in STARTS:
            for odd in ODD:
                self.assertEqual(len(numbers.next_rich(n, odd)), 1, (n, odd))
        for p in EXPONENTS:
            self.assertEqual(len(numbers.power(p)), 1, p)
        for n in SUMS:
            self.assertEqual(len(numbers.two(n)), 1, n)
        for k in TIMES:
            self.assertEqual(len(numbers.times(k)), 1, k)

    def test_a_refusal_is_alone(self):
        for call in OF_ONE:
            for n in OUT_OF_RANGE:
                self.assertEqual(call(n), [-2], (call, n))
        for n in OUT_OF_RANGE:
            for k in STEPS:
                self.assertEqual(numbers.chain(n, k), [-2], (n, k))
        for n in STARTS + OUT_OF_STARTS:
            for odd in ODD + OUT_OF_ODD:
                if n in OUT_OF_STARTS or odd in OUT_OF_ODD:
                    self.assertEqual(numbers.next_rich(n, odd), [-2], (n, odd))
        for p in OUT_OF_EXPONENTS:
            self.assertEqual(numbers.power(p), [-2], p)
        for n in OUT_OF_SUMS:
            self.assertEqual(numbers.two(n), [-2], n)
        for k in OUT_OF_TIMES:
            self.assertEqual(numbers.times(k), [-2], k)

    def test_arguments_by_name(self):
        self.assertEqual(numbers.total(n=12), [0, 28])
        self.assertEqual(numbers.kind(n=12), [2])
        self.assertEqual(numbers.chain(k=2, n=12), [2, 16, 15])
        self.assertEqual(numbers.round_of(n=220), [2])
        self.assertEqual(numbers.next_rich(odd=1, n=12), [945])
        self.assertEqual(numbers.power(p=7), [1])
        self.assertEqual(numbers.two(n=24), [12])
        self.assertEqual(numbers.times(k=3), [120])


class NothingKept(unittest.TestCase):
    def test_asked_again_in_other_orders(self):
        first = [(call, handed, call(*handed)) for call, handed in ASKED]
        by_what_is_handed_in = sorted(first, key=lambda row: row[1])
        for order in (first, first[::-1], by_what_is_handed_in, by_what_is_handed_in[::-1], first[1::2] + first[::2]):
            for call, handed, answer in order:
                self.assertEqual(call(*handed), answer, (call, handed))

    def test_changing_an_answer_changes_no_other(self):
        for call, handed in ASKED:
            answer = call(*handed)
            kept = list(answer)
            answer.append(7)
            answer[0] = 99
            self.assertEqual(call(*handed), kept, (call, handed))

    def test_the_module_is_left_as_it_was(self):
        before = {name: repr(value) for name, value in vars(numbers).items() if not name.startswith("__")}
        for call, handed in ASKED:
            call(*handed)
        after = {name: repr(value) for name, value in vars(numbers).items() if not name.startswith("__")}
        self.assertEqual(before, after)


class NothingPrinted(unittest.TestCase):
    def test_no_output(self):
        out, err = io.StringIO(), io.StringIO()
        with contextlib.redirect_stdout(out), contextlib.redirect_stderr(err):
            for call, handed in ASKED:
                call(*handed)
        self.assertEqual((out.getvalue(), err.getvalue()), ("", ""))


if __name__ == "__main__":
    unittest.main()
