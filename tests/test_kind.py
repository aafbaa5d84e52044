"""Promise 2: kind (as 1): 2 if n is rich, 1 if it's just, else 0."""

import unittest

from divisorrows.numbers import kind
from tests.plain import counted_total, is_prime, plain_kind, totals_between, totals_up_to

GREATEST = 1000000000


class Ordinary(unittest.TestCase):
    def expect(self, numbers, answer):
        for n in numbers:
            self.assertEqual(kind(n), [answer], n)

    def test_rich(self):
        self.expect((12, 18, 20, 24, 30, 36, 40, 70, 102, 836, 945, 1575, 2205, 81081), 2)
        self.expect((223092870, 735134400, 33550336 * 2), 2)

    def test_just(self):
        self.expect((6, 28, 496, 8128, 33550336), 1)

    def test_neither(self):
        self.expect((2, 3, 4, 5, 7, 8, 9, 10, 11, 14, 27, 29, 105, 315, 495, 497, 943, 947, 8127, 8129), 0)

    def test_all_just_numbers_up_to_ten_thousand(self):
        self.assertEqual([n for n in range(1, 10001) if kind(n) == [1]], [6, 28, 496, 8128])

    def test_first_odd_rich_numbers(self):
        rich = [n for n in range(1, 5000, 2) if kind(n) == [2]]
        self.assertEqual(rich, [945, 1575, 2205, 2835, 3465, 4095, 4725])

    def test_small_by_plain_count(self):
        for n in range(1, 1001):
            self.assertEqual(kind(n), [plain_kind(n, counted_total(n))], n)

    def test_up_to_twenty_thousand(self):
        totals = totals_up_to(20000)
        for n in range(1, 20001):
            self.assertEqual(kind(n), [plain_kind(n, totals[n])], n)

    def test_powers_of_two_fall_short_by_one(self):
        self.expect([2 ** e for e in range(30)], 0)

    def test_powers_of_other_primes(self):
        self.expect([3 ** e for e in range(19)], 0)
        self.expect((5 ** 12, 7 ** 10, 61 ** 5, 173 ** 4, 997 ** 3), 0)

    def test_multiples_of_a_just_number_are_rich(self):
        self.expect([6 * m for m in range(2, 200)], 2)
        self.expect([8128 * m for m in (2, 3, 7, 100003)], 2)


class Edges(unittest.TestCase):
    def test_least(self):
        self.assertEqual(kind(1), [0])

    def test_greatest(self):
        self.assertEqual(kind(GREATEST), [2])

    def test_last_before_the_greatest(self):
        for n, its_total in totals_between(GREATEST - 300, GREATEST).items():
            self.assertEqual(kind(n), [plain_kind(n, its_total)], n)

    def test_around_the_greatest_just_number(self):
        for n, its_total in totals_between(33550236, 33550436).items():
            self.assertEqual(kind(n), [plain_kind(n, its_total)], n)

    def test_large_primes_their_squares_and_products(self):
        for p in (999999937, 999999929, 999999893):
            self.assertTrue(is_prime(p))
            self.assertEqual(kind(p), [0], p)
        for n in (31607 ** 2, 31601 ** 2, 31601 * 31607, 31573 * 31627):
            self.assertEqual(kind(n), [0], n)

    def test_six_times_a_large_prime_is_rich(self):
        for p in (166666649, 166666639, 166666603):
            self.assertTrue(is_prime(p))
            self.assertEqual(kind(6 * p), [2], p)


class Refused(unittest.TestCase):
    def test_out_of_range(self):
        for n in (0, -1, -6, -GREATEST, GREATEST + 1, GREATEST + 2, -2147483648, 2147483647):
            self.assertEqual(kind(n), [-2], n)


if __name__ == "__main__":
    unittest.main()
