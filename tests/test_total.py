"""Promise 1: total (n 1 to 1000000000): n's total."""

import unittest

from divisorrows.numbers import total
from tests.plain import counted_total, is_prime, totals_between, totals_up_to

GREATEST = 1000000000


class Ordinary(unittest.TestCase):
    def test_known(self):
        known = {1: 1, 2: 3, 3: 4, 4: 7, 6: 12, 8: 15, 9: 13, 12: 28, 28: 56, 36: 91, 100: 217, 220: 504, 284: 504,
                 496: 992, 945: 1920, 8128: 16256, 33550336: 67100672}
        for n, its_total in known.items():
            self.assertEqual(total(n), [0, its_total], n)

    def test_small_by_plain_count(self):
        for n in range(1, 1001):
            self.assertEqual(total(n), [0, counted_total(n)], n)

    def test_up_to_twenty_thousand(self):
        totals = totals_up_to(20000)
        for n in range(1, 20001):
            self.assertEqual(total(n), [0, totals[n]], n)

    def test_rows_of_neighbours(self):
        for first in (999500, 123456500, 2 ** 29 - 100, 31607 ** 2 - 100):
            for n, its_total in totals_between(first, first + 200).items():
                self.assertEqual(total(n), [0, its_total], n)

    def test_primes(self):
        for p in (2, 3, 5, 7, 97, 997, 7919, 65537, 1000003):
            self.assertTrue(is_prime(p))
            self.assertEqual(total(p), [0, p + 1], p)

    def test_powers_of_a_prime(self):
        for p in (2, 3, 5, 7, 11, 13, 61, 173, 997, 31607):
            power, its_total = 1, 1
            while power * p <= GREATEST:
                power *= p
                its_total += power
                self.assertEqual(total(power), [0, its_total], power)

    def test_products_of_several_primes(self):
        # The greatest product of the first primes in a row, and numbers with very many divisors.
        self.assertEqual(total(223092870), [0, 3 * 4 * 6 * 8 * 12 * 14 * 18 * 20 * 24])
        self.assertEqual(total(735134400), [0, 127 * 40 * 31 * 8 * 12 * 14 * 18])
        self.assertEqual(total(2 * 3 * 5 * 7 * 1009), [0, 3 * 4 * 6 * 8 * 1010])
        self.assertEqual(total(9 * 49 * 10007), [0, 13 * 57 * 10008])


class Edges(unittest.TestCase):
    def test_least(self):
        self.assertEqual(total(1), [0, 1])

    def test_greatest(self):
        self.assertEqual(total(GREATEST), [0, (2 ** 10 - 1) * ((5 ** 10 - 1) // 4)])
        self.assertEqual(total(GREATEST), [0, 2497558338])

    def test_last_before_the_greatest(self):
        for n, its_total in totals_between(GREATEST - 300, GREATEST).items():
            self.assertEqual(total(n), [0, its_total], n)

    def test_large_primes(self):
        for p in (999999937, 999999929, 999999893, 998244353, 536870909):
            self.assertTrue(is_prime(p))
            self.assertEqual(total(p), [0, p + 1], p)

    def test_squares_of_large_primes(self):
        for p in (31607, 31601, 31583, 31573, 22367):
            self.assertTrue(is_prime(p))
            self.assertEqual(total(p * p), [0, 1 + p + p * p], p)

    def test_products_of_two_large_primes(self):
        pairs = ((31601, 31607), (31583, 31607), (31573, 31627), (2, 499999993), (3, 333333313), (10007, 99929))
        for p, q in pairs:
            self.assertTrue(is_prime(p) and is_prime(q) and p * q <= GREATEST, (p, q))
            self.assertEqual(total(p * q), [0, (p + 1) * (q + 1)], (p, q))


class Refused(unittest.TestCase):
    def test_out_of_range(self):
        for n in (0, -1, -6, -GREATEST, GREATEST + 1, GREATEST + 2, -2147483648, 2147483647):
            self.assertEqual(total(n), [-2], n)


if __name__ == "__main__":
    unittest.main()
