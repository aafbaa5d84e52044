"""Promise 6: power (p 1 to 1024): 1 if 2 to the p, less 1, is a prime, else 0."""

import unittest

from divisorrows.numbers import power
from tests.plain import is_prime, shown_composite

GREATEST = 1024
GIVING_PRIMES = (2, 3, 5, 7, 13, 17, 19, 31, 61, 89, 107, 127, 521, 607)
BASES = (2, 3, 5, 7, 11, 13, 17, 19, 23, 29, 31, 37)


class PowerTest(unittest.TestCase):
    def expect(self, exponents, answer):
        for p in exponents:
            self.assertEqual(power(p), [answer], p)


class Ordinary(PowerTest):
    def test_giving_a_prime(self):
        self.expect(GIVING_PRIMES, 1)

    def test_primes_that_give_none(self):
        exponents = (11, 23, 29, 37, 41, 43, 47, 53, 59, 67, 257, 1009, 1013, 1019, 1021)
        self.assertTrue(all(is_prime(p) for p in exponents))
        self.expect(exponents, 0)

    def test_with_a_known_divisor(self):
        for p, divisor in ((11, 23), (23, 47), (29, 233), (37, 223), (41, 13367), (43, 431), (67, 193707721),
                           (1013, 6079), (1019, 2039)):
            self.assertEqual((2 ** p - 1) % divisor, 0, p)
            self.expect((p,), 0)

    def test_no_primes(self):
        exponents = (1, 4, 6, 8, 9, 10, 15, 25, 49, 121, 341, 561, 961, 1022, 1023, 1024)
        self.assertFalse(any(is_prime(p) for p in exponents))
        self.expect(exponents, 0)

    def test_products_of_those_that_give_primes(self):
        products = [p * q for p in GIVING_PRIMES for q in GIVING_PRIMES if p * q <= GREATEST]
        self.assertIn(961, products)
        self.expect(products, 0)

    def test_small_by_trial_division(self):
        for p in range(1, 41):
            self.expect((p,), 1 if is_prime(2 ** p - 1) else 0)


class EveryOne(PowerTest):
    def test_all_that_give_a_prime(self):
        self.assertEqual([p for p in range(1, GREATEST + 1) if power(p) == [1]], list(GIVING_PRIMES))

    def test_each_is_one_or_none(self):
        for p in range(1, GREATEST + 1):
            self.expect((p,), 1 if p in GIVING_PRIMES else 0)

    def test_by_millers_test(self):
        # Base 3 for those that are none, since to base 2 none of them with a prime p is shown.
        for p in range(2, GREATEST + 1):
            if power(p) == [1]:
                self.assertFalse(any(shown_composite(2 ** p - 1, base) for base in BASES if base < 2 ** p - 1), p)
            else:
                self.assertTrue(shown_composite(2 ** p - 1, 3), p)


class Edges(PowerTest):
    def test_least(self):
        # 2 to the 1, less 1, is 1: no prime.
        self.expect((1,), 0)
        self.expect((2, 3), 1)

    def test_greatest(self):
        self.expect((1021, 1022, 1023, 1024), 0)


class Refused(PowerTest):
    def test_out_of_range(self):
        self.expect((0, -1, -2, -3, -7, -1024, 1025, 1026, 1279, 2203, 1000000000, -2147483648, 2147483647), -2)


if __name__ == "__main__":
    unittest.main()
