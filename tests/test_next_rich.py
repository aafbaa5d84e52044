"""Promise 5: next (n 0 to 1000000, odd 0 or 1): the least rich number greater than n; if odd is 1, the least odd one."""

import bisect
import unittest

from divisorrows.numbers import kind, next_rich
from tests.plain import counted_next, counted_total, is_prime, totals_between, totals_up_to

GREATEST = 1000000
OUT_OF_N = (-1, -2, -12, -GREATEST, GREATEST + 1, GREATEST + 2, 1000000000, -2147483648, 2147483647)
OUT_OF_ODD = (-1, -2, 2, 3, 945, 1000000000, -2147483648, 2147483647)


class NextTest(unittest.TestCase):
    def expect(self, n, odd, answer):
        self.assertEqual(next_rich(n, odd), [answer], (n, odd))

    def expect_counted(self, n, odd):
        self.expect(n, odd, counted_next(n, odd))

    def expect_first_behind(self, n, odd, rich):
        self.expect(n, odd, rich[bisect.bisect_right(rich, n)])


class Any(NextTest):
    def test_around_rich_numbers(self):
        known = {11: 12, 12: 18, 13: 18, 17: 18, 18: 20, 19: 20, 20: 24, 23: 24, 24: 30, 69: 70, 70: 72, 71: 72}
        for n, answer in known.items():
            self.expect(n, 0, answer)
            self.assertEqual(counted_next(n, 0, counted_total), answer, n)

    def test_just_numbers_are_not_rich(self):
        for n, answer in ((5, 12), (6, 12), (7, 12), (27, 30), (28, 30), (29, 30), (495, 498), (496, 498),
                          (8127, 8130), (8128, 8130)):
            self.expect(n, 0, answer)
            self.assertEqual(counted_next(n, 0, counted_total), answer, n)

    def test_odd_ones_count_too(self):
        for n, answer in ((942, 945), (943, 945), (944, 945), (945, 948), (946, 948), (1572, 1575), (1574, 1575),
                          (1575, 1578)):
            self.expect(n, 0, answer)
            self.assertEqual(counted_next(n, 0, counted_total), answer, n)

    def test_behind_primes(self):
        for p in (2, 3, 97, 7919, 999983):
            self.assertTrue(is_prime(p))
            self.expect_counted(p, 0)

    def test_small_by_plain_count(self):
        for n in range(501):
            self.expect(n, 0, counted_next(n, 0, counted_total))


class Odd(NextTest):
    def test_around_odd_rich_numbers(self):
        known = {943: 945, 944: 945, 945: 1575, 946: 1575, 947: 1575, 1573: 1575, 1574: 1575, 1575: 2205, 1576: 2205,
                 2204: 2205, 2205: 2835}
        for n, answer in known.items():
            self.expect(n, 1, answer)
            self.assertEqual(counted_next(n, 1, counted_total), answer, n)

    def test_around_even_rich_and_just_numbers(self):
        for n in (5, 6, 7, 11, 12, 17, 18, 19, 20, 27, 28, 29, 496):
            self.expect(n, 1, 945)
            self.assertEqual(counted_next(n, 1, counted_total), 945, n)
        self.expect(8128, 1, 8415)
        self.expect_counted(8128, 1)

    def test_the_first_that_five_does_not_divide(self):
        self.expect(81080, 1, 81081)
        self.expect_counted(81079, 1)
        self.expect_counted(81081, 1)

    def test_the_longest_way(self):
        # Twice 945: between these two no other odd number is rich.
        self.expect(881685, 1, 883575)
        self.expect(881684, 1, 881685)
        self.expect(883574, 1, 883575)


class ByPlainCount(NextTest):
    @classmethod
    def setUpClass(cls):
        totals = totals_up_to(GREATEST + 2000)
        cls.rich = [n for n in range(1, GREATEST + 2001) if totals[n] > 2 * n]
        cls.odd_rich = [n for n in cls.rich if n % 2 == 1]

    def test_any_up_to_thirty_thousand(self):
        for n in range(30001):
            self.expect_first_behind(n, 0, self.rich)

    def test_odd_up_to_six_thousand(self):
        for n in range(6001):
            self.expect_first_behind(n, 1, self.odd_rich)

    def test_any_around_each_odd_rich_number(self):
        for found in self.odd_rich:
            for n in range(found - 2, found + 2):
                if n <= GREATEST:
                    self.expect_first_behind(n, 0, self.rich)

    def test_each_odd_rich_number_from_a_little_before(self):
        for found in self.odd_rich:
            for n in range(found - 4, found):
                if n <= GREATEST:
                    self.expect_first_behind(n, 1, self.odd_rich)

    def test_each_odd_rich_number_up_to_a_hundred_thousand_from_the_one_before(self):
        for n, found in zip(self.odd_rich, self.odd_rich[1:]):
            if n <= 100000:
                self.expect(n, 1, found)

    def test_the_longest_way_is_the_longest(self):
        ways = [(found - n, n) for n, found in zip(self.odd_rich, self.odd_rich[1:])]
        self.assertIn((1890, 881685), ways)
        self.assertEqual(max(ways)[0], 1890)

    def test_scattered(self):
        for n in range(0, GREATEST, 997):
            self.expect_first_behind(n, 0, self.rich)
        for n in range(0, GREATEST, 9973):
            self.expect_first_behind(n, 1, self.odd_rich)

    def test_last_before_the_greatest(self):
        for n in range(GREATEST - 300, GREATEST + 1):
            self.expect_first_behind(n, 0, self.rich)
            self.expect_first_behind(n, 1, self.odd_rich)


class Edges(NextTest):
    def test_least(self):
        self.expect(0, 0, 12)
        self.expect(0, 1, 945)
        self.expect(1, 0, 12)
        self.expect(1, 1, 945)

    def test_greatest(self):
        self.expect(GREATEST, 0, 1000002)
        self.expect(GREATEST, 1, 1000125)
        totals = totals_between(GREATEST + 1, 1000125)
        rich = [n for n in totals if totals[n] > 2 * n]
        self.assertEqual(rich[0], 1000002)
        self.assertEqual([n for n in rich if n % 2 == 1], [1000125])

    def test_right_before_the_greatest(self):
        self.expect(GREATEST - 1, 0, GREATEST)
        self.expect(GREATEST - 1, 1, 1000125)

    def test_what_is_found_is_rich_and_greater(self):
        for n in (0, 1, 11, 12, 944, 945, 999999, GREATEST):
            for odd in (0, 1):
                (found,) = next_rich(n, odd)
                self.assertGreater(found, n)
                self.assertEqual(kind(found), [2])
                self.assertTrue(odd == 0 or found % 2 == 1)


class Refused(NextTest):
    def test_n_out_of_range(self):
        for n in OUT_OF_N:
            for odd in (0, 1):
                self.expect(n, odd, -2)

    def test_odd_out_of_range(self):
        for odd in OUT_OF_ODD:
            for n in (0, 1, 11, 12, 944, 945, GREATEST):
                self.expect(n, odd, -2)

    def test_both_out_of_range(self):
        for n in OUT_OF_N:
            for odd in OUT_OF_ODD:
                self.expect(n, odd, -2)


if __name__ == "__main__":
    unittest.main()
