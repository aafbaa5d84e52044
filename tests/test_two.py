"""Promise 7: two (n 1 to 1000000): the least rich a for which n - a is rich, too, and no less than a. -5 if none."""

import unittest

from divisorrows.numbers import kind, two
from tests.plain import counted_total, first_two, totals_up_to

GREATEST = 1000000
ASKED_UP_TO = 10000


class TwoTest(unittest.TestCase):
    def expect(self, n, answer):
        self.assertEqual(two(n), [answer], n)

    def expect_all(self, known):
        for n, answer in known.items():
            self.expect(n, answer)


class Ordinary(TwoTest):
    def test_the_least_that_is_two_rich_ones(self):
        self.expect_all({22: -5, 23: -5, 24: 12, 25: -5})

    def test_twice_a_rich_one(self):
        # 36 is 18 and 18, but 12 and 24 as well; 24 and 40 are twice one alone.
        self.expect_all({24: 12, 36: 12, 40: 20})

    def test_twice_a_just_or_poor_one(self):
        self.expect_all({12: -5, 16: -5, 20: -5, 56: 20})

    def test_just_ones_are_not_rich(self):
        # 6 and 12, 6 and 28, 12 and 28, 18 and 28 are none of them two rich ones.
        self.expect_all({18: -5, 34: -5, 40: 20, 46: -5})

    def test_even_with_none(self):
        for n in (2, 4, 10, 12, 14, 22, 26, 28, 34, 46):
            self.expect(n, -5)

    def test_even_ones_behind_46_all_have_one(self):
        for n in range(48, 1001, 2):
            self.assertNotEqual(two(n), [-5], n)

    def test_about_the_least_odd_one(self):
        self.expect_all({955: -5, 956: 20, 957: 12, 958: 18, 959: -5})

    def test_odd_with_none(self):
        for n in (1, 3, 23, 25, 945, 951, 953, 955, 959, 961):
            self.expect(n, -5)

    def test_the_odd_one_of_the_two_may_be_either(self):
        # 945 is the only odd rich number below 1575: the greater with 12 and 18, the lesser with 952.
        self.expect_all({957: 12, 963: 18, 1897: 945})


class ByPlainCount(TwoTest):
    def test_up_to_a_thousand(self):
        rich = [n > 0 and counted_total(n) > 2 * n for n in range(1001)]
        for n in range(1, 1001):
            self.expect(n, first_two(n, rich))

    def test_up_to_ten_thousand(self):
        totals = totals_up_to(ASKED_UP_TO)
        rich = [totals[n] > 2 * n for n in range(ASKED_UP_TO + 1)]
        for n in range(1001, ASKED_UP_TO + 1):
            self.expect(n, first_two(n, rich))


class BeyondTenThousand(TwoTest):
    @classmethod
    def setUpClass(cls):
        totals = totals_up_to(GREATEST)
        cls.rich = [totals[n] > 2 * n for n in range(GREATEST + 1)]

    def test_about_the_last_with_none(self):
        for n in range(20150, 20200):
            self.expect(n, first_two(n, self.rich))
        self.expect(20161, -5)

    def test_scattered(self):
        for n in range(10001, GREATEST, 1999):
            self.expect(n, first_two(n, self.rich))

    def test_last_up_to_the_greatest(self):
        for n in range(GREATEST - 50, GREATEST + 1):
            self.expect(n, first_two(n, self.rich))


class Edges(TwoTest):
    def test_least(self):
        for n in range(1, 24):
            self.expect(n, -5)

    def test_greatest_asked(self):
        self.expect_all({9997: 2752, 9998: 18, 9999: 234, 10000: 20, 10001: 1496})

    def test_greatest(self):
        self.expect_all({999999: 504, 1000000: 20})

    def test_what_is_found_is_rich_and_the_lesser(self):
        for n in (24, 36, 40, 957, 1897, 9997, 9999, 10000, 999999, GREATEST):
            (found,) = two(n)
            self.assertLessEqual(found, n - found)
            self.assertEqual((kind(found), kind(n - found)), ([2], [2]), n)


class Refused(TwoTest):
    def test_out_of_range(self):
        for n in (0, -1, -2, -24, -957, -GREATEST, GREATEST + 1, GREATEST + 2, 1000000000, -2147483648, 2147483647):
            self.expect(n, -2)


if __name__ == "__main__":
    unittest.main()
