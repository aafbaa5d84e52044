"""Promise 3: chain (n as 1, k 0 to 64): k steps from n on, or as many as there are."""

import unittest

from divisorrows.numbers import chain
from tests.plain import counted_steps, counted_total, is_prime, paired_total

GREATEST = 1000000000
OUT_OF_N = (0, -1, -6, -GREATEST, GREATEST + 1, GREATEST + 2, -2147483648, 2147483647)
OUT_OF_K = (-1, -2, -64, 65, 66, GREATEST, -2147483648, 2147483647)


class ChainTest(unittest.TestCase):
    def expect(self, n, k, led_to):
        self.assertEqual(chain(n, k), [len(led_to)] + led_to, (n, k))

    def expect_counted(self, n, k, total=paired_total):
        self.expect(n, k, counted_steps(n, k, total))


class PlainCount(unittest.TestCase):
    def test_both_plain_counts_agree(self):
        for n in range(1, 1001):
            self.assertEqual(paired_total(n), counted_total(n), n)


class EndingAtZero(ChainTest):
    def test_one(self):
        for k in (1, 2, 3, 63, 64):
            self.expect(1, k, [0])

    def test_primes(self):
        for p in (2, 3, 5, 7, 97, 7919, 1000003, 999999937):
            self.assertTrue(is_prime(p))
            self.expect(p, 1, [1])
            for k in (2, 3, 64):
                self.expect(p, k, [1, 0])

    def test_twelve(self):
        led_to = [16, 15, 9, 4, 3, 1, 0]
        for k in range(65):
            self.expect(12, k, led_to[:k])

    def test_few_steps_of_276(self):
        led_to = [396, 696, 1104, 1872, 3770, 3790, 3050, 2716, 2772, 5964]
        for k in range(11):
            self.expect(276, k, led_to[:k])
            self.expect_counted(276, k, counted_total)

    def test_as_many_steps_as_may_be_asked(self):
        # From 2268 there are 63 steps to 0, from 1608 there are 64, from 1032 there are 65.
        for n, last in ((2268, [1, 0]), (1608, [1, 0]), (1032, [41, 1])):
            self.assertEqual(chain(n, 64)[-2:], last)
            for k in (62, 63, 64):
                self.expect_counted(n, k)
        self.assertEqual(chain(2268, 64)[0], 63)
        self.assertEqual(chain(1608, 64)[0], 64)
        self.assertEqual(chain(1032, 64)[0], 64)


class ComingRound(ChainTest):
    def test_just_numbers(self):
        for n in (6, 28, 496, 8128, 33550336):
            for k in (0, 1, 2, 63, 64):
                self.expect(n, k, [n] * k)

    def test_two_and_two(self):
        for n, other in ((220, 284), (284, 220), (1184, 1210), (1210, 1184)):
            for k in range(65):
                self.expect(n, k, ([other, n] * 32)[:k])

    def test_five(self):
        led_to = [14288, 15472, 14536, 14264, 12496] * 13
        for k in range(65):
            self.expect(12496, k, led_to[:k])

    def test_twenty_eight(self):
        self.expect_counted(14316, 64)
        self.assertEqual(chain(14316, 64)[28], 14316)

    def test_leading_into_a_circle(self):
        self.expect(25, 64, [6] * 64)
        self.expect(95, 64, [25] + [6] * 63)
        self.expect(562, 64, [284, 220] * 32)


class LeadingAbove(ChainTest):
    def test_greatest(self):
        for k in (1, 2, 3, 63, 64):
            self.expect(GREATEST, k, [1497558338])

    def test_the_step_that_leads_above_is_the_last(self):
        led_to = chain(276, 64)[1:]
        self.assertEqual(led_to[-2:], [558454764, 1092873236])
        self.assertEqual(len(led_to), 35)
        for k in (34, 35, 36, 64):
            self.expect(276, k, led_to[:k])
            self.expect_counted(276, k)

    def test_leading_just_above(self):
        self.expect(674196990, 64, [1000000002])

    def test_a_circle_that_is_left_above(self):
        # What these lead to would lead back, but there's no step from it.
        self.expect(962951312, 64, [1003172848])
        self.expect(925949992, 64, [1001668568])
        self.expect(805984760, 64, [1268997640])

    def test_above_after_as_many_steps_as_may_be_asked(self):
        for n, count, above in ((3084, 63, True), (2292, 64, True), (7225, 64, False)):
            answer = chain(n, 64)
            self.assertEqual((answer[0], answer[-1] > GREATEST), (count, above), n)
            self.expect_counted(n, 64)


class ByPlainCount(ChainTest):
    def test_small_numbers_a_few_steps(self):
        for n in range(1, 401):
            self.expect_counted(n, 4, counted_total)

    def test_small_numbers_all_steps(self):
        for n in range(1, 201):
            self.expect_counted(n, 64)

    def test_great_numbers(self):
        for n in (2 ** 29, 31607 ** 2, 31601 * 31607, 123456789, 223092870, 999999937, 999999998, 999999999):
            for k in (1, 2, 5, 64):
                self.expect_counted(n, k)

    def test_fewer_steps_are_the_first_of_more(self):
        for n in (1, 2, 12, 30, 138, 276, 1608, 12496, 999999999, GREATEST):
            led_to = chain(n, 64)[1:]
            for k in range(65):
                self.expect(n, k, led_to[:k])


class Edges(ChainTest):
    def test_no_step_asked(self):
        for n in (1, 2, 6, 12, 220, 276, 999999937, GREATEST):
            self.assertEqual(chain(n, 0), [0], n)

    def test_one_step_asked(self):
        for n in list(range(1, 1001)) + [999999937, GREATEST - 1, GREATEST]:
            self.expect_counted(n, 1)

    def test_least_and_greatest(self):
        self.assertEqual(chain(1, 0), [0])
        self.assertEqual(chain(1, 64), [1, 0])
        self.assertEqual(chain(GREATEST, 0), [0])
        self.assertEqual(chain(GREATEST, 64), [1, 1497558338])


class Refused(unittest.TestCase):
    def test_n_out_of_range(self):
        for n in OUT_OF_N:
            for k in (0, 1, 5, 64):
                self.assertEqual(chain(n, k), [-2], (n, k))

    def test_k_out_of_range(self):
        for k in OUT_OF_K:
            for n in (1, 6, 12, 276, GREATEST):
                self.assertEqual(chain(n, k), [-2], (n, k))

    def test_both_out_of_range(self):
        for n in OUT_OF_N:
            for k in OUT_OF_K:
                self.assertEqual(chain(n, k), [-2], (n, k))


if __name__ == "__main__":
    unittest.main()
