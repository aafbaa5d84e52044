"""Promise 4: round (as 1): the least number of steps, 1 to 64, by which n leads to n. -5 if there's none."""

import unittest

from divisorrows.numbers import round_of
from tests.plain import counted_round, counted_steps, is_prime, paired_total

GREATEST = 1000000000


class RoundTest(unittest.TestCase):
    def expect(self, numbers, answer):
        for n in numbers:
            self.assertEqual(round_of(n), [answer], n)


class ComingRound(RoundTest):
    def test_just_numbers(self):
        self.expect((6, 28, 496, 8128, 33550336), 1)

    def test_two_steps(self):
        self.expect((220, 284, 1184, 1210, 2620, 2924, 5020, 5564, 6232, 6368, 10744, 10856, 12285, 14595), 2)

    def test_four_steps(self):
        self.expect((1264460, 1547860, 1727636, 1305184), 4)

    def test_five_steps_from_each_of_the_circle(self):
        self.expect((12496, 14288, 15472, 14536, 14264), 5)

    def test_twenty_eight_steps_from_each_of_the_circle(self):
        circle = counted_steps(14316, 28)
        self.assertEqual(len(set(circle)), 28)
        self.assertEqual(circle[-1], 14316)
        self.expect(circle, 28)

    def test_two_steps_with_great_numbers(self):
        self.expect((66928, 66992, 67095, 71145, 69615, 87633), 2)


class NeverBack(RoundTest):
    def test_ending_at_zero(self):
        self.expect((2, 3, 4, 8, 9, 10, 12, 15, 16, 30, 1032, 1608, 2268), -5)

    def test_primes(self):
        for p in (2, 3, 7, 97, 7919, 1000003, 999999937):
            self.assertTrue(is_prime(p))
            self.expect((p,), -5)

    def test_leading_to_a_just_number(self):
        for n in (25, 95, 119, 143, 417, 608, 650, 652, 675, 685):
            self.assertIn(counted_steps(n, 64)[-1], (6, 496), n)
            self.expect((n,), -5)

    def test_leading_into_a_circle_of_others(self):
        self.assertEqual(counted_steps(562, 3), [284, 220, 284])
        for n in (562, 1064, 1188, 1308, 1336, 1380, 1420, 1490):
            self.assertIn(counted_steps(n, 64)[-1], (220, 1184, 1210, 2620, 2924), n)
            self.expect((n,), -5)

    def test_leading_above(self):
        for n in (276, 552, 564, 660, 966, 223092870, 999999990):
            self.assertGreater(counted_steps(n, 64)[-1], GREATEST, n)
            self.expect((n,), -5)

    def test_the_way_back_is_from_above(self):
        # What these lead to would lead back to them, but there's no step from a number above the greatest.
        for n in (962951312, 925949992, 869530725, 938304290):
            above = paired_total(n) - n
            self.assertGreater(above, GREATEST)
            self.assertEqual(paired_total(above) - above, n)
            self.expect((n,), -5)
            self.expect((above,), -2)


class ByPlainCount(RoundTest):
    def test_small_numbers(self):
        for n in range(1, 301):
            self.expect((n,), counted_round(n))

    def test_all_that_come_round_up_to_three_thousand(self):
        found = {n: round_of(n) for n in range(1, 3001)}
        self.assertEqual({n: answer for n, answer in found.items() if answer != [-5]},
                         {6: [1], 28: [1], 496: [1], 220: [2], 284: [2], 1184: [2], 1210: [2], 2620: [2], 2924: [2]})

    def test_around_those_that_come_round(self):
        for n in (8128, 12496, 14316, 33550336):
            for near in (n - 2, n - 1, n, n + 1, n + 2):
                self.expect((near,), counted_round(near))


class Edges(RoundTest):
    def test_least_and_greatest(self):
        self.expect((1, GREATEST), -5)

    def test_last_before_the_greatest(self):
        for n in range(GREATEST - 5, GREATEST + 1):
            self.expect((n,), counted_round(n))


class Refused(RoundTest):
    def test_out_of_range(self):
        self.expect((0, -1, -6, -220, -GREATEST, GREATEST + 1, GREATEST + 2, -2147483648, 2147483647), -2)


if __name__ == "__main__":
    unittest.main()
