"""Promise 8: times (k 1 to 5): the least number whose total is at least k times itself."""

import unittest

from divisorrows.numbers import times, total
from tests.plain import all_with_times, counted_total, paired_total, totals_up_to

ANSWERS = {1: 1, 2: 6, 3: 120, 4: 27720, 5: 122522400}


class TimesTest(unittest.TestCase):
    def expect(self, k, answer):
        self.assertEqual(times(k), [answer], k)


class EveryOne(TimesTest):
    def test_answers(self):
        for k, answer in ANSWERS.items():
            self.expect(k, answer)

    def test_the_total_is_at_least_k_times_the_answer(self):
        for k in range(1, 6):
            (found,) = times(k)
            self.assertGreaterEqual(paired_total(found), k * found)
            self.assertEqual(total(found), [0, paired_total(found)])

    def test_at_least_holds_where_it_is_just_k_times(self):
        # 1, 6 and 120 come to 1, 2 and 3 times themselves, no more.
        for k in (1, 2, 3):
            (found,) = times(k)
            self.assertEqual(counted_total(found), k * found)

    def test_no_lesser_one_by_plain_count(self):
        for k in (1, 2, 3):
            (found,) = times(k)
            self.assertEqual([n for n in range(1, found) if counted_total(n) >= k * n], [], k)

    def test_no_lesser_one_up_to_four_times(self):
        totals = totals_up_to(ANSWERS[4])
        for k in range(1, 5):
            (found,) = times(k)
            self.assertEqual(min(n for n in range(1, ANSWERS[4] + 1) if totals[n] >= k * n), found, k)

    def test_no_lesser_one_by_leaving_out_what_cannot_reach(self):
        for k in range(1, 6):
            (found,) = times(k)
            self.assertEqual(all_with_times(k, found), [found], k)


class PlainSearch(unittest.TestCase):
    def test_what_is_left_out_cannot_reach(self):
        totals = totals_up_to(30000)
        for k in (2, 3, 4):
            counted = [n for n in range(1, 30001) if totals[n] >= k * n]
            self.assertEqual(sorted(all_with_times(k, 30000)), counted, k)


class Refused(TimesTest):
    def test_out_of_range(self):
        for k in (0, -1, -2, -5, 6, 7, 1000000, 1000000000, -2147483648, 2147483647):
            self.expect(k, -2)


if __name__ == "__main__":
    unittest.main()
