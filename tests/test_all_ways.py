"""Promise 4 (all_ways, the words' all), and the -2 that comes before it."""

import functools
import time
import unittest
from fractions import Fraction

from ahmesparts.sums import all_ways
from tests.helper import LARGEST_INT, LEAST_INT, LIMIT, TOP, Interface


def search(p, q, k, least):
    """All rows of k numbers from least on, none less than the one before it, whose parts come to p / q, in order."""
    if k == 1:
        return [[q // p]] if q % p == 0 and q // p >= least else []
    rows = []
    # The part of the first number is below p / q, as others follow, and k times that part is p / q at least.
    for number in range(max(least, q // p + 1), k * q // p + 1):
        rows += [[number] + row for row in search(p * number - q, q * number, k - 1, number)]
    return rows


def told_by_the_words(p, q, k, most):
    """What the document's words ask of a call that has no reason for -2."""
    rows = search(p, q, k, 1)
    return [-1] if len(rows) > most else [len(rows)] + [number for row in rows for number in row]


@functools.cache
def longest():
    """The answer of the longest search that the ranges allow, which has the most rows and the largest number too."""
    return tuple(all_ways(1, 30, 4, 65536))


class Ordinary(unittest.TestCase):
    def test_how_many_then_row_by_row(self):
        known = {
            (1, 2, 1): [1, 2],
            (1, 2, 2): [2, 3, 6, 4, 4],
            (2, 3, 2): [2, 2, 6, 3, 3],
            (1, 1, 3): [3, 2, 3, 6, 2, 4, 4, 3, 3, 3],
            (3, 2, 3): [3, 1, 3, 6, 1, 4, 4, 2, 2, 2],
            (1, 1, 4): [14, 2, 3, 7, 42, 2, 3, 8, 24, 2, 3, 9, 18, 2, 3, 10, 15, 2, 3, 12, 12, 2, 4, 5, 20, 2, 4, 6, 12,
                        2, 4, 8, 8, 2, 5, 5, 10, 2, 6, 6, 6, 3, 3, 4, 12, 3, 3, 6, 6, 3, 4, 4, 6, 4, 4, 4, 4],
        }
        for (p, q, k), answer in known.items():
            with self.subTest(p=p, q=q, k=k):
                self.assertEqual(all_ways(p, q, k, 65536), answer)

    def test_every_fraction_by_1_to_3_parts_against_a_search(self):
        for q in range(1, 31):
            for p in range(1, 121):
                for k in (1, 2, 3):
                    self.assertEqual(all_ways(p, q, k, 65536), told_by_the_words(p, q, k, 65536), (p, q, k))

    def test_fractions_by_4_parts_against_a_search(self):
        for q in list(range(1, 13)) + [30]:
            # 1 / 30 takes longest and has a test of its own.
            for p in range(2 if q == 30 else 1, 121):
                self.assertEqual(all_ways(p, q, 4, 65536), told_by_the_words(p, q, 4, 65536), (p, q))

    def test_below_equal_and_above_one(self):
        self.assertEqual(all_ways(5, 6, 2, 10), [1, 2, 3])
        self.assertEqual(all_ways(6, 6, 2, 10), [1, 2, 2])
        self.assertEqual(all_ways(7, 6, 2, 10), [1, 1, 6])
        self.assertEqual(all_ways(1, 1, 1, 10), [1, 1])
        self.assertEqual(all_ways(11, 6, 3, 10), [1, 1, 2, 3])

    def test_no_way(self):
        for p, q, k in ((2, 3, 1), (2, 1, 1), (3, 7, 2), (4, 5, 2), (8, 17, 3), (29, 30, 2), (120, 1, 4)):
            with self.subTest(p=p, q=q, k=k):
                self.assertEqual(told_by_the_words(p, q, k, 0), [0])
                self.assertEqual(all_ways(p, q, k, 100), [0])
                self.assertEqual(all_ways(p, q, k, 0), [0])

    def test_a_common_divisor_changes_nothing(self):
        for k in (1, 2, 3, 4):
            for times in range(2, 8):
                for p, q in ((1, 4), (2, 3), (1, 1), (3, 4), (5, 2), (4, 1)):
                    answer = all_ways(p, q, k, 65536)
                    self.assertEqual(all_ways(p * times, q * times, k, 65536), answer, (p, q, k, times))

    def test_rows_whose_numbers_are_alike(self):
        for k in (1, 2, 3, 4):
            for number in (1, 2, 3, 7, 30):
                with self.subTest(k=k, number=number):
                    answer = all_ways(k, number, k, 65536)
                    # Every other row begins with a smaller number.
                    self.assertEqual(answer[-k:], [number] * k)

    def test_the_largest_fraction_of_k_parts_and_one_above(self):
        for k in (1, 2, 3, 4):
            for q in (1, 2, 29, 30):
                with self.subTest(k=k, q=q):
                    self.assertEqual(all_ways(k * q, q, k, 1), [1] + [1] * k)
                    if k * q < 120:
                        self.assertEqual(all_ways(k * q + 1, q, k, 1), [0])
        self.assertEqual(all_ways(117, 29, 4, 1), [0])
        self.assertEqual(all_ways(120, 29, 4, 1), [0])


class Longest(unittest.TestCase):
    def test_against_a_search(self):
        self.assertEqual(list(longest()), told_by_the_words(1, 30, 4, 65536))

    def test_it_ends_in_time(self):
        start = time.monotonic()
        all_ways(1, 30, 4, 65536)
        self.assertLess(time.monotonic() - start, 20)

    def test_as_many_as_most_and_one_more(self):
        self.assertEqual(longest()[0], 59019)
        self.assertEqual(all_ways(1, 30, 4, 59019), list(longest()))
        self.assertEqual(all_ways(1, 30, 4, 59018), [-1])

    def test_every_number_is_below_the_limit(self):
        # So that no call has that reason for -1.
        largest = max(max(all_ways(p, q, 4, 65536)) for q in range(1, 31) for p in range(1, 121))
        self.assertEqual(largest, 749662454730)
        self.assertLess(largest, LIMIT)
        self.assertEqual(max(longest()), largest)

    def test_rows_in_order_that_come_to_the_fraction(self):
        for p, q in ((1, 29), (1, 28), (2, 29), (3, 28), (29, 30)):
            with self.subTest(p=p, q=q):
                answer = all_ways(p, q, 4, 65536)
                rows = [answer[start:start + 4] for start in range(1, len(answer), 4)]
                self.assertEqual(len(answer), 1 + 4 * answer[0])
                self.assertTrue(all(first < second for first, second in zip(rows, rows[1:])))
                self.assertTrue(all(row == sorted(row) for row in rows))
                for row in rows:
                    self.assertEqual(sum(Fraction(1, number) for number in row), Fraction(p, q))


class OutOfRange(unittest.TestCase):
    def refuses(self, *calls):
        for call in calls:
            with self.subTest(call=call):
                self.assertEqual(all_ways(*call), [-2])

    def answers(self, *calls):
        for call in calls:
            with self.subTest(call=call):
                answer = all_ways(*call)
                self.assertGreaterEqual(answer[0], 0)
                self.assertEqual(answer, told_by_the_words(*call))

    def test_p_is_0(self):
        self.refuses((0, 1, 1, 100), (0, 2, 2, 100), (0, 30, 4, 100))
        self.answers((1, 1, 1, 100), (1, 2, 2, 100))

    def test_q_is_0(self):
        self.refuses((1, 0, 1, 100), (0, 0, 2, 100), (120, 0, 4, 100))
        self.answers((1, 1, 2, 100), (120, 1, 4, 100))

    def test_p_above_120(self):
        self.answers((119, 30, 4, 100), (120, 30, 4, 100), (120, 1, 1, 100))
        self.refuses((121, 30, 4, 100), (121, 1, 1, 100), (2 ** 31, 30, 4, 100), (TOP, 30, 4, 100))

    def test_q_above_30(self):
        self.answers((1, 29, 2, 100), (1, 30, 1, 100), (120, 30, 4, 100))
        self.refuses((1, 31, 1, 100), (31, 31, 1, 100), (120, 31, 4, 100), (1, 2 ** 31, 1, 100), (1, TOP, 1, 100))

    def test_k(self):
        self.refuses((1, 2, LEAST_INT, 100), (1, 2, -1, 100), (1, 2, 0, 100))
        self.answers((1, 2, 1, 100), (1, 2, 2, 100), (1, 2, 3, 100), (4, 2, 4, 100))
        self.refuses((1, 2, 5, 100), (5, 1, 5, 100), (1, 2, 6, 100), (1, 2, LARGEST_INT, 100))

    def test_most(self):
        self.refuses((1, 2, 2, LEAST_INT), (1, 2, 2, -1), (2, 3, 1, -1))
        self.answers((2, 3, 1, 0), (1, 2, 2, 65535), (1, 2, 2, 65536))
        self.refuses((1, 2, 2, 65537), (2, 3, 1, 65537), (1, 2, 2, LARGEST_INT))

    def test_it_comes_before_no_answer(self):
        # Each has more ways than most as well.
        self.refuses((1, 31, 1, 0), (1, 31, 2, 1), (1, 2, 5, 0), (1, 2, 2, -1), (1, 2, 2, LEAST_INT), (124, 31, 4, 0))


class NoAnswer(unittest.TestCase):
    def test_as_many_as_most_and_one_more(self):
        for p, q, k, count in ((1, 2, 1, 1), (1, 2, 2, 2), (1, 1, 3, 3), (1, 1, 4, 14), (1, 30, 2, 14), (4, 1, 4, 1)):
            with self.subTest(p=p, q=q, k=k):
                answer = told_by_the_words(p, q, k, 65536)
                self.assertEqual(answer[0], count)
                self.assertEqual(all_ways(p, q, k, count), answer)
                self.assertEqual(all_ways(p, q, k, count + 1), answer)
                self.assertEqual(all_ways(p, q, k, count - 1), [-1])

    def test_small_fractions_with_every_small_most(self):
        for q in range(1, 7):
            for p in range(1, 4 * q + 2):
                for k in (1, 2, 3, 4):
                    for most in range(20):
                        answer = told_by_the_words(p, q, k, most)
                        self.assertEqual(all_ways(p, q, k, most), answer, (p, q, k, most))

    def test_most_0(self):
        for p, q, k in ((1, 1, 1), (1, 30, 1), (1, 2, 2), (1, 1, 4), (1, 30, 4), (4, 1, 4)):
            with self.subTest(p=p, q=q, k=k):
                self.assertEqual(all_ways(p, q, k, 0), [-1])
        for p, q, k in ((2, 1, 1), (7, 30, 1), (3, 7, 2), (5, 1, 4)):
            with self.subTest(p=p, q=q, k=k):
                self.assertEqual(all_ways(p, q, k, 0), [0])


class AllWaysInterface(Interface, unittest.TestCase):
    function = staticmethod(all_ways)
    names = ["p", "q", "k", "most"]
    calls = ((1, 2, 2, 10), (1, 1, 4, 14), (1, 1, 4, 13), (3, 7, 2, 0), (1, 31, 2, 10), (4, 1, 4, 1), (1, 2, 5, 10),
             (1, 2, 3, 65536), (1, 2, 2, -1), (1, 2, 2, 0))


if __name__ == "__main__":
    unittest.main()
