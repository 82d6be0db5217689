"""Promise 1 (greatest), and the -2 that comes before it."""

import unittest
from fractions import Fraction

from ahmesparts.sums import greatest
from tests.helper import LARGEST_INT, LEAST_INT, LIMIT, Interface, ProperFractionAnswers, ProperFractionRange


def told_by_the_words(p, q, most):
    """What the document's words ask of a call that has no reason for -2."""
    left = Fraction(p, q)
    parts = []
    while left:
        number = left.denominator // left.numerator
        if Fraction(1, number) > left:
            number += 1
        if number >= LIMIT:
            return [-1]
        parts.append(number)
        left -= Fraction(1, number)
    return [-1] if len(parts) > most else [len(parts)] + parts


class Ordinary(ProperFractionAnswers, unittest.TestCase):
    function = staticmethod(greatest)
    words = staticmethod(told_by_the_words)
    counts = ((1, 2, 1), (1, 1000000, 1), (2, 3, 2), (4, 13, 3), (8, 11, 4), (71, 73, 7))

    def test_how_many_then_the_numbers_in_turn(self):
        known = {
            (2, 3): [2, 2, 6],
            (3, 7): [3, 3, 11, 231],
            (4, 13): [3, 4, 18, 468],
            (5, 6): [2, 2, 3],
            (7, 15): [3, 3, 8, 120],
            (8, 11): [4, 2, 5, 37, 4070],
            (41, 42): [3, 2, 3, 7],
            (1805, 1806): [4, 2, 3, 7, 43],
        }
        for (p, q), answer in known.items():
            with self.subTest(p=p, q=q):
                self.assertEqual(greatest(p, q, 100), answer)

    def test_a_common_divisor_changes_nothing(self):
        self.assertEqual(greatest(4, 6, 100), [2, 2, 6])
        self.assertEqual(greatest(400000, 600000, 100), [2, 2, 6])
        self.assertEqual(greatest(28, 91, 100), [3, 4, 18, 468])
        self.assertEqual(greatest(500000, 1000000, 100), [1, 2])

    def test_a_fraction_that_is_one_part(self):
        for number in (2, 3, 10, 999, 999999, 1000000):
            with self.subTest(number=number):
                self.assertEqual(greatest(1, number, 100), [1, number])
        self.assertEqual(greatest(7, 21, 100), [1, 3])

    def test_the_parts_come_to_the_fraction(self):
        for p, q in ((2, 3), (8, 11), (17, 29), (71, 73), (3329, 7027)):
            with self.subTest(p=p, q=q):
                answer = greatest(p, q, 65536)
                self.assertEqual(answer[0], len(answer) - 1)
                self.assertEqual(sum(Fraction(1, number) for number in answer[1:]), Fraction(p, q))


class OutOfRange(ProperFractionRange, unittest.TestCase):
    function = staticmethod(greatest)
    words = staticmethod(told_by_the_words)

    def test_it_comes_before_a_number_that_is_too_large(self):
        # 5 / 121 has a part that isn't below 2^64 as well.
        self.refuses((5, 121, -1), (5, 121, LEAST_INT), (5, 121, 65537), (5, 121, LARGEST_INT))
        self.refuses((50000, 1210000, 10))


class NumbersNearTheLimit(unittest.TestCase):
    # The fractions of the next two tests were searched for: of all with a q to 50000, their last numbers lie nearest
    # to 2^64, from below and from above.
    def test_a_number_just_below_the_limit(self):
        answer = greatest(4812, 48109, 65536)
        self.assertEqual(answer, told_by_the_words(4812, 48109, 65536))
        self.assertEqual(answer[-1], LIMIT - 7771621017176)
        self.assertEqual(greatest(3329, 7027, 6), [6, 3, 8, 65, 38196, 3172038906, 18446689835653701960])

    def test_a_number_just_above_the_limit(self):
        # 13633 / 28039: the last number is 2^64 + 19868849800784. 6204 / 7301: the sixth is 2^64 + 21333595320340,
        # with more to come.
        for p, q in ((13633, 28039), (1585, 2419), (6204, 7301)):
            for most in (5, 6, 7, 65536):
                with self.subTest(p=p, q=q, most=most):
                    self.assertEqual(greatest(p, q, most), [-1])

    def test_numbers_far_above_the_limit(self):
        for p, q in ((5, 121), (31, 311), (999997, 1000000)):
            with self.subTest(p=p, q=q):
                self.assertEqual(told_by_the_words(p, q, 65536), [-1])
                self.assertEqual(greatest(p, q, 65536), [-1])


class GreatestInterface(Interface, unittest.TestCase):
    function = staticmethod(greatest)
    names = ["p", "q", "most"]
    calls = ((2, 3, 10), (4, 13, 3), (4, 13, 2), (5, 121, 10), (0, 5, 10), (1, 1000000, 1), (2, 3, -1), (2, 3, 0))


if __name__ == "__main__":
    unittest.main()
