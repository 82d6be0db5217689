"""Promise 3 (turns), and the -2 that comes before it."""

import unittest
from fractions import Fraction

from ahmesparts.sums import turns
from tests.helper import Interface, ProperFractionAnswers, ProperFractionRange


def told_by_the_words(p, q, most):
    """What the document's words ask of a call that has no reason for -2."""
    left = Fraction(p, q)
    numbers = []
    while left:
        # The greatest number that, times what's left, is no greater than 1.
        number = left.denominator // left.numerator
        if number * left > 1 or (number + 1) * left <= 1:
            raise ArithmeticError(number)
        numbers.append(number)
        left = 1 - number * left
    return [-1] if len(numbers) > most else [len(numbers)] + numbers


def what_they_come_to(numbers):
    """One by a, less one by a b, and one by a b c, and so on."""
    total = Fraction(0)
    product = 1
    sign = 1
    for number in numbers:
        product *= number
        total += Fraction(sign, product)
        sign = -sign
    return total


class Ordinary(ProperFractionAnswers, unittest.TestCase):
    function = staticmethod(turns)
    words = staticmethod(told_by_the_words)
    counts = ((1, 2, 1), (1, 1000000, 1), (2, 3, 2), (3, 7, 2), (8, 11, 4), (999999, 1000000, 2), (603565, 999899, 39))

    def test_how_many_then_the_numbers_in_turn(self):
        known = {
            (3, 7): [2, 2, 7],
            (2, 5): [2, 2, 5],
            (3, 8): [2, 2, 4],
            (4, 13): [2, 3, 13],
            (5, 13): [3, 2, 4, 13],
            (5, 121): [2, 24, 121],
        }
        for (p, q), answer in known.items():
            with self.subTest(p=p, q=q):
                self.assertEqual(turns(p, q, 100), answer)

    def test_they_come_to_the_fraction(self):
        for p, q in ((3, 7), (8, 11), (71, 73), (5, 121), (3329, 7027), (999999, 1000000), (603565, 999899)):
            with self.subTest(p=p, q=q):
                answer = turns(p, q, 65536)
                self.assertEqual(answer[0], len(answer) - 1)
                self.assertEqual(what_they_come_to(answer[1:]), Fraction(p, q))

    def test_a_common_divisor_changes_nothing(self):
        self.assertEqual(turns(6, 14, 100), [2, 2, 7])
        self.assertEqual(turns(300000, 700000, 100), [2, 2, 7])
        self.assertEqual(turns(750000, 1000000, 100), [2, 1, 4])
        self.assertEqual(turns(500000, 1000000, 100), [1, 2])

    def test_a_fraction_that_is_one_part(self):
        for number in (2, 3, 10, 999, 999999, 1000000):
            with self.subTest(number=number):
                self.assertEqual(turns(1, number, 100), [1, number])
        self.assertEqual(turns(7, 21, 100), [1, 3])

    def test_the_first_number_is_1(self):
        self.assertEqual(turns(5, 7, 100), [3, 1, 3, 7])
        self.assertEqual(turns(8, 11, 100), [4, 1, 3, 5, 11])
        # At both sides of a half.
        self.assertEqual(turns(500001, 1000000, 100)[1], 1)
        self.assertEqual(turns(499999, 1000000, 100)[1], 2)

    def test_p_one_below_q(self):
        for q in (3, 4, 5, 10, 11, 999999, 1000000):
            with self.subTest(q=q):
                self.assertEqual(turns(q - 1, q, 100), [2, 1, q])


class OutOfRange(ProperFractionRange, unittest.TestCase):
    function = staticmethod(turns)
    words = staticmethod(told_by_the_words)


class TurnsInterface(Interface, unittest.TestCase):
    function = staticmethod(turns)
    names = ["p", "q", "most"]
    calls = ((3, 7, 10), (8, 11, 4), (8, 11, 3), (5, 121, 10), (0, 5, 10), (1, 1000000, 1), (2, 3, -1), (2, 3, 0))


if __name__ == "__main__":
    unittest.main()
