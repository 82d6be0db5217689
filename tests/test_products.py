"""Promise 2 (products), and the -2 that comes before it."""

import unittest
from fractions import Fraction

from ahmesparts.sums import products
from tests.helper import Interface, ProperFractionAnswers, ProperFractionRange


def told_by_the_words(p, q, most):
    """What the document's words ask of a call that has no reason for -2."""
    left = Fraction(p, q)
    numbers = []
    while left:
        number = left.denominator // left.numerator
        if Fraction(1, number) > left:
            number += 1
        numbers.append(number)
        left = (left - Fraction(1, number)) * number
    return [-1] if len(numbers) > most else [len(numbers)] + numbers


def what_they_come_to(numbers):
    """One by a, and one by a b, and one by a b c, and so on."""
    total = Fraction(0)
    product = 1
    for number in numbers:
        product *= number
        total += Fraction(1, product)
    return total


class Ordinary(ProperFractionAnswers, unittest.TestCase):
    function = staticmethod(products)
    words = staticmethod(told_by_the_words)
    counts = ((1, 2, 1), (1, 1000000, 1), (2, 3, 2), (3, 7, 3), (7, 8, 3), (1023, 1024, 10), (999576, 999601, 49))

    def test_how_many_then_the_numbers_in_turn(self):
        known = {
            (3, 7): [3, 3, 4, 7],
            (2, 3): [2, 2, 3],
            (3, 4): [2, 2, 2],
            (5, 6): [3, 2, 2, 3],
            (4, 13): [4, 4, 5, 7, 13],
            (8, 11): [4, 2, 3, 3, 11],
            (7, 8): [3, 2, 2, 2],
        }
        for (p, q), answer in known.items():
            with self.subTest(p=p, q=q):
                self.assertEqual(products(p, q, 100), answer)

    def test_they_come_to_the_fraction(self):
        for p, q in ((3, 7), (8, 11), (71, 73), (5, 121), (3329, 7027), (999999, 1000000), (999576, 999601)):
            with self.subTest(p=p, q=q):
                answer = products(p, q, 65536)
                self.assertEqual(answer[0], len(answer) - 1)
                self.assertEqual(what_they_come_to(answer[1:]), Fraction(p, q))

    def test_a_common_divisor_changes_nothing(self):
        self.assertEqual(products(6, 14, 100), [3, 3, 4, 7])
        self.assertEqual(products(300000, 700000, 100), [3, 3, 4, 7])
        self.assertEqual(products(750000, 1000000, 100), [2, 2, 2])
        self.assertEqual(products(500000, 1000000, 100), [1, 2])

    def test_a_fraction_that_is_one_part(self):
        for number in (2, 3, 10, 999, 999999, 1000000):
            with self.subTest(number=number):
                self.assertEqual(products(1, number, 100), [1, number])
        self.assertEqual(products(7, 21, 100), [1, 3])

    def test_p_one_below_q(self):
        self.assertEqual(products(2, 3, 100), [2, 2, 3])
        self.assertEqual(products(4, 5, 100), [3, 2, 2, 5])
        self.assertEqual(products(1023, 1024, 100), [10] + [2] * 10)
        answer = products(999999, 1000000, 65536)
        self.assertEqual(answer, told_by_the_words(999999, 1000000, 65536))
        # The upper number is 1000000 - 2^k after the k-th, so that the first 19 are 2.
        self.assertEqual(answer[1:20], [2] * 19)
        self.assertGreater(answer[20], 2)


class OutOfRange(ProperFractionRange, unittest.TestCase):
    function = staticmethod(products)
    words = staticmethod(told_by_the_words)


class ProductsInterface(Interface, unittest.TestCase):
    function = staticmethod(products)
    names = ["p", "q", "most"]
    calls = ((3, 7, 10), (3, 7, 3), (3, 7, 2), (5, 121, 10), (0, 5, 10), (1, 1000000, 1), (2, 3, -1), (2, 3, 0))


if __name__ == "__main__":
    unittest.main()
