"""Promise 6 (one), and the -2 that comes before it."""

import functools
import time
import unittest
from fractions import Fraction

from ahmesparts.sums import one
from tests.helper import LARGEST_INT, LEAST_INT, Interface

# Up to here every n is searched, above it numbers are built that show n.
LAST_SEARCHED = 120
LAST = 1000


def search(n, least=1, parts_left=Fraction(1)):
    """Different numbers from least on that come to n while their parts come to parts_left; None if there are none."""
    if n == 0:
        return [] if parts_left == 0 else None
    for number in range(least, n + 1):
        if Fraction(1, number) <= parts_left:
            others = search(n - number, number + 1, parts_left - Fraction(1, number))
            if others is not None:
                return [number] + others
    return None


# A number with many divisors: the part of a divisor d is COMMON // d of its 2520 equal shares of 1.
COMMON = 2520
DIVISORS = [number for number in range(1, LAST + 1) if COMMON % number == 0]


@functools.cache
def reached():
    """What the first divisors come to: bit n of reached()[k][s] is 1 if some of the first k come to n in s shares."""
    layers = [[1] + [0] * COMMON]
    for divisor in DIVISORS:
        shares = COMMON // divisor
        before = layers[-1]
        layers.append([before[s] | (before[s - shares] << divisor if s >= shares else 0) for s in range(COMMON + 1)])
    return layers


def build(n):
    """Different divisors of COMMON that come to n while their parts come to 1."""
    numbers = []
    shares = COMMON
    for k in range(len(DIVISORS), 0, -1):
        if not reached()[k - 1][shares] >> n & 1:
            numbers.append(DIVISORS[k - 1])
            n -= numbers[-1]
            shares -= COMMON // numbers[-1]
    return numbers


class EveryNumber(unittest.TestCase):
    def shows(self, numbers, n):
        """That these numbers are what the promise asks for."""
        self.assertEqual(len(set(numbers)), len(numbers), n)
        self.assertGreater(min(numbers), 0, n)
        self.assertEqual(sum(numbers), n)
        self.assertEqual(sum(Fraction(1, number) for number in numbers), 1, n)

    def test_against_a_search(self):
        for n in range(1, LAST_SEARCHED + 1):
            numbers = search(n)
            if numbers is None:
                self.assertEqual(one(n), [-1], n)
            else:
                self.shows(numbers, n)
                self.assertEqual(one(n), [1], n)

    def test_against_numbers_that_show_it(self):
        for n in range(LAST_SEARCHED + 1, LAST + 1):
            self.shows(build(n), n)
            self.assertEqual(one(n), [1], n)

    def test_1(self):
        self.assertEqual(search(1), [1])
        self.assertEqual(one(1), [1])

    def test_2(self):
        self.assertEqual(one(2), [-1])

    def test_11(self):
        self.assertEqual(search(11), [2, 3, 6])
        self.assertEqual(one(11), [1])

    def test_next_to_11(self):
        self.assertEqual([one(10), one(12)], [[-1], [-1]])

    def test_77(self):
        self.assertEqual(one(77), [-1])

    def test_78(self):
        self.shows(search(78), 78)
        self.assertEqual(one(78), [1])

    def test_all_within_the_time_of_a_test(self):
        start = time.monotonic()
        for n in range(1, LAST + 1):
            one(n)
        self.assertLess(time.monotonic() - start, 20)


class OutOfRange(unittest.TestCase):
    def test_below(self):
        for n in (LEAST_INT, -77, -2, -1, 0):
            with self.subTest(n=n):
                self.assertEqual(one(n), [-2])
        self.assertEqual(one(1), [1])

    def test_above(self):
        self.assertEqual(one(999), [1])
        self.assertEqual(one(1000), [1])
        for n in (1001, 1002, 65536, LARGEST_INT):
            with self.subTest(n=n):
                self.assertEqual(one(n), [-2])


class OneInterface(Interface, unittest.TestCase):
    function = staticmethod(one)
    names = ["n"]
    calls = ((1,), (2,), (11,), (77,), (78,), (0,), (1000,), (1001,), (LEAST_INT,), (LARGEST_INT,))

    def test_one_number(self):
        for n in range(-3, 1005):
            answer = one(n)
            self.assertIs(type(answer), list)
            self.assertEqual([type(number) for number in answer], [int])
            self.assertIn(answer[0], (1, -1, -2))


if __name__ == "__main__":
    unittest.main()
