"""Promise 5 (sum_of, the words' sum), and the -2 that comes before it."""

import itertools
import unittest
from fractions import Fraction

from ahmesparts.sums import sum_of
from tests.helper import LIMIT, TOP, Interface


def what_they_come_to(parts):
    return sum((Fraction(1, part) for part in parts), Fraction(0))


def told_by_the_words(parts):
    """What the document's words ask of a list that has no reason for -2."""
    total = what_they_come_to(parts)
    return [-1] if max(total.numerator, total.denominator) >= LIMIT else [0, total.numerator, total.denominator]


# Lists whose sum has a number next to the limit, 2^64. No lower number is nearer from above: each power of a prime in
# it divides a part, so that it is below 2^32, but each of 2^64 to 2^64 + 3 has one that isn't.
LOWER_BELOW = [1722007169, 714156689, 15]
LOWER_FROM_ON = [20 * 5581 * 8681, 49477, 384773]
UPPER_BELOW = [1, 13, 759094337, 1735785014]
UPPER_FROM_ON = [1, 1, 1, 3, 513552833, 3591985649]

# 1/(b + 1) and 1/(b (b + 1)) come to 1/b: the first three together need a lower number of 96 bits, all six one of 48.
OUT_AND_BACK = [65521 * 65522, 65519 * 65520, 65497 * 65498, 65522, 65520, 65498]


class Ordinary(unittest.TestCase):
    def test_0_then_the_upper_then_the_lower_number(self):
        known = (
            ([2, 3], [0, 5, 6]),
            ([4, 18, 468], [0, 4, 13]),
            ([3, 4], [0, 7, 12]),
            ([1, 2], [0, 3, 2]),
            ([2, 3, 7, 43], [0, 1805, 1806]),
        )
        for parts, answer in known:
            with self.subTest(parts=parts):
                self.assertEqual(sum_of(parts), answer)

    def test_lowest_terms(self):
        self.assertEqual(sum_of([3, 6]), [0, 1, 2])
        self.assertEqual(sum_of([6, 10, 15]), [0, 1, 3])
        self.assertEqual(sum_of([4, 12]), [0, 1, 3])
        self.assertEqual(sum_of([6, 14]), [0, 5, 21])

    def test_no_part(self):
        self.assertEqual(sum_of([]), [0, 0, 1])

    def test_one_part(self):
        for part in (1, 2, 3, 10, 65536, TOP - 1, TOP):
            with self.subTest(part=part):
                self.assertEqual(sum_of([part]), [0, 1, part])

    def test_parts_that_are_alike(self):
        self.assertEqual(sum_of([5, 5]), [0, 2, 5])
        self.assertEqual(sum_of([4, 4]), [0, 1, 2])
        self.assertEqual(sum_of([7] * 16), [0, 16, 7])
        self.assertEqual(sum_of([TOP, TOP]), [0, 2, TOP])

    def test_a_whole_number(self):
        self.assertEqual(sum_of([1]), [0, 1, 1])
        self.assertEqual(sum_of([2, 3, 6]), [0, 1, 1])
        self.assertEqual(sum_of([1, 2, 2]), [0, 2, 1])
        self.assertEqual(sum_of([16] * 16), [0, 1, 1])
        self.assertEqual(sum_of([1] * 16), [0, 16, 1])

    def test_any_order(self):
        for parts in ([2, 3, 7, 42], [4, 18, 468], [5, 1, 5, 9]):
            for order in itertools.permutations(parts):
                self.assertEqual(sum_of(list(order)), told_by_the_words(parts), order)

    def test_16_parts(self):
        parts = list(range(1, 17))
        self.assertEqual(sum_of(parts), [0, 2436559, 720720])
        self.assertEqual(sum_of(parts[::-1]), [0, 2436559, 720720])
        self.assertEqual(sum_of([TOP] * 16), [0, 16, TOP])

    def test_all_short_lists_of_small_parts_against_the_words(self):
        for length in range(4):
            for parts in itertools.product(range(1, 13), repeat=length):
                self.assertEqual(sum_of(list(parts)), told_by_the_words(parts), parts)


class OutOfRange(unittest.TestCase):
    def test_a_part_is_0(self):
        for parts in ([0], [0, 0], [0, 2, 3], [2, 3, 0], [2, 0, 3], [0] * 16, [1] * 15 + [0], [0] + [TOP] * 15):
            with self.subTest(parts=parts):
                self.assertEqual(sum_of(parts), [-2])

    def test_a_part_is_1_or_the_largest(self):
        self.assertEqual(sum_of([1, 2, 3]), [0, 11, 6])
        self.assertEqual(sum_of([2, 3, 1]), [0, 11, 6])
        self.assertEqual(sum_of([1, TOP]), [0, TOP + 1, TOP])
        self.assertEqual(sum_of([TOP, TOP - 1]), told_by_the_words([TOP, TOP - 1]))
        self.assertEqual(sum_of([TOP, TOP - 1])[0], 0)

    def test_it_comes_before_no_answer(self):
        for parts in (LOWER_FROM_ON, UPPER_FROM_ON, [TOP, TOP - 1, TOP - 2, TOP - 3]):
            self.assertEqual(sum_of(parts), [-1])
            for place in range(len(parts) + 1):
                with self.subTest(parts=parts, place=place):
                    self.assertEqual(sum_of(parts[:place] + [0] + parts[place:]), [-2])


class NoAnswer(unittest.TestCase):
    def test_the_lower_number(self):
        self.assertEqual(what_they_come_to(LOWER_BELOW).denominator, LIMIT - 1)
        self.assertEqual(sum_of(LOWER_BELOW), told_by_the_words(LOWER_BELOW))
        self.assertEqual(sum_of(LOWER_BELOW)[2], LIMIT - 1)
        above = what_they_come_to(LOWER_FROM_ON)
        self.assertEqual(above.denominator, LIMIT + 4)
        self.assertLess(above.numerator, LIMIT)
        self.assertEqual(sum_of(LOWER_FROM_ON), [-1])

    def test_the_upper_number(self):
        below = what_they_come_to(UPPER_BELOW)
        self.assertEqual(below.numerator, LIMIT - 1)
        self.assertEqual(sum_of(UPPER_BELOW), [0, LIMIT - 1, below.denominator])
        above = what_they_come_to(UPPER_FROM_ON)
        self.assertEqual(above.numerator, LIMIT)
        self.assertLess(above.denominator, LIMIT)
        self.assertEqual(sum_of(UPPER_FROM_ON), [-1])

    def test_both_numbers(self):
        parts = [1, TOP, TOP - 1, TOP - 3]
        total = what_they_come_to(parts)
        self.assertGreater(min(total.numerator, total.denominator), LIMIT)
        self.assertEqual(sum_of(parts), [-1])

    def test_below_the_limit_in_lowest_terms_only(self):
        # The product of the parts is above 2^64 in each.
        self.assertEqual(sum_of([TOP, TOP, TOP]), [0, 1, 1431655765])
        self.assertEqual(sum_of([2 ** 31] * 16), [0, 1, 2 ** 27])
        self.assertEqual(sum_of([4 * 1000003, 6 * 1000003, 12 * 1000003, 2 * 1000003]), [0, 1, 1000003])

    def test_above_the_limit_on_the_way(self):
        self.assertGreater(what_they_come_to(OUT_AND_BACK[:3]).denominator, LIMIT)
        self.assertEqual(sum_of(OUT_AND_BACK[:3]), [-1])
        self.assertEqual(what_they_come_to(OUT_AND_BACK), what_they_come_to([65521, 65519, 65497]))
        for order in itertools.permutations(OUT_AND_BACK):
            self.assertEqual(sum_of(list(order)), sum_of([65521, 65519, 65497]))
        self.assertEqual(sum_of(OUT_AND_BACK)[0], 0)


class SumOfInterface(Interface, unittest.TestCase):
    function = staticmethod(sum_of)
    names = ["parts"]
    calls = (([],), ([2, 3, 6],), ([6, 3, 2],), ([0, 2],), ([2, 0, 3],), ([7] * 16,), (LOWER_BELOW,), (LOWER_FROM_ON,),
             (UPPER_BELOW,), (UPPER_FROM_ON,), (OUT_AND_BACK,))

    def test_it_can_be_handed_the_same_list_again(self):
        parts = [9, 4, 4, 18]
        self.assertEqual([sum_of(parts), sum_of(parts), parts], [[0, 2, 3], [0, 2, 3], [9, 4, 4, 18]])


if __name__ == "__main__":
    unittest.main()
