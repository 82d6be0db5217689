"""Promise 1 (greatest), and the -2 that comes before it."""

import ast
import contextlib
import inspect
import io
import unittest
from fractions import Fraction

from ahmesparts import sums
from ahmesparts.sums import greatest

LIMIT = 2 ** 64
TOP = 4294967295
LEAST_INT = -2147483648
LARGEST_INT = 2147483647


def told_by_the_words(p, q, most):
    """What the document's words ask of a call that has no reason for -2."""
    left = Fraction(p, q)
    parts = []
    while left:
        number = left.denominator // left.numerator
        if Fraction(1, number) > left:
            number += 1
        if number >= LIMIT:
            return [-1]
        parts.append(number)
        left -= Fraction(1, number)
    return [-1] if len(parts) > most else [len(parts)] + parts


class Ordinary(unittest.TestCase):
    def test_how_many_then_the_numbers_in_turn(self):
        known = {
            (2, 3): [2, 2, 6],
            (3, 7): [3, 3, 11, 231],
            (4, 13): [3, 4, 18, 468],
            (5, 6): [2, 2, 3],
            (7, 15): [3, 3, 8, 120],
            (8, 11): [4, 2, 5, 37, 4070],
            (41, 42): [3, 2, 3, 7],
            (1805, 1806): [4, 2, 3, 7, 43],
        }
        for (p, q), answer in known.items():
            with self.subTest(p=p, q=q):
                self.assertEqual(greatest(p, q, 100), answer)

    def test_a_common_divisor_changes_nothing(self):
        self.assertEqual(greatest(4, 6, 100), [2, 2, 6])
        self.assertEqual(greatest(400000, 600000, 100), [2, 2, 6])
        self.assertEqual(greatest(28, 91, 100), [3, 4, 18, 468])
        self.assertEqual(greatest(500000, 1000000, 100), [1, 2])

    def test_a_fraction_that_is_one_part(self):
        for number in (2, 3, 10, 999, 999999, 1000000):
            with self.subTest(number=number):
                self.assertEqual(greatest(1, number, 100), [1, number])
        self.assertEqual(greatest(7, 21, 100), [1, 3])

    def test_all_small_fractions_against_the_words(self):
        for q in range(2, 130):
            for p in range(1, q):
                self.assertEqual(greatest(p, q, 65536), told_by_the_words(p, q, 65536), (p, q))

    def test_small_fractions_with_every_small_most(self):
        for q in range(2, 40):
            for p in range(1, q):
                for most in range(9):
                    self.assertEqual(greatest(p, q, most), told_by_the_words(p, q, most), (p, q, most))

    def test_large_terms_against_the_words(self):
        for q in range(999000, 1000001, 7):
            for p in (1, 2, 3, q // 3, q // 2, q // 2 + 1, q - 2, q - 1):
                self.assertEqual(greatest(p, q, 65536), told_by_the_words(p, q, 65536), (p, q))

    def test_the_parts_come_to_the_fraction(self):
        for p, q in ((2, 3), (8, 11), (17, 29), (71, 73), (3329, 7027)):
            with self.subTest(p=p, q=q):
                answer = greatest(p, q, 65536)
                self.assertEqual(answer[0], len(answer) - 1)
                self.assertEqual(sum(Fraction(1, number) for number in answer[1:]), Fraction(p, q))


class OutOfRange(unittest.TestCase):
    def refuses(self, *calls):
        for call in calls:
            with self.subTest(call=call):
                self.assertEqual(greatest(*call), [-2])

    def answers(self, *calls):
        for call in calls:
            with self.subTest(call=call):
                answer = greatest(*call)
                self.assertGreater(answer[0], 0)
                self.assertEqual(answer, told_by_the_words(*call))

    def test_p_is_0(self):
        self.refuses((0, 1, 10), (0, 2, 10), (0, 1000000, 10))
        self.answers((1, 2, 10), (1, 1000000, 10))

    def test_q_is_0(self):
        self.refuses((1, 0, 10), (0, 0, 10), (1000000, 0, 10), (TOP, 0, 10))

    def test_p_equal_to_q(self):
        self.refuses((1, 1, 10), (2, 2, 10), (6, 6, 10), (999999, 999999, 10), (1000000, 1000000, 10))
        self.answers((1, 2, 10), (5, 6, 10))

    def test_p_above_q(self):
        self.refuses((2, 1, 10), (3, 2, 10), (7, 6, 10), (1000000, 999999, 10), (1000000, 1, 10))

    def test_q_above_1000000(self):
        self.answers((1, 999999, 10), (1, 1000000, 10), (3, 1000000, 10), (750000, 1000000, 10))
        self.refuses((1, 1000001, 10), (500000, 1000002, 10), (1, 2 ** 31, 10), (1, TOP, 10))

    def test_p_at_and_above_1000000(self):
        self.assertEqual(greatest(999999, 1000000, 10), told_by_the_words(999999, 1000000, 10))
        self.refuses((1000000, 1000001, 10), (1000001, 1000002, 10), (1000001, 2000002, 10))
        self.refuses((1000001, 1000000, 10), (TOP, 1000000, 10), (TOP - 1, TOP, 10), (TOP, TOP, 10))

    def test_most(self):
        self.refuses((2, 3, LEAST_INT), (2, 3, -2), (2, 3, -1))
        self.refuses((2, 3, 65537), (2, 3, 65538), (2, 3, LARGEST_INT))
        self.answers((2, 3, 2), (2, 3, 65535), (2, 3, 65536))
        self.assertEqual(greatest(2, 3, 0), [-1])

    def test_it_comes_before_no_answer(self):
        # Each has more parts than most as well.
        self.refuses((1, 1000001, 0), (2, 1000001, 1), (1, 1, 0), (3, 2, 0), (1, 0, 0), (0, 1, 0))
        self.refuses((2, 3, -1), (2, 3, LEAST_INT))
        # 5 / 121 has a part that isn't below 2^64 as well.
        self.refuses((5, 121, -1), (5, 121, LEAST_INT), (5, 121, 65537), (5, 121, LARGEST_INT))
        self.refuses((50000, 1210000, 10))


class NoAnswer(unittest.TestCase):
    def test_as_many_as_most_and_one_more(self):
        for p, q, count in ((1, 2, 1), (1, 1000000, 1), (2, 3, 2), (4, 13, 3), (8, 11, 4), (71, 73, 7)):
            with self.subTest(p=p, q=q):
                self.assertEqual(len(greatest(p, q, count)), count + 1)
                self.assertEqual(greatest(p, q, count + 1), greatest(p, q, count))
                self.assertEqual(greatest(p, q, count - 1), [-1])

    def test_most_0(self):
        for p, q in ((1, 2), (2, 3), (1, 1000000), (999999, 1000000), (5, 121)):
            with self.subTest(p=p, q=q):
                self.assertEqual(greatest(p, q, 0), [-1])

    # The fractions of the next two tests were searched for: of all with a q to 50000, their last numbers lie nearest
    # to 2^64, from below and from above.
    def test_a_number_just_below_the_limit(self):
        answer = greatest(4812, 48109, 65536)
        self.assertEqual(answer, told_by_the_words(4812, 48109, 65536))
        self.assertEqual(answer[-1], LIMIT - 7771621017176)
        self.assertEqual(greatest(3329, 7027, 6), [6, 3, 8, 65, 38196, 3172038906, 18446689835653701960])

    def test_a_number_just_above_the_limit(self):
        # 13633 / 28039: the last number is 2^64 + 19868849800784. 6204 / 7301: the sixth is 2^64 + 21333595320340,
        # with more to come.
        for p, q in ((13633, 28039), (1585, 2419), (6204, 7301)):
            for most in (5, 6, 7, 65536):
                with self.subTest(p=p, q=q, most=most):
                    self.assertEqual(greatest(p, q, most), [-1])

    def test_numbers_far_above_the_limit(self):
        for p, q in ((5, 121), (31, 311), (999997, 1000000)):
            with self.subTest(p=p, q=q):
                self.assertEqual(told_by_the_words(p, q, 65536), [-1])
                self.assertEqual(greatest(p, q, 65536), [-1])


CALLS = ((2, 3, 10), (4, 13, 3), (4, 13, 2), (5, 121, 10), (0, 5, 10), (1, 1000000, 1), (2, 3, -1), (2, 3, 0))


class Interface(unittest.TestCase):
    def test_the_arguments_names(self):
        self.assertEqual(list(inspect.signature(greatest).parameters), ["p", "q", "most"])
        self.assertEqual(greatest(p=2, q=3, most=10), [2, 2, 6])

    def test_a_list_of_whole_numbers(self):
        for call in CALLS:
            with self.subTest(call=call):
                answer = greatest(*call)
                self.assertIs(type(answer), list)
                self.assertTrue(all(type(number) is int for number in answer))

    def test_a_refusal_is_its_number_alone(self):
        for call in ((2, 3, 1), (2, 3, 0), (5, 121, 10)):
            self.assertEqual(greatest(*call), [-1])
        for call in ((0, 3, 1), (3, 3, 1), (2, 3, -1), (1, 1000001, 5)):
            self.assertEqual(greatest(*call), [-2])

    def test_a_second_call_answers_as_the_first(self):
        first = [greatest(*call) for call in CALLS]
        kept = [list(answer) for answer in first]
        # Changing what was given back must not reach a later answer.
        for answer in first:
            answer.append(99)
            answer[0] = 98
        self.assertEqual([greatest(*call) for call in CALLS], kept)
        self.assertEqual([greatest(*call) for call in reversed(CALLS)], kept[::-1])

    def test_it_prints_nothing(self):
        printed = io.StringIO()
        with contextlib.redirect_stdout(printed), contextlib.redirect_stderr(printed):
            for call in CALLS:
                greatest(*call)
        self.assertEqual(printed.getvalue(), "")

    def test_it_imports_nothing(self):
        tree = ast.parse(inspect.getsource(sums))
        self.assertFalse([node for node in ast.walk(tree) if isinstance(node, (ast.Import, ast.ImportFrom))])


if __name__ == "__main__":
    unittest.main()
