"""What the tests of several functions share."""

import contextlib
import copy
import inspect
import io

LIMIT = 2 ** 64
TOP = 4294967295
LEAST_INT = -2147483648
LARGEST_INT = 2147483647


class Interface:
    """What the interface says of every function.

    A test class names the function, its arguments and some calls, with every kind of answer among them.
    """

    function = None
    names = []
    calls = ()

    def test_the_arguments_names(self):
        self.assertEqual(list(inspect.signature(self.function).parameters), self.names)
        for call in self.calls:
            self.assertEqual(self.function(**dict(zip(self.names, call))), self.function(*call))

    def test_a_list_of_whole_numbers(self):
        for call in self.calls:
            with self.subTest(call=call):
                answer = self.function(*call)
                self.assertIs(type(answer), list)
                self.assertGreater(len(answer), 0)
                self.assertTrue(all(type(number) is int for number in answer))

    def test_a_refusal_is_its_number_alone(self):
        refusals = [answer for answer in (self.function(*call) for call in self.calls) if answer[0] < 0]
        self.assertIn([-2], refusals)
        self.assertIn([-1], refusals)
        self.assertFalse([answer for answer in refusals if answer not in ([-2], [-1])])

    def test_a_second_call_answers_as_the_first(self):
        first = [self.function(*call) for call in self.calls]
        kept = [list(answer) for answer in first]
        # Changing what was given back must not reach a later answer.
        for answer in first:
            answer.append(99)
            answer[0] = 98
        self.assertEqual([self.function(*call) for call in self.calls], kept)
        self.assertEqual([self.function(*call) for call in reversed(self.calls)], kept[::-1])

    def test_what_is_handed_in_is_not_changed(self):
        handed_in = copy.deepcopy(self.calls)
        for call in handed_in:
            self.function(*call)
        self.assertEqual(handed_in, self.calls)

    def test_it_prints_nothing(self):
        printed = io.StringIO()
        with contextlib.redirect_stdout(printed), contextlib.redirect_stderr(printed):
            for call in self.calls:
                self.function(*call)
        self.assertEqual(printed.getvalue(), "")


class ProperFractionRange:
    """-2 of the functions that are handed a proper fraction and most, at both sides of each edge.

    A test class names the function and what the document's words ask of a call that has no reason for -2.
    """

    function = None
    words = None

    def refuses(self, *calls):
        for call in calls:
            with self.subTest(call=call):
                self.assertEqual(self.function(*call), [-2])

    def answers(self, *calls):
        for call in calls:
            with self.subTest(call=call):
                answer = self.function(*call)
                self.assertGreater(answer[0], 0)
                self.assertEqual(answer, self.words(*call))

    def test_p_is_0(self):
        self.refuses((0, 1, 10), (0, 2, 10), (0, 1000000, 10))
        self.answers((1, 2, 10), (1, 1000000, 10))

    def test_q_is_0(self):
        self.refuses((1, 0, 10), (0, 0, 10), (1000000, 0, 10), (TOP, 0, 10))

    def test_p_equal_to_q(self):
        self.refuses((1, 1, 10), (2, 2, 10), (6, 6, 10), (999999, 999999, 10), (1000000, 1000000, 10))
        self.answers((1, 2, 10), (5, 6, 10))

    def test_p_above_q(self):
        self.refuses((2, 1, 10), (3, 2, 10), (7, 6, 10), (1000000, 999999, 10), (1000000, 1, 10))

    def test_q_above_1000000(self):
        self.answers((1, 999999, 10), (1, 1000000, 10), (3, 1000000, 10), (750000, 1000000, 10))
        self.refuses((1, 1000001, 10), (500000, 1000002, 10), (1, 2 ** 31, 10), (1, TOP, 10))

    def test_p_at_and_above_1000000(self):
        self.assertEqual(self.function(999999, 1000000, 65536), self.words(999999, 1000000, 65536))
        self.refuses((1000000, 1000001, 10), (1000001, 1000002, 10), (1000001, 2000002, 10))
        self.refuses((1000001, 1000000, 10), (TOP, 1000000, 10), (TOP - 1, TOP, 10), (TOP, TOP, 10))

    def test_most(self):
        self.refuses((2, 3, LEAST_INT), (2, 3, -2), (2, 3, -1))
        self.refuses((2, 3, 65537), (2, 3, 65538), (2, 3, LARGEST_INT))
        self.answers((2, 3, 2), (2, 3, 65535), (2, 3, 65536))
        self.assertEqual(self.function(2, 3, 0), [-1])

    def test_it_comes_before_no_answer(self):
        # Each has more numbers than most as well.
        self.refuses((1, 1000001, 0), (2, 1000001, 1), (1, 1, 0), (3, 2, 0), (1, 0, 0), (0, 1, 0))
        self.refuses((2, 3, -1), (2, 3, LEAST_INT))


class ProperFractionAnswers:
    """Many fractions against the document's words, and -1 at both sides of most.

    A test class names the function, what the document's words ask, and some fractions with how many numbers they have.
    """

    function = None
    words = None
    counts = ()

    def test_all_small_fractions_against_the_words(self):
        for q in range(2, 130):
            for p in range(1, q):
                self.assertEqual(self.function(p, q, 65536), self.words(p, q, 65536), (p, q))

    def test_small_fractions_with_every_small_most(self):
        for q in range(2, 40):
            for p in range(1, q):
                for most in range(9):
                    self.assertEqual(self.function(p, q, most), self.words(p, q, most), (p, q, most))

    def test_large_terms_against_the_words(self):
        for q in range(999000, 1000001, 8):
            for p in (1, 2, 3, q // 3, q // 2, q // 2 + 1, q - 2, q - 1):
                self.assertEqual(self.function(p, q, 65536), self.words(p, q, 65536), (p, q))

    def test_as_many_as_most_and_one_more(self):
        for p, q, count in self.counts:
            with self.subTest(p=p, q=q):
                self.assertEqual(self.function(p, q, count), self.words(p, q, 65536))
                self.assertEqual(len(self.function(p, q, count)), count + 1)
                self.assertEqual(self.function(p, q, count + 1), self.function(p, q, count))
                self.assertEqual(self.function(p, q, count - 1), [-1])

    def test_most_0(self):
        for p, q in ((1, 2), (2, 3), (1, 1000000), (999999, 1000000), (5, 121)):
            with self.subTest(p=p, q=q):
                self.assertEqual(self.function(p, q, 0), [-1])
