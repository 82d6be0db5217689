"""What the document says of the whole program."""

import ast
import contextlib
import copy
import importlib.util
import inspect
import io
import itertools
import pathlib
import unittest

import ahmesparts
from ahmesparts import sums
from tests.helper import TOP

# Of each function an answer, a -1 and a -2.
CALLS = {
    "greatest": ((8, 11, 10), (5, 121, 10), (11, 8, 10)),
    "products": ((3, 7, 10), (3, 7, 2), (7, 3, 10)),
    "turns": ((3, 7, 10), (3, 7, 1), (7, 3, 10)),
    "all_ways": ((1, 2, 3, 100), (1, 2, 3, 9), (1, 31, 3, 100)),
    "sum_of": (([2, 3, 7],), ([TOP, TOP - 1, TOP - 2],), ([2, 0, 7],)),
    "one": ((11,), (77,), (1001,)),
}

ARGUMENTS = {
    "greatest": ["p", "q", "most"],
    "products": ["p", "q", "most"],
    "turns": ["p", "q", "most"],
    "all_ways": ["p", "q", "k", "most"],
    "sum_of": ["parts"],
    "one": ["n"],
}


def new_module():
    """The module as if the program had just begun."""
    spec = importlib.util.find_spec("ahmesparts.sums")
    module = importlib.util.module_from_spec(spec)
    spec.loader.exec_module(module)
    return module


def answered_alone():
    return {(name, kind): getattr(new_module(), name)(*CALLS[name][kind]) for name in CALLS for kind in range(3)}


class Program(unittest.TestCase):
    def test_the_functions_and_their_arguments(self):
        for name, arguments in ARGUMENTS.items():
            with self.subTest(name=name):
                function = getattr(sums, name)
                self.assertTrue(inspect.isfunction(function))
                parameters = inspect.signature(function).parameters
                self.assertEqual(list(parameters), arguments)
                # Nothing else is handed in, and nothing of it may be left out.
                self.assertTrue(all(one.default is inspect.Parameter.empty for one in parameters.values()))

    def test_it_imports_nothing(self):
        for path in pathlib.Path(ahmesparts.__file__).parent.glob("*.py"):
            tree = ast.parse(path.read_text(encoding="utf-8"))
            self.assertFalse([node for node in ast.walk(tree) if isinstance(node, (ast.Import, ast.ImportFrom))], path)

    def test_every_kind_of_answer(self):
        alone = answered_alone()
        for name in CALLS:
            with self.subTest(name=name):
                self.assertGreaterEqual(alone[name, 0][0], 0)
                self.assertEqual(alone[name, 1], [-1])
                self.assertEqual(alone[name, 2], [-2])

    def test_each_after_the_others_in_every_order(self):
        alone = answered_alone()
        for turn, order in enumerate(itertools.permutations(CALLS)):
            for place, name in enumerate(order):
                kind = (turn + place) % 3
                answer = getattr(sums, name)(*CALLS[name][kind])
                self.assertEqual(answer, alone[name, kind], (order, name))
                # Changing what was given back must not reach a later answer.
                answer.append(99)
                answer[0] = 98

    def test_each_call_after_each_other_call(self):
        alone = answered_alone()
        for first, second in itertools.product(alone, repeat=2):
            module = new_module()
            for name, kind in (first, second, first):
                self.assertEqual(getattr(module, name)(*CALLS[name][kind]), alone[name, kind], (first, second))

    def test_what_is_handed_in_is_not_changed(self):
        handed_in = copy.deepcopy(CALLS)
        for name, calls in handed_in.items():
            for call in calls:
                getattr(sums, name)(*call)
        self.assertEqual(handed_in, CALLS)

    def test_nothing_is_printed(self):
        printed = io.StringIO()
        with contextlib.redirect_stdout(printed), contextlib.redirect_stderr(printed):
            answered_alone()
        self.assertEqual(printed.getvalue(), "")


if __name__ == "__main__":
    unittest.main()
