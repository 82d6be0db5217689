"""What the document says of the whole program."""

import ast
import inspect
import unittest

from ahmesparts import sums


class Program(unittest.TestCase):
    def test_it_imports_nothing(self):
        tree = ast.parse(inspect.getsource(sums))
        self.assertFalse([node for node in ast.walk(tree) if isinstance(node, (ast.Import, ast.ImportFrom))])


if __name__ == "__main__":
    unittest.main()
