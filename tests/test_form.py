"""The interface's names and arguments, and the form of the package's files."""

import ast
import contextlib
import inspect
import io
import pathlib
import re
import unittest
from unittest import mock

from exactlutes import intervals

PACKAGE = pathlib.Path(intervals.__file__).parent
ARGUMENTS = {
    "is_interval": ["x"],
    "of": ["a", "b", "c", "e", "d"],
    "add": ["x", "y"],
    "sub": ["x", "y"],
    "times": ["n", "x"],
    "part": ["n", "x"],
    "order": ["x", "y"],
    "parts": ["n", "x"],
    "within": ["x"],
    "near": ["x", "l"],
    "print_text": ["x"],
    "read": ["t"],
}
# Arguments that are answered and such as are refused, for each call.
CALLS = (
    ("is_interval", ([7, 0, 0, 0, 12],)),
    ("is_interval", ([],)),
    ("of", (14, 0, 0, 0, 24)),
    ("of", (1, 0, 0, 0, 0)),
    ("add", ([7, 0, 0, 0, 12], [-1, 1, 0, 0, 1])),
    ("add", ([7, 0, 0, 0, 12], [])),
    ("sub", ([7, 0, 0, 0, 12], [-1, 1, 0, 0, 1])),
    ("sub", ([], [7, 0, 0, 0, 12])),
    ("times", (3, [7, 0, 0, 0, 12])),
    ("times", (3, [])),
    ("part", (7, [7, 0, 0, 0, 12])),
    ("part", (0, [7, 0, 0, 0, 12])),
    ("order", ([7, 0, 0, 0, 12], [-1, 1, 0, 0, 1])),
    ("order", ([], [7, 0, 0, 0, 12])),
    ("parts", (1200, [-1, 1, 0, 0, 1])),
    ("parts", (1201, [-1, 1, 0, 0, 1])),
    ("within", ([0, 1, 0, 0, 1],)),
    ("within", ([0, 99, 0, 0, 1],)),
    ("near", ([-1, 1, 0, 0, 1], [[1, 0, 0, 0, 1], [7, 0, 0, 0, 12]])),
    ("near", ([-1, 1, 0, 0, 1], [])),
    ("print_text", ([-19, 12, 0, 0, 12],)),
    ("print_text", ([],)),
    ("read", ([50, 94, 55, 47, 49, 50],)),
    ("read", ([50, 94],)),
)
PYTHONS_OWN = set(
    "len range enumerate zip min max sum abs sorted reversed int str bool list tuple dict set frozenset "
    "isinstance ord repr any all divmod".split()
)
OTHER_FORMS = (
    ast.Import, ast.ImportFrom, ast.With, ast.Delete, ast.Global, ast.Nonlocal, ast.Assert, ast.Yield, ast.Div,
    ast.GeneratorExp, ast.SetComp, ast.DictComp, ast.NamedExpr, ast.Starred, ast.AsyncFunctionDef,
)


def trees():
    return [(path, ast.parse(path.read_text("ascii"))) for path in sorted(PACKAGE.glob("*.py"))]


def call_all():
    for name, arguments in CALLS:
        getattr(intervals, name)(*arguments)


class Interface(unittest.TestCase):
    def test_every_call_is_tried_here(self):
        self.assertEqual({name for name, arguments in CALLS}, set(ARGUMENTS))

    def test_names_and_arguments(self):
        for name, names in ARGUMENTS.items():
            function = getattr(intervals, name)
            parameters = inspect.signature(function).parameters.values()
            self.assertEqual([parameter.name for parameter in parameters], names)
            for parameter in parameters:
                self.assertIs(parameter.default, inspect.Parameter.empty)

    def test_nothing_is_printed_or_read(self):
        out = io.StringIO()
        refuse = mock.Mock(side_effect=AssertionError("something is read"))
        with contextlib.redirect_stdout(out), contextlib.redirect_stderr(out):
            with mock.patch("builtins.open", refuse), mock.patch("sys.stdin", None):
                call_all()
        self.assertEqual(out.getvalue(), "")

    def test_nothing_is_kept(self):
        before = {name: repr(value) for name, value in vars(intervals).items() if name != "__builtins__"}
        call_all()
        after = {name: repr(value) for name, value in vars(intervals).items() if name != "__builtins__"}
        self.assertEqual(after, before)


class Form(unittest.TestCase):
    def test_only_python_files_lie_in_the_package(self):
        names = [path.name for path in PACKAGE.iterdir() if path.name != "__pycache__"]
        self.assertIn("__init__.py", names)
        for name in names:
            self.assertRegex(name, r"\A[a-z0-9_]+\.py\Z")

    def test_signs_and_sizes(self):
        for path in sorted(PACKAGE.glob("*.py")):
            lines = path.read_text("ascii").split("\n")
            self.assertLessEqual(len(lines), 400)
            for line in lines:
                self.assertRegex(line, r"\A[ -~]{0,120}\Z")
        for path, tree in trees():
            for node in ast.walk(tree):
                if isinstance(node, ast.FunctionDef):
                    self.assertLessEqual(node.end_lineno - node.lineno + 1, 40, node.name)

    def test_no_import_and_no_form_outside_the_language(self):
        for path, tree in trees():
            for node in ast.walk(tree):
                self.assertNotIsInstance(node, OTHER_FORMS, f"{path.name}: {node}")
                if isinstance(node, ast.Constant):
                    self.assertNotIsInstance(node.value, (float, complex, bytes))

    def test_only_listed_names_of_pythons_own(self):
        for path, tree in trees():
            nodes = list(ast.walk(tree))
            bound = {node.id for node in nodes if isinstance(node, ast.Name) and isinstance(node.ctx, ast.Store)}
            bound |= {node.name for node in nodes if isinstance(node, (ast.FunctionDef, ast.ClassDef))}
            bound |= {node.arg for node in nodes if isinstance(node, ast.arg)}
            self.assertEqual(bound & PYTHONS_OWN, set())
            for name in sorted(bound):
                self.assertTrue(re.match(r"[A-Za-z]", name), name)
            used = {node.id for node in nodes if isinstance(node, ast.Name)}
            self.assertEqual(used - bound - PYTHONS_OWN, set())


if __name__ == "__main__":
    unittest.main()
