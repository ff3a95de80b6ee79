"""The form of the package's files: what a short look at each can tell."""

import ast
import pathlib
import unittest

import boardways

FOLDER = pathlib.Path(boardways.__file__).parent
FILES = sorted(FOLDER.rglob("*.py"))
OWN_NAMES = frozenset(
    """len range enumerate zip min max sum abs sorted reversed int str bool list tuple dict set frozenset
    isinstance ord repr any all divmod Exception ValueError TypeError KeyError IndexError LookupError
    ZeroDivisionError ArithmeticError OverflowError RuntimeError NotImplementedError AttributeError
    StopIteration""".split()
)


def tree(path):
    return ast.parse(path.read_text(encoding="utf-8"))


def bound_names(nodes):
    """Every name that a file binds itself, wherever it does."""
    names = set()
    for node in nodes:
        if isinstance(node, (ast.FunctionDef, ast.ClassDef)):
            names.add(node.name)
        elif isinstance(node, ast.arg):
            names.add(node.arg)
        elif isinstance(node, ast.alias):
            names.add(node.asname or node.name)
        elif isinstance(node, ast.Name) and isinstance(node.ctx, ast.Store):
            names.add(node.id)
        elif isinstance(node, ast.ExceptHandler) and node.name:
            names.add(node.name)
    return names


class Form(unittest.TestCase):
    def test_only_python_files_lie_in_the_package(self):
        others = [path for path in FOLDER.rglob("*") if path.is_file() and path.suffix != ".py"]
        self.assertEqual([path for path in others if path.parent.name != "__pycache__"], [])
        self.assertIn(FOLDER / "desk.py", FILES)

    def test_signs_and_sizes(self):
        for path in FILES:
            text = path.read_bytes()
            lines = text.split(b"\n")
            with self.subTest(path=path.name):
                self.assertTrue(all(sign == 10 or 32 <= sign <= 126 for sign in text))
                self.assertLessEqual(len(lines), 400)
                self.assertLessEqual(max(map(len, lines)), 120)

    def test_no_function_is_long(self):
        for path in FILES:
            for node in ast.walk(tree(path)):
                if isinstance(node, ast.FunctionDef):
                    with self.subTest(path=path.name, function=node.name):
                        self.assertLessEqual(node.end_lineno - node.lineno + 1, 40)

    def test_nothing_from_outside_is_imported(self):
        for path in FILES:
            for node in ast.walk(tree(path)):
                with self.subTest(path=path.name):
                    self.assertNotIsInstance(node, ast.Import)
                    if isinstance(node, ast.ImportFrom):
                        self.assertEqual(node.level, 0)
                        self.assertEqual(node.module.split(".")[0], "boardways")

    def test_only_listed_names_of_pythons_own(self):
        for path in FILES:
            nodes = list(ast.walk(tree(path)))
            read = {node.id for node in nodes if isinstance(node, ast.Name)}
            with self.subTest(path=path.name):
                self.assertEqual(sorted(read - bound_names(nodes) - OWN_NAMES), [])


if __name__ == "__main__":
    unittest.main()
