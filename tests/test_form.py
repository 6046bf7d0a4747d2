"""The interface's names, and the rules of the language that can be read off the package's files."""

import ast
import builtins
import inspect
import pathlib
import unittest

import shorttextsdesk
from calls import INTERFACE
from shorttextsdesk import texts

PACKAGE = pathlib.Path(shorttextsdesk.__file__).parent
BUILT_IN_NAMES_OF_L8 = """
    len range enumerate zip min max sum abs sorted reversed int str bool list tuple dict set frozenset isinstance ord
    repr any all divmod Exception ValueError TypeError KeyError IndexError LookupError ZeroDivisionError
    ArithmeticError OverflowError RuntimeError NotImplementedError AttributeError StopIteration
""".split()


def package_files():
    return [path for path in sorted(PACKAGE.rglob("*")) if "__pycache__" not in path.parts]


def package_nodes():
    return [(path, node) for path in package_files() for node in ast.walk(ast.parse(path.read_text("ascii")))]


class FormTest(unittest.TestCase):
    def test_interface(self):
        for name, wanted in INTERFACE.items():
            parameters = inspect.signature(getattr(texts, name)).parameters.values()
            self.assertEqual([parameter.name for parameter in parameters], wanted, name)
            for parameter in parameters:
                self.assertIs(parameter.default, inspect.Parameter.empty, name)

    def test_the_folder_holds_python_files_alone(self):
        self.assertIn(PACKAGE / "__init__.py", package_files())
        for path in package_files():
            self.assertEqual(path.suffix, ".py")

    def test_rows_and_signs(self):
        for path in package_files():
            text = path.read_bytes().decode("ascii")
            self.assertTrue(all(sign == "\n" or " " <= sign <= "~" for sign in text), path)
            rows = text.split("\n")
            self.assertLessEqual(len(rows), 400, path)
            self.assertLessEqual(max(len(row) for row in rows), 120, path)

    def test_functions_are_short(self):
        for path, node in package_nodes():
            if isinstance(node, ast.FunctionDef):
                self.assertLessEqual(node.end_lineno - node.lineno + 1, 40, (path, node.name))

    def test_nothing_is_imported(self):
        for path, node in package_nodes():
            self.assertNotIsInstance(node, (ast.Import, ast.ImportFrom), path)

    def test_nothing_could_be_kept(self):
        # Whatever is kept from one call to the next lies in a name or value of the module, or on a function.
        for name, value in vars(texts).items():
            if inspect.isfunction(value):
                self.assertEqual((value.__defaults__, value.__closure__), (None, None), name)
            elif not name.startswith("__"):
                self.assertIs(type(value), int, name)
        for path, node in package_nodes():
            self.assertNotIsInstance(node, (ast.Global, ast.Nonlocal), path)
            if isinstance(node, ast.Attribute):
                self.assertIsInstance(node.ctx, ast.Load, (path, node.lineno))

    def test_only_built_in_names_of_the_language(self):
        for path, node in package_nodes():
            if isinstance(node, ast.Name) and hasattr(builtins, node.id):
                self.assertIn(node.id, BUILT_IN_NAMES_OF_L8, (path, node.lineno))


if __name__ == "__main__":
    unittest.main()
