"""What the tests of all calls share."""

import unittest

# The least and the greatest int of the document.
LEAST = -2147483648
MOST = 2147483647


def refuse(self, *args, **kwargs):
    raise AssertionError("what was handed in was changed")


class Guarded(list):
    """A list that can't be changed, not for a while either."""

    append = clear = extend = insert = pop = remove = reverse = sort = refuse
    __setitem__ = __delitem__ = __iadd__ = __imul__ = refuse


def copied(value):
    return list(value) if isinstance(value, list) else value


def guarded(value):
    return Guarded(value) if isinstance(value, list) else value


def of(text):
    """The bytes of a written text."""
    return list(text.encode("latin-1"))


def text_answer(wanted):
    return [len(wanted)] + wanted


class CallCase(unittest.TestCase):
    def check(self, call, args, wanted):
        """The call answers what is wanted, each time, and leaves what was handed in as it was."""
        handed = [copied(arg) for arg in args]
        first = call(*handed)
        self.assertEqual(first, wanted, (call.__name__, args))
        self.assertEqual(handed, list(args))
        self.assertIs(type(first), list)
        for value in first:
            self.assertIs(type(value), int)
        # Were the answer kept, or a list that was handed in, its change would show below.
        first.append(77)
        first[0] = 99
        self.assertEqual(handed, list(args))
        self.assertEqual(call(*handed), wanted, (call.__name__, args))
        self.assertEqual(call(*[guarded(arg) for arg in args]), wanted, (call.__name__, args))
