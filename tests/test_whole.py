"""What holds over the whole program, whichever call is made."""

import os
import pathlib
import subprocess
import sys
import unittest

from calls import INTERFACE, CallCase, copied
from samples import SAMPLES
from shorttextsdesk import texts

TESTS = pathlib.Path(__file__).resolve().parent


class WholeTest(CallCase):
    def test_each_call_of_the_interface_has_a_sample(self):
        self.assertEqual({name for name, args, wanted in SAMPLES}, set(INTERFACE))
        self.assertEqual(len(INTERFACE), 20)

    def test_samples(self):
        for name, args, wanted in SAMPLES:
            self.check(getattr(texts, name), args, wanted)

    def test_arguments_by_name(self):
        for name, args, wanted in SAMPLES:
            self.assertEqual(getattr(texts, name)(**dict(zip(INTERFACE[name], args))), wanted, name)

    def test_calls_between_change_nothing(self):
        calls = [(getattr(texts, name), args, wanted) for name, args, wanted in SAMPLES]
        for call, args, wanted in calls:
            for between, other_args, other_wanted in calls:
                self.assertEqual(call(*args), wanted, call)
                self.assertEqual(between(*other_args), other_wanted, (call, between))
                self.assertEqual(call(*args), wanted, (call, between))

    def test_a_list_that_holds_something_else_now(self):
        # Were an answer kept by the list that was handed in, it would be given for its new bytes too.
        handed = [[], [], []]
        for name, args, wanted in SAMPLES + SAMPLES[::-1]:
            lists = iter(handed)
            filled = []
            for arg in args:
                if isinstance(arg, list):
                    place = next(lists)
                    place[:] = copied(arg)
                    arg = place
                filled.append(arg)
            self.assertEqual(getattr(texts, name)(*filled), wanted, (name, args))

    def test_one_list_as_several_arguments(self):
        t = [97, 98]
        self.assertEqual(texts.join(t, t), [4, 97, 98, 97, 98])
        self.assertEqual(texts.replace(t, t, t), [2, 97, 98])
        self.assertEqual(texts.count(t, t), [1])
        self.assertEqual(texts.compare(0, t, t), [0])
        self.assertEqual(texts.like(t, t), [1])
        self.assertEqual(texts.trim(3, t, t), [0])
        self.assertEqual(t, [97, 98])

    def test_nothing_is_printed_read_or_imported(self):
        run = subprocess.run(
            [sys.executable, str(TESTS / "samples.py")],
            env=dict(os.environ, PYTHONPATH=str(TESTS.parent)),
            stdin=subprocess.DEVNULL,
            capture_output=True,
            text=True,
            timeout=60,
        )
        self.assertEqual((run.returncode, run.stdout, run.stderr), (0, "", ""))


if __name__ == "__main__":
    unittest.main()
