"""Calls of all kinds, each with its answer. Run by itself, it makes them all and fails if they reach for anything."""

import sys

from shorttextsdesk import texts

SAMPLES = (
    ("join", ([97, 98], [99]), [3, 97, 98, 99]),
    ("join", ([1] * 20, [2] * 20), [31] + [1] * 20 + [2] * 11),
    ("part", (-1, 3, [97, 98, 99]), [2, 97, 98]),
    ("find", (1, [97, 98, 97, 98], [97, 98]), [2]),
    ("find", (0, [97], [98]), [-1]),
    ("last", ([97, 98, 97, 98], [97, 98]), [2]),
    ("count", ([7, 7, 7], [7, 7]), [1]),
    ("count", ([7, 7, 7], []), [4]),
    ("replace", ([97, 98, 97], [97], [120, 121]), [5, 120, 121, 98, 120, 121]),
    ("cased", (0, [65, 98]), [2, 97, 98]),
    ("cased", (1, [65, 98]), [2, 65, 66]),
    ("cased", (2, [65, 98]), [2, 97, 66]),
    ("cased", (3, [97, 66, 32, 99]), [4, 65, 98, 32, 67]),
    ("cased", (4, [65, 98]), [2, 65, 98]),
    ("trim", (1, [32, 97, 32], [32]), [2, 97, 32]),
    ("trim", (2, [32, 97, 32], [32]), [2, 32, 97]),
    ("turn", ([97, 98, 99],), [3, 99, 98, 97]),
    ("only", (0, [97, 98, 97], [97]), [2, 97, 97]),
    ("only", (1, [97, 98, 97], [97]), [1, 98]),
    ("mask", ([97, 98, 97], [97]), [5]),
    ("compare", (0, [66], [97]), [-1]),
    ("compare", (1, [66], [97]), [1]),
    ("compare", (2, [66], [66]), [0]),
    ("like", ([97, 98, 99], [97, 42]), [1]),
    ("like", ([97, 98, 99], [63]), [0]),
    ("number", (16, [45, 70, 102]), [0, -255]),
    ("number", (1, [49]), [-2]),
    ("number", (10, [97]), [-3]),
    ("number", (36, [122] * 31), [-7]),
    ("digits", (-255, 16), [3, 45, 102, 102]),
    ("digits", (5, 37), [0]),
    ("hex_of", ([10, 255],), [4, 48, 97, 102, 102]),
    ("unhex", ([48, 97, 70, 102],), [2, 10, 255]),
    ("unhex", ([48, 97, 70],), [0]),
    ("hash_of", ([97],), [12638187200555641996]),
    ("hash_of", ([],), [14695981039346656037]),
    ("split", (44, [97, 44, 98, 99]), [2, 1, 97, 2, 98, 99]),
    ("split", (256, [97]), [-2]),
    ("sort", ([[98], [], [97, 99]],), [3, 0, 2, 97, 99, 1, 98]),
    ("sort", ([],), [0]),
)


def events_of_all_calls():
    """What Python tells its watchers of while the calls are made: files opened, modules imported and the like."""
    events = []
    watching = [True]
    calls = [(getattr(texts, name), args) for name, args, wanted in SAMPLES]
    sys.addaudithook(lambda event, args: events.append(event) if watching else None)
    for call, args in calls:
        call(*args)
    watching.clear()
    return events


if __name__ == "__main__":
    # Nothing is printed here, so that what the calls print is seen.
    sys.exit(1 if events_of_all_calls() else 0)
