"""What several tests share."""

LEAST = -2147483648
GREATEST = 2147483647


def refuse_change(self, *args, **kwargs):
    raise AssertionError("a list that was handed in is changed")


class GuardedList(list):
    """A list that fails the test at any change, even one that is taken back later."""

    append = extend = insert = pop = remove = clear = refuse_change
    sort = reverse = refuse_change
    __setitem__ = __delitem__ = __iadd__ = __imul__ = refuse_change


def check_answer(case, answer, expected):
    """The answer is a plain list of plain whole numbers (so True is not 1), and the expected one."""
    case.assertIs(type(answer), list)
    for number in answer:
        case.assertIs(type(number), int)
    case.assertEqual(answer, expected)
